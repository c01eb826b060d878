/- EvX, Ev11, EvN: parts of the proof, joined. -/
import Derived.Laws.BytesString
import Derived.Laws.RangeString
import Derived.Test.YtbbapnpdfcgjnaaGreatDoorMEv9
open Go.Result renaming andThen->sD
open Go.Sem renaming run_bind->sE
open Go renaming Value->sG, execOp->sH, TypeId->sI, Operand->sJ, run_convert_bytes_string->sK, eqGuard->sN, Program->sQ, run_bytesToString->sY, MapEntry->td
open Go.Utf8 renaming decode->sL
open Go.Builtin renaming clear_->sM, copy_->sR, firstCells->sS, zeroCells->sU, append_->tb
open Array renaming toList_map->sO, map->sP, getElem?_push->sV
open UInt8 renaming ofNat->sT
open Option renaming rec->sX
open Nat renaming min->sZ, le_refl->ta, add_zero->tg
open Go.Instr renaming next->tc, range->ti, alloc->tj
set_option maxHeartbeats 64000000
namespace Go.Proofs.YtbbapnpdfcgjnaaGreatDoor
section
namespace Ev
variable {P:sQ} {μ:Mu} {A:AW} {w:World}
theorem lz:∀{l:List sG} {bs:List UInt8},dw l=some bs->∃ns:List Int,l=ns.map (sG.int .u8)/\bs=ns.map fun n=>sT n.toNat
 | [],bs,h=>by simp only[dw] at h;cases h;exact⟨[],rfl,rfl⟩
 | x::l,bs,h=>by
  unfold dw at h
  split at h
  ·rename_i heq;cases heq
  ·rename_i n r heq
   cases heq
   split at h
   ·rename_i bs' hbs
    cases h
    obtain⟨ns,rfl,rfl⟩:=lz hbs;exact⟨n::ns,rfl,rfl⟩
   ·cases h
  ·cases h
theorem rB:∀(ns:List Int) (s:ByteArray),ns.foldl (fun r n=>r.push (sT n.toNat)) s=⟨(s.data.toList++ns.map fun n=>sT n.toNat).toArray⟩
 | [],s=>by simp
 | n::ns,s=>by
  rw[List.foldl_cons,rB ns]
  simp[ByteArray.push]
noncomputable def zru (P:sQ) (A:AW) (src dst:sI) (x:sG):Option sG:=
 match P.underlying src,P.underlying dst with
 | some (.slice e),some .string=>match P.underlying e with
  | some (.int .u8)=>match x with
   | .slice none _ _=>some (.string .empty)
   | .slice (some a) n _=>if n=0 then some (.string .empty) else match A.get a.block with
    | some (.cells vs _ _ _ _)=>if a.off+n<=vs.length then
      match dw ((vs.drop a.off).take n) with
      | some bs=>some (.string ⟨bs.toArray⟩)
      | none=>none
     else none
    | _=>none
   | _=>none
  | _=>none
 | _,_=>none
theorem zrt {src dst:sI} {x x' v:sG} (W:WR μ A w) (hx:VR μ x x') (h:zru P A src dst x=some v):∃v',(convert src dst x').run P w= .ok v' w/\VR μ v v':=by
 unfold zru at h
 split at h
 ·rename_i e hs hd
  split at h
  ·rename_i he
   split at h
   ·cases h;simp only[VR] at hx;subst hx
    exact⟨.string .empty,by rw[sK w src dst e none _ _ hs he hd];rfl,by simp[VR]⟩
   ·rename_i a n c
    simp only[VR] at hx
    obtain⟨a',c',rfl,hS⟩:=hx
    split at h
    ·rename_i h0;cases h;subst h0
     refine⟨.string .empty,?_,by simp[VR]⟩
     rw[sK w src dst e (some a') _ _ hs he hd,sY w a' 0 c' [] rfl]
     rfl
    ·rename_i h0
     split at h
     ·rename_i vs t op fz es hg
      split at h
      ·rename_i hle
       split at h
       ·rename_i bs hbs
        cases h
        obtain⟨xs',h1,h2⟩:=eK (P:=P) W (hS.addr (by omega)) hg hle
        have ku:=bI (gL hbs) h2;subst ku;obtain⟨ns,hns,rfl⟩:=lz hbs;rw[hns] at h1;refine⟨_,by rw[sK w src dst e (some a') _ _ hs he hd,sY w a' n c' ns h1],?_⟩
        rw[rB]
        simp only[VR]
        rfl
       ·cases h
      ·cases h
     ·cases h
   ·cases h
  ·cases h
 ·cases h
noncomputable def zpa (P:sQ) (A:AW) (dst:sI):sG->Option (sG × AW)
 | .string s=>match P.underlying dst with
  | some (.slice e)=>match P.underlying e,P.info? e with
   | some (.int .u8),some ie=>if ie.size=1/\s.size<=1000000 then some (.slice (some ⟨A.next,0,none⟩) s.size oh,A.push (.cells (du s s.size) e true (some 0) 1)) else none
   | _,_=>none
  | _=>none
 | _=>none
theorem zrr {src dst:sI} {x x' v:sG} {A':AW} {ds:TypeDesc} (W:WR μ A w) (hsrc:P.underlying src=some ds) (hx:VR μ x x') (h:zpa P A dst x=some (v,A')):
  ∃μ' v' w',(convert src dst x').run P w= .ok v' w'/\VR μ' v v'/\WR μ' A' w'/\bB μ A w μ' A' w':=by
 unfold zpa at h
 split at h
 ·rename_i s
  simp only[VR] at hx;subst hx
  split at h
  ·rename_i e hd
   split at h
   ·rename_i ie he hie
    split at h
    ·rename_i hc
     cases h
     obtain⟨W1,E1⟩:=W.drawn (w.drawn+1);have hlen:(du s s.size).length=s.size:=by
      unfold du;rw[sO,List.length_map]
      simp
     have hcut:∃m,s.size<=m/\m=Question.cut (.appendCap s.size 0 e) (w.tape w.drawn (.appendCap s.size 0 e)):=⟨_,by simp[Question.cut],rfl⟩
     obtain⟨m,hm,hme⟩:=hcut;have hb:(s.data.map fun b=>sG.int .u8 b.toNat)=(du s s.size).toArray:=by
      unfold du;have:s.extract 0 s.size=s:=by simp
      rw[this]
     have hLR:LR μ (du s s.size) (du s s.size):=bm (by unfold du;rw[sO];exact iA _)
     let c:Array sG:=(du s s.size).toArray++Array.replicate (m - s.size) (.int .u8 0)
     have hcs:c.size=m:=by simp only[c,Array.size_append,List.size_toArray,hlen,Array.size_replicate];omega
     have hN:=W1.new (d:=0) (sz:=m) (k:=1) (o:=.cells (du s s.size) e true (some 0) 1) (o':=.cells c e (m,m+1)) (by
      have hle:=Mu.add_le (x:=⟨w.heap.size,0,m,1⟩) (W1.dom A.next (ta _));refine⟨c,(m,m+1),rfl,hcs,by simp only[Nat.zero_add,hlen];exact hm,by simp,rfl,?_,?_⟩
      ·simp only[List.drop_zero,c,Array.toList_append]
       rw[List.take_left' rfl];exact hLR.mono hle
      ·simp only[FZ];intro i hi;simp at hi⊢;omega)
     refine⟨_,.slice (some ⟨w.heap.size,0,none⟩) s.size m,_,?_,?_,hN.1,E1.trans hN.2⟩
     ·have hconv:(convert src dst (.string s)).run P w=(Conv.stringToBytes e s).run P w:=by
       unfold convert
       simp only[sE,rU hsrc,rU hd,sD,rU he]
      rw[hconv]
      simp only[Conv.stringToBytes,sE,run_choose,Question.forced,Bool.false_eq_true,if_false,sD]
      rw[<- hme,hb]
      simp only[newRow,sE,run_newObj,sD,Sem.run_pure,markStringish,run_shape,World.shape?,Array.getElem?_push_size,run_freeze]
      have hfz:World.freeze {w with drawn:=w.drawn+1,heap:=w.heap.push (.cells c e)} {block:=w.heap.size,off:=c.size} 1={w with drawn:=w.drawn+1,heap:=w.heap.push (.cells c e (m,m+1))}:=by
       unfold World.freeze;rw[if_neg (by omega)]
       congr 1
       apply Array.ext_getElem?
       intro j;rw[Array.getElem?_modify,sV,sV]
       by_cases e':w.heap.size=j
       ·subst e';simp[hcs]
       ·have:¬j=w.heap.size:=fun h=>e' h.symm
        simp[e',this]
      exact congrArg (fun W'=>Result.ok (sG.slice (some ⟨w.heap.size,0,none⟩) s.size m) W') hfz
     ·simp only[VR]
      exact⟨_,_,rfl,.inr ⟨rfl,.inr ⟨rfl,hm,_,Mu.add_get (W1.dom A.next (ta _)),by simp,by simp⟩⟩⟩
    ·cases h
   ·cases h
  ·cases h
 ·cases h
noncomputable def zpg (P:sQ) (A:AW) (dType:sI) (d s:sG):Option (sG × AW):=
 match P.underlying dType,kQ s with
 | some (.slice elem),some sl=>match P.info? elem,d with
  | some _,.slice none dl _=>if sZ sl dl=0 then some (goInt 0,A) else none
  | some ie,.slice (some a) dl _=>if sZ sl dl=0 then some (goInt 0,A) else
    match A.get a.block,p8 A ie.size (sZ sl dl) s with
    | some (.cells vs t op fz es),some xs=>if xs.all (·.oneCell')=true/\a.off+xs.length<=vs.length/\zkO fz a.off=true then
      some (goInt (sZ sl dl),A.set a.block (some (.cells (aP vs a.off xs) t op fz es)))
     else none
    | _,_=>none
  | _,_=>none
 | _,_=>none
theorem pS {x x':sG} {size m:Nat} (hx:VR μ x x') (hm:kQ x=some m):(sS size 0 x').run P w= .ok #[] w:=by
 unfold kQ at hm
 split at hm
 ·rename_i a n c
  cases a with
  | none=>simp only[VR] at hx;subst hx;rfl
  | some a=>simp only[VR] at hx;obtain⟨_,_,rfl,_⟩:=hx;simp[sS,loadCells,loadCellsFrom]
 ·simp only[VR] at hx;subst hx;simp[sS]
 ·cases hm
theorem zpf {dType sType ty:sI} {d d' s s' v:sG} {A':AW} (W:WR μ A w) (hd:VR μ d d') (hs:VR μ s s') (h:zpg P A dType d s=some (v,A')):
  ∃v' w',(sR #[dType,sType] ty #[d',s']).run P w= .ok v' w'/\VR μ v v'/\WR μ A' w'/\bB μ A w μ A' w':=by
 unfold zpg at h
 split at h
 ·rename_i elem sl hu hsl
  split at h
  ·rename_i ie dl dc hie
   simp only[VR] at hd;subst hd
   split at h
   ·rename_i h0
    cases h
    refine⟨goInt 0,w,?_,by simp[goInt,VR],W,bB.refl⟩
    simp[sR,rU hu,d7 hs hsl,rS hie,h0,pS hs hsl]
   ·cases h
  ·rename_i ie a dl dc hie
   simp only[VR] at hd
   obtain⟨a',c',rfl,hS⟩:=hd
   split at h
   ·rename_i h0
    cases h
    refine⟨goInt 0,w,?_,by simp[goInt,VR],W,bB.refl⟩
    simp[sR,rU hu,d7 hs hsl,rS hie,h0,pS hs hsl,storeCells]
   ·rename_i h0
    split at h
    ·rename_i vs t op fz es xs hg ku
     split at h
     ·rename_i hc
      obtain⟨h1,h2,h3⟩:=hc
      cases h
      obtain⟨xs',h4,h5⟩:=dD (P:=P) W hs hsl (Nat.min_le_left _ _) ku;have hdl:0<dl:=by
       have:sZ sl dl<=dl:=Nat.min_le_right sl dl;omega
      obtain⟨w',h6,h7,h8⟩:=eY (P:=P) W (hS.addr hdl) hg h5 h1 h2 h3;refine⟨goInt (sZ sl dl),w',?_,by simp[goInt,VR],h7,h8⟩
      simp[sR,rU hu,d7 hs hsl,rS hie,h4,h6]
     ·cases h
    ·cases h
  ·cases h
 ·cases h
noncomputable def zgT (P:sQ) (A:AW) (t:sI):sG->Option AW
 | .slice none _ _=>match P.underlying t with
  | some _=>some A
  | none=>none
 | .slice (some _) 0 _=>match P.underlying t with
  | some _=>some A
  | none=>none
 | .slice (some a) (n+1) _=>match P.underlying t with
  | some (.slice elem)=>match P.info? elem with
   | some ie=>match ie.zero with
    | some z=>match A.get a.block with
     | some (.cells vs ty op fz es)=>if bP z=true/\(cF (n+1) (aD z)).all (·.oneCell')=true/\a.off+(cF (n+1) (aD z)).length<=vs.length/\zkO fz a.off=true then
       some (A.set a.block (some (.cells (aP vs a.off (cF (n+1) (aD z))) ty op fz es)))
      else none
     | _=>none
    | none=>none
   | none=>none
  | _=>none
 | _=>none
theorem ziR (z:sG) (m:Nat):sU z.cells m=(cF m (aD z)).toArray:=by
 unfold sU;rw[gA,ck]
theorem qW {z:List sG} (h:LR μ z z):∀n,LR μ (cF n z) (cF n z)
 | 0=>LR.nil
 | n+1=>h.append (qW h n)
theorem zkL {t ty:sI} {x x':sG} {A':AW} (W:WR μ A w) (hx:VR μ x x') (h:zgT P A t x=some A'):
  ∃w',(sM #[t] ty #[x']).run P w= .ok (.tuple #[]) w'/\WR μ A' w'/\bB μ A w μ A' w':=by
 unfold zgT at h
 split at h
 ·split at h
  ·rename_i d hd
   cases h
   simp only[VR] at hx;subst hx
   exact⟨w,by simp[sM,rU hd],W,bB.refl⟩
  ·cases h
 ·split at h
  ·rename_i d hd
   cases h
   simp only[VR] at hx;obtain⟨a',c',rfl,_⟩:=hx
   exact⟨w,by simp[sM,rU hd],W,bB.refl⟩
  ·cases h
 ·rename_i a n c
  simp only[VR] at hx;obtain⟨a',c',rfl,hS⟩:=hx
  split at h
  ·rename_i elem hd
   split at h
   ·rename_i ie hi
    split at h
    ·rename_i z hz
     split at h
     ·rename_i vs ty' op fz es hg
      split at h
      ·rename_i hc
       obtain⟨h1,h2,h3,h4⟩:=hc
       cases h
       have hL:LR μ (aD z) (aD z):=by
        have:=iI (cr (μ:=μ) h1)
        rwa [ck] at this
       obtain⟨w',h6,h7,h8⟩:=eY (P:=P) W (hS.addr (Nat.succ_pos _)) hg (qW hL (n+1)) h2 h3 h4;refine⟨w',?_,h7,h8⟩;have e:(sU z.cells (n+1)).toList=cF (n+1) (aD z):=by rw[ziR]
       simp[sM,rU hd,rZ hi hz,e,h6]
      ·cases h
     ·cases h
    ·cases h
   ·cases h
  ·cases h
 ·cases h
noncomputable def zbx (P:sQ) (A:AW) (t:sI):sG->Option (sG × AW)
 | .string s=>match P.underlying t with
  | some .string=>some (.pointer (some ⟨A.next,0,none⟩),A.push (.sit s 0))
  | _=>none
 | _=>none
theorem zkH {t:sI} {x x' v:sG} {A':AW} (W:WR μ A w) (hx:VR μ x x') (h:zbx P A t x=some (v,A')):∃μ' v' w',(ti t x').run P w= .ok v' w'/\VR μ' v v'/\WR μ' A' w'/\bB μ A w μ' A' w':=by
 unfold zbx at h
 split at h
 ·rename_i s
  simp only[VR] at hx;subst hx
  split at h
  ·rename_i hu
   cases h
   have hN:=W.new (d:=0) (sz:=0) (k:=0) (o:=.sit s 0) (o':=.stringIter s 0) ⟨rfl,rfl⟩;refine⟨_,.pointer (some ⟨w.heap.size,0,none⟩),_,?_,?_,hN⟩
   ·simp[ti,rU hu]
   ·simp only[VR];exact⟨_,rfl,zbH (W.dom _ (ta _))⟩
  ·cases h
 ·cases h
noncomputable def ziN (A:AW) (str:Bool):sG->Option (sG × AW)
 | .pointer (some ⟨r,0,none⟩)=>match A.get r,str with
  | some (.sit s pos),true=>if pos<s.size then some (.tuple ⟨[.bool true,goInt pos,.int .i32 (sL s pos).1]⟩,A.set r (some (.sit s (pos+(sL s pos).2)))) else some (.tuple ⟨[.bool false]⟩,A)
  | _,_=>none
 | _=>none
theorem zpd {str:Bool} {ty:sI} {x x' v:sG} {A':AW} (W:WR μ A w) (hx:VR μ x x') (h:ziN A str x=some (v,A')):∃v' w',(tc x' str ty).run P w= .ok v' w'/\VR μ v v'/\WR μ A' w'/\bB μ A w μ A' w':=by
 unfold ziN at h
 split at h
 ·rename_i r
  simp only[VR] at hx
  obtain⟨a',rfl,_,l,hm,rfl⟩:=hx
  split at h
  ·rename_i s pos hg
   obtain⟨o',h2,h3⟩:=W.has _ _ l hg hm;obtain⟨hd0,rfl⟩:=h3;have hget:(getObj l.b).run P w= .ok (.stringIter s pos) w:=by simp[getObj,Sem.run,h2]
   split at h
   ·rename_i hlt
    cases h
    have hset:(setObj l.b (.stringIter s (pos+(sL s pos).2))).run P w= .ok () {w with heap:=w.heap.setIfInBounds l.b (.stringIter s (pos+(sL s pos).2))}:=by simp[setObj,Sem.run,h2]
    have hU:=W.upd (o:=.sit s (pos+(sL s pos).2)) (o':=.stringIter s (pos+(sL s pos).2)) hg hm ⟨hd0,rfl⟩;refine⟨.tuple #[.bool true,goInt pos,.int .i32 (sL s pos).1],_,?_,?_,hU⟩
    ·simp only[tc,hd0,tg,sE,hget,sD,hlt,if_true,hset,Sem.run_pure]
    ·simp only[VR]
     exact⟨_,rfl,LR.cons (by simp[VR]) (LR.cons (by simp[goInt,VR]) (LR.cons (by simp[VR]) LR.nil))⟩
   ·rename_i hge
    cases h
    refine⟨.tuple #[.bool false],w,?_,?_,W,bB.refl⟩
    ·simp only[tc,hd0,tg,sE,hget,sD,hge,if_false,Sem.run_pure]
    ·simp only[VR]
     exact⟨_,rfl,LR.cons (by simp[VR]) LR.nil⟩
  ·cases h
 ·cases h
end Ev
end
section
namespace Ev
variable {P:sQ} {μ:Mu} {A:AW} {w:World}
noncomputable def mu (P:sQ) (A:AW) (sType xType:sI) (s x:sG):Option (sG × AW):=
 match P.underlying sType,P.underlying xType,kQ s,kQ x with
 | some (.slice elem),some dx,some len,some n=>match P.info? elem with
  | some ie=>match ie.zero with
   | some z=>if zaP dx=false/\bP z=true/\(aD z).length=ie.size/\ie.bytes<=65536/\0<ie.size/\len+n<=1000000 then zbE A elem ie.size s x n else none
   | none=>none
  | none=>none
 | _,_,_,_=>none
theorem zbD {sType xType ty:sI} {s s' x x' v:sG} {A':AW} (W:WR μ A w) (hs:VR μ s s') (hx:VR μ x x') (h:mu P A sType xType s x=some (v,A')):
  ∃μ' v' w',(tb #[sType,xType] ty #[s',x']).run P w= .ok v' w'/\VR μ' v v'/\WR μ' A' w'/\bB μ A w μ' A' w':=by
 unfold mu at h
 split at h
 ·rename_i elem dx len n h1 h2 h3 h4
  split at h
  ·rename_i ie hie
   split at h
   ·rename_i z hz
    split at h
    ·rename_i hc
     obtain⟨c1,c2,c3,c4,c5,c6⟩:=hc;exact zgU {ie,z,dx,hd:=h1,hx:=h2,hn:=c1,hi:=hie,hs:=rfl,hz,hf:=c2,hl:=c3,hb:=c4,h0:=c5} W hs hx h4 h3 c6 h
    ·cases h
   ·cases h
  ·cases h
 ·cases h
noncomputable def eS (P:sQ) (l:bN) (o:Oper) (A:AW) (b:Builtin) (args:List sJ) (ts:List sI):Option (sG × AW):=
 match fi P l o with
 | some v=>some (v,A)
 | none=>match b,args,ts with
  | .len,[x],[t]=>match bz l x with
   | some v=>match zvN P A t v with
    | some r=>some (r,A)
    | none=>none
   | none=>none
  | .append,[x,y],[t,u]=>match bz l x,bz l y with
   | some s,some e=>mu P A t u s e
   | _,_=>none
  | .unsafeSliceData,[x],_=>match bz l x with
   | some v=>match kp v with
    | some r=>some (r,A)
    | none=>none
   | none=>none
  | .unsafeString,[x,y],[t,_]=>match bz l x,bz l y with
   | some p,some n=>zbt P A t p n
   | _,_=>none
  | .copy,[x,y],[t,_]=>match bz l x,bz l y with
   | some p,some n=>zpg P A t p n
   | _,_=>none
  | .clear,[x],[t]=>match bz l x with
   | some v=>match zgT P A t v with
    | some A'=>some (.tuple #[],A')
    | none=>none
   | none=>none
  | _,_,_=>none
def o1 {α:Type} (x:Option α) (A:AW):Option (α × AW):=
 match x with
 | some v=>some (v,A)
 | none=>none
noncomputable def zcF (l:bN):Option sJ->Option (Option sG)
 | none=>some none
 | some x=>match bz l x with
  | some v=>some (some v)
  | none=>none
theorem nG {l:bN} {a:Act} {x:Option sJ} {v:Option sG} (h:TR μ l a.tmps.toList) (hx:zcF l x=some v):OVR μ v (x.map a.eval):=by
 unfold zcF at hx
 split at hx
 ·cases hx;simp[OVR]
 ·split at hx
  ·rename_i hv;cases hx;simp only[OVR,Option.map_some];exact⟨_,rfl,au h hv⟩
  ·cases hx
noncomputable def zoX (P:sQ) (l:bN) (t:sI) (x:sJ) (lo hi:Option sJ):Option sG:=
 match bz l x,zcF l lo,zcF l hi with
 | some v,some a,some b=>zoW P t v a b
 | _,_,_=>none
noncomputable def kq (P:sQ) (l:bN) (o:Oper) (A:AW):Option (sG × AW):=
 match o.op with
 | .move x | .assign x=>o1 (bz l x) A
 | .pick c a b=>match bz l c with
  | some (.bool true)=>o1 (bz l a) A
  | some (.bool false)=>o1 (bz l b) A
  | _=>none
 | .alloc t=>match P.info? t with
  | some i=>match i.zero with
   | some z=>if bP z then some (zfh A t (aD z) 1) else none
   | none=>none
  | none=>none
 | .box t x=>match bz l x with
  | some v=>some (zfh A t (aD v) 1)
  | none=>none
 | .build t ps=>o1 (zbC P l t ps.toList) A
 | .buildSlice t n ps=>fj P A l t n ps.toList
 | .load t x=>match bz l x with
  | some p=>o1 (lE P A t p) A
  | none=>none
 | .store t x y=>match bz l x,bz l y with
  | some p,some v=>match zbu P A t v p with
   | some A'=>some (undef,A')
   | none=>none
  | _,_=>none
 | .nilCheck x=>match bz l x with
  | some v=>if zaz v then some (v,A) else none
  | none=>none
 | .binOp op t x y _=>match fi P l o with
  | some v=>some (v,A)
  | none=>match bz l x,bz l y with
   | some a,some b=>o1 (aEq P A op t a b) A
   | _,_=>none
 | .unOp _ _ _ | .index _ _ _=>o1 (fi P l o) A
 | .convert s d x=>match fi P l o with
  | some v=>some (v,A)
  | none=>match bz l x with
   | some v=>match zru P A s d v with
    | some r=>some (r,A)
    | none=>match nZ P A s d v with
     | some r=>some (r,A)
     | none=>match P.underlying s with
      | some _=>zpa P A d v
      | none=>none
   | none=>none
 | .range t x=>match bz l x with
  | some v=>zbx P A t v
  | none=>none
 | .next x str=>match bz l x with
  | some v=>ziN A str v
  | none=>none
 | .makeInterface t x=>match bz l x with
  | some v=>o1 (zbA P t v) A
  | none=>none
 | .makeFunc (.func f) first captured=>match zcE l first.toList,zcE l captured.toList with
  | some a,some b=>some (.func (.func f) ⟨a⟩ ⟨b⟩,A)
  | _,_=>none
 | .makeMap _ none=>some (.map (some A.next),A.push (.map [] 0))
 | .makeMap t (some x)=>match P.underlying t,bz l x with
  | some (.map _ _),some (.int _ _)=>some (.map (some A.next),A.push (.map [] 0))
  | _,_=>none
 | .makeSlice t x y=>match bz l x,bz l y with
  | some a,some b=>gN P A t a b
  | _,_=>none
 | .slice t x lo hi none=>match zoX P l t x lo hi with
  | some v=>some (v,A)
  | none=>match fi P l o with
   | some v=>some (v,A)
   | none=>match bz l x,zcF l lo,zcF l hi with
    | some v,some a,some b=>o1 (zbv P A t a b v) A
    | _,_,_=>none
 | .fieldAddr s x f=>match bz l x with
  | some v=>o1 (zbB P s f v) A
  | none=>none
 | .field t x f=>match bz l x with
  | some v=>o1 (oa P t f v) A
  | none=>none
 | .indexAddr t x i=>match bz l x,bz l i with
  | some a,some b=>o1 (zbz P t a b) A
  | _,_=>none
 | .lookup t x k ok=>match bz l x,bz l k with
  | some a,some b=>o1 (n0 P A t a b ok) A
  | _,_=>none
 | .mapUpdate t m k x | .insert t m k x=>match bz l m,bz l k,bz l x with
  | some a,some b,some c=>match nY P A t b c a with
   | some A'=>some (undef,A')
   | none=>none
  | _,_,_=>none
 | .extract x i=>match bz l x with
  | some v=>o1 (lF i v) A
  | none=>none
 | .call {callee:=.builtin b,args:=⟨args⟩,argTypes:=⟨ts⟩}=>eS P l o A b args ts
 | _=>none
theorem cO {x:Option sG} {A A':AW} {v:sG} (h:o1 x A=some (v,A')):x=some v/\A'=A:=by
 unfold o1 at h
 split at h
 ·cases h;exact⟨rfl,rfl⟩
 ·cases h
theorem zsZ {f:sJ->sG} {x:sJ}:sP f ⟨[x]⟩=#[f x]:=by
 rw[show(⟨[x]⟩:Array sJ)=[x].toArray from rfl];simp
theorem zsY {f:sJ->sG} {x y:sJ}:sP f ⟨[x,y]⟩=#[f x,f y]:=by
 rw[show(⟨[x,y]⟩:Array sJ)=[x,y].toArray from rfl];simp
theorem zfk {l:bN} {a:Act} {dst:Option Tmp} {type:sI} {pos:String} {after:Array Edge} {guard:Option (Nat × Bool)} {b:Builtin} {args:List sJ} {ts:List sI} {v:sG} {A':AW} (W:WR μ A w) (hl:TR μ l a.tmps.toList)
  (h:eS P l ⟨dst,.call {callee:=.builtin b,args:=⟨args⟩,argTypes:=⟨ts⟩},type,pos,after,guard⟩ A b args ts=some (v,A')):
  zgW P a.eval ⟨dst,.call {callee:=.builtin b,args:=⟨args⟩,argTypes:=⟨ts⟩},type,pos,after,guard⟩ μ A w v A':=by
 unfold eS at h
 split at h
 ·rename_i hp;cases h;exact gd W hl hp
 ·split at h
  ·rename_i x t _
   split at h
   ·rename_i u hu
    split at h
    ·rename_i r hr
     cases h
     obtain⟨v',h1,h2⟩:=zrs (P:=P) (ty:=type) W (au hl hu) hr;refine .same W ?_ h2
     simp only[sH,resolve,sE,Sem.run_pure,sD,invoke,builtin]
     have e:(Builtin.len_ #[t] type (sP a.eval ⟨[x]⟩)).run P w= .ok v' w:=by rw[zsZ];exact h1
     rw[e]
    ·cases h
   ·cases h
  ·rename_i x y t u _
   split at h
   ·rename_i s e hs he
    obtain⟨μ',v',w',h1,h2,h3⟩:=zbD (P:=P) (ty:=type) W (au hl hs) (au hl he) h;refine⟨μ',v',w',.inl ?_,h2,h3⟩
    simp only[sH,resolve,sE,Sem.run_pure,sD,invoke,builtin]
    have e:(tb #[t,u] type (sP a.eval ⟨[x,y]⟩)).run P w= .ok v' w':=by rw[zsY];exact h1
    rw[e]
   ·cases h
  ·rename_i x _
   split at h
   ·rename_i u hu
    split at h
    ·rename_i r hr
     cases h
     obtain⟨v',h1,h2⟩:=qB (P:=P) (w:=w) (ts:=⟨ts⟩) (t:=type) (au hl hu) hr;refine .same W ?_ h2
     simp only[sH,resolve,sE,Sem.run_pure,sD,invoke,builtin]
     have e:(Builtin.unsafeSliceData_ ⟨ts⟩ type (sP a.eval ⟨[x]⟩)).run P w= .ok v' w:=by rw[zsZ];exact h1
     rw[e]
    ·cases h
   ·cases h
  ·rename_i x y t it _
   split at h
   ·rename_i p n hp hn
    obtain⟨v',w',h1,h2,h3⟩:=zgP (P:=P) (it:=it) (ty:=type) W (au hl hp) (au hl hn) h;refine⟨μ,v',w',.inl ?_,h2,h3⟩
    simp only[sH,resolve,sE,Sem.run_pure,sD,invoke,builtin]
    have e:(Builtin.unsafeString_ #[t,it] type (sP a.eval ⟨[x,y]⟩)).run P w= .ok v' w':=by rw[zsY];exact h1
    rw[e]
   ·cases h
  ·rename_i x y t it _
   split at h
   ·rename_i p n hp hn
    obtain⟨v',w',h1,h2,h3⟩:=zpf (P:=P) (sType:=it) (ty:=type) W (au hl hp) (au hl hn) h;refine⟨μ,v',w',.inl ?_,h2,h3⟩
    simp only[sH,resolve,sE,Sem.run_pure,sD,invoke,builtin]
    have e:(sR #[t,it] type (sP a.eval ⟨[x,y]⟩)).run P w= .ok v' w':=by rw[zsY];exact h1
    rw[e]
   ·cases h
  ·rename_i x t _
   split at h
   ·rename_i u hu
    split at h
    ·rename_i A1 hr
     cases h
     obtain⟨w',h1,h2,h3⟩:=zkL (P:=P) (ty:=type) W (au hl hu) hr;refine⟨μ,.tuple #[],w',.inl ?_,by simp[VR,LR],h2,h3⟩
     simp only[sH,resolve,sE,Sem.run_pure,sD,invoke,builtin]
     have e:(sM #[t] type (sP a.eval ⟨[x]⟩)).run P w= .ok (.tuple #[]) w':=by rw[zsZ];exact h1
     rw[e]
    ·cases h
   ·cases h
  ·cases h
theorem zvO {op:BinOp} {t:sI} {xo yo:sJ} {x x' y y' v:sG} (W:WR μ A w) (hx:VR μ x x') (hy:VR μ y y') (h:aEq P A op t x y=some v):
  ((do sN op t xo yo x' y';binOp op t x' y'):Sem sG).run P w= .ok v w:=by
 unfold aEq at h
 split at h
 ·rename_i hadr
  have main:∀r,pJ P A t x y=some r->((op= .eql/\v= .bool r)\/(op= .neq/\v= .bool (!r)))->((do sN op t xo yo x' y';binOp op t x' y'):Sem sG).run P w= .ok v w:=by
   intro r hr hop;have he:=zoq (w:=w) W hx hy hr
   rcases zeM hr with ⟨p,q,rfl,rfl⟩ | ⟨p1,p2,p3,q1,q2,q3,rfl,rfl⟩ | ⟨p,q,rfl,rfl⟩ | ⟨f,u1,v1,rfl,rfl⟩ | ⟨f,u1,v1,rfl,rfl⟩ | ⟨p,q,rfl,rfl⟩ | ⟨p,q,rfl,rfl⟩ | ⟨p1,p2,q1,q2,rfl,rfl⟩
   all_goals
    have kx:=hx;have ky:=hy
   ·cases p<;>cases q<;>simp only[VR] at kx ky<;>(first | (obtain⟨_,rfl,_⟩:=kx) | subst kx)<;>(first | (obtain⟨_,rfl,_⟩:=ky) | subst ky)<;>rcases hop with ⟨rfl,rfl⟩ | ⟨rfl,rfl⟩<;>simp[sN,binOp,he]
   ·cases p1<;>cases q1<;>simp only[VR] at kx ky<;>(first | (obtain⟨_,_,rfl,_⟩:=kx) | subst kx)<;>(first | (obtain⟨_,_,rfl,_⟩:=ky) | subst ky)<;>rcases hop with ⟨rfl,rfl⟩ | ⟨rfl,rfl⟩<;>simp[sN,binOp,he]
   ·cases p<;>cases q<;>simp only[VR] at kx ky<;>(first | (obtain⟨_,rfl,_⟩:=kx) | subst kx)<;>(first | (obtain⟨_,rfl,_⟩:=ky) | subst ky)<;>rcases hop with ⟨rfl,rfl⟩ | ⟨rfl,rfl⟩<;>simp[sN,binOp,he]
   ·simp only[VR] at kx;subst kx
    obtain⟨u1⟩:=u1;obtain⟨v1⟩:=v1
    cases f<;>simp only[VR] at ky
    ·obtain⟨_,_,rfl,_⟩:=ky
     rcases hop with ⟨rfl,rfl⟩ | ⟨rfl,rfl⟩<;>simp[sN,binOp,he]
    ·obtain⟨_,_,_,rfl,_⟩:=ky
     rcases hop with ⟨rfl,rfl⟩ | ⟨rfl,rfl⟩<;>simp[sN,binOp,he]
   ·simp only[VR] at ky;subst ky
    obtain⟨u1⟩:=u1;obtain⟨v1⟩:=v1
    cases f<;>simp only[VR] at kx
    ·obtain⟨_,_,rfl,_⟩:=kx
     rcases hop with ⟨rfl,rfl⟩ | ⟨rfl,rfl⟩<;>simp[sN,binOp,he]
    ·obtain⟨_,_,_,rfl,_⟩:=kx
     rcases hop with ⟨rfl,rfl⟩ | ⟨rfl,rfl⟩<;>simp[sN,binOp,he]
   ·simp only[VR] at kx ky;subst kx;obtain⟨_,rfl,_⟩:=ky
    rcases hop with ⟨rfl,rfl⟩ | ⟨rfl,rfl⟩<;>simp[sN,binOp,he]
   ·simp only[VR] at kx ky;subst ky;obtain⟨_,rfl,_⟩:=kx
    rcases hop with ⟨rfl,rfl⟩ | ⟨rfl,rfl⟩<;>simp[sN,binOp,he]
   ·simp only[VR] at kx ky;obtain⟨_,rfl,_⟩:=kx;obtain⟨_,rfl,_⟩:=ky
    rcases hop with ⟨rfl,rfl⟩ | ⟨rfl,rfl⟩<;>simp[sN,binOp,he]
  split at h
  ·rename_i r hr;cases h;exact main _ hr (.inl ⟨rfl,rfl⟩)
  ·rename_i r hr;cases h;exact main _ hr (.inr ⟨rfl,rfl⟩)
  ·cases h
 ·cases h
theorem zfL {o:Oper} {x:sJ} {a:Act} {v:sG} (ho:o.op= .nilCheck x) (hv:VR μ v (a.eval x)) (hn:zaz v=true):(sH a.eval o).run P w= .ok (.value (a.eval x)) w:=by
 unfold zaz at hn
 split at hn
 ·simp only[VR] at hv;obtain⟨_,he,_⟩:=hv;simp[sH,ho,he]
 ·rename_i f x1 y1;obtain⟨x1⟩:=x1;obtain⟨y1⟩:=y1
  simp only[VR] at hv;obtain⟨_,_,he,_⟩:=hv;simp[sH,ho,he]
 ·simp only[VR] at hv;obtain⟨_,he,_⟩:=hv;simp[sH,ho,he]
 ·cases hn
theorem zgQ {l:bN} {a:Act} {o:Oper} {v:sG} {A':AW} (W:WR μ A w) (hl:TR μ l a.tmps.toList) (h:kq P l o A=some (v,A')):zgW P a.eval o μ A w v A':=by
 obtain⟨dst,op,type,pos,after,guard⟩:=o;unfold kq at h
 simp only at h
 split at h
 ·replace h:=cO h;obtain⟨h,rfl⟩:=h;exact .same W (by simp[sH]) (au hl h)
 ·replace h:=cO h;obtain⟨h,rfl⟩:=h;exact .same W (by simp[sH]) (au hl h)
 ·split at h
  ·rename_i hc
   replace h:=cO h;obtain⟨h,rfl⟩:=h
   have:=au hl hc
   simp only[VR] at this
   exact .same W (by simp[sH,this,asBool]) (au hl h)
  ·rename_i hc
   replace h:=cO h;obtain⟨h,rfl⟩:=h
   have:=au hl hc
   simp only[VR] at this
   exact .same W (by simp[sH,this,asBool]) (au hl h)
  ·cases h
 ·rename_i t
  split at h
  ·rename_i i hi
   split at h
   ·rename_i z hz
    split at h
    ·rename_i hf
     obtain⟨μ',p',w',h1,h2,h3⟩:=ziO (P:=P) (es:=1) W (cr hf)
     cases h
     refine⟨μ',p',w',.inl ?_,h2,h3⟩;have h4:(tj t true (.tuple #[])).run P w= .ok p' w':=by
      simp only[tj,sE,rZ hi hz,sD]
      exact h1
     simp only[sH,sE,h4,sD,Sem.run_pure]
    ·cases h
   ·cases h
  ·cases h
 ·split at h
  ·rename_i u hu
   obtain⟨μ',p',w',h1,h2,h3⟩:=ziO (P:=P) (es:=1) W (au hl hu)
   cases h
   exact⟨μ',p',w',.inl (by simp[sH,h1]),h2,h3⟩
  ·cases h
 ·replace h:=cO h;obtain⟨h,rfl⟩:=h
  obtain⟨v',h1,h2⟩:=zkM (w:=w) hl h;exact .same W (by simp only[sH,sE,h1,sD,Sem.run_pure]) h2
 ·obtain⟨μ',v',w',h1,h2,h3⟩:=p9 W hl h
  exact⟨μ',v',w',.inl (by simp only[sH,sE,h1,sD,Sem.run_pure]),h2,h3⟩
 ·split at h
  ·rename_i p hp
   replace h:=cO h;obtain⟨h,rfl⟩:=h
   obtain⟨v',h1,h2⟩:=zpe W (au hl hp) h;exact .same W (by simp[sH,h1]) h2
  ·cases h
 ·split at h
  ·rename_i p u hp hu
   split at h
   ·rename_i A1 hs
    cases h
    obtain⟨w',h1,h2,h3⟩:=zkF W (au hl hp) (au hl hu) hs;exact⟨μ,undef,w',.inr ⟨by simp[sH,h1],rfl⟩,dQ,h2,h3⟩
   ·cases h
  ·cases h
 ·split at h
  ·rename_i u hu
   split at h
   ·rename_i hn
    cases h
    exact .same W (zfL rfl (au hl hu) hn) (au hl hu)
   ·cases h
  ·cases h
 ·rename_i bop bt xo yo _
  split at h
  ·rename_i hp;cases h;exact gd W hl hp
  ·split at h
   ·rename_i x y hx hy
    replace h:=cO h;obtain⟨h,rfl⟩:=h
    have h1:=zvO (P:=P) (xo:=xo) (yo:=yo) W (au hl hx) (au hl hy) h;have hf:bP v=true:=by
     unfold aEq at h
     split at h
     ·split at h<;>first | (cases h;rfl) | cases h
     ·cases h
    refine .same W ?_ (cr hf)
    simp only[sH]
    rw[sE,h1]
    rfl
   ·cases h
 ·replace h:=cO h;obtain⟨h,rfl⟩:=h;exact gd W hl h
 ·replace h:=cO h;obtain⟨h,rfl⟩:=h;exact gd W hl h
 ·split at h
  ·rename_i hp;cases h;exact gd W hl hp
  ·split at h
   ·rename_i x hx
    split at h
    ·rename_i r hr
     cases h
     obtain⟨v',h1,h2⟩:=zrt W (au hl hx) hr;exact .same W (by simp[sH,h1]) h2
    ·split at h
     ·rename_i r hr
      cases h
      obtain⟨v',h1,h2⟩:=zgO W (au hl hx) hr;exact .same W (by simp[sH,h1]) h2
     ·split at h
      ·rename_i ds hds
       obtain⟨μ',v',w',h1,h2,h3⟩:=zrr W hds (au hl hx) h;exact⟨μ',v',w',.inl (by simp[sH,h1]),h2,h3⟩
      ·cases h
   ·cases h
 ·split at h
  ·rename_i x hx
   obtain⟨μ',v',w',h1,h2,h3⟩:=zkH W (au hl hx) h;exact⟨μ',v',w',.inl (by simp[sH,h1]),h2,h3⟩
  ·cases h
 ·split at h
  ·rename_i x hx
   obtain⟨v',w',h1,h2,h3⟩:=zpd (P:=P) (ty:=type) W (au hl hx) h;exact⟨μ,v',w',.inl (by simp only[sH,sE,h1,sD,Sem.run_pure]),h2,h3⟩
  ·cases h
 ·split at h
  ·rename_i x hx
   replace h:=cO h;obtain⟨h,rfl⟩:=h
   obtain⟨v',h1,h2⟩:=zkJ (w:=w) (au hl hx) h;exact .same W (by simp[sH,h1]) h2
  ·cases h
 ·rename_i f first captured
  split at h
  ·rename_i x y hx hy
   cases h
   refine .same (v':=.func (.func f) (first.map a.eval) (captured.map a.eval)) W (by simp[sH,Instr.makeFunc]) ?_
   simp only[VR]
   exact⟨_,_,rfl,by rw[sO];exact iX hl hx,by rw[sO];exact iX hl hy⟩
  ·cases h
 ·rename_i t
  cases h
  obtain⟨μ',v',w',h1,h2,h3⟩:=zfi (P:=P) (t:=t) W;exact⟨μ',v',w',.inl (by simp only[sH,Option.map_none,sE,h1,sD,Sem.run_pure]),h2,h3⟩
 ·split at h
  ·rename_i x _ _ k e ki zi hd hx
   cases h
   have hv:=au hl hx
   simp only[VR] at hv
   obtain⟨μ',v',w',h1,h2,h3⟩:=zby (P:=P) (k:=ki) (z:=zi) hd W;exact⟨μ',v',w',.inl (by simp only[sH,Option.map_some,hv,sE,h1,sD,Sem.run_pure]),h2,h3⟩
  ·cases h
 ·split at h
  ·rename_i x y hx hy
   obtain⟨μ',v',w',h1,h2,h3⟩:=qC (P:=P) W (au hl hx) (au hl hy) h;exact⟨μ',v',w',.inl (by simp[sH,h1]),h2,h3⟩
  ·cases h
 ·split at h
  ·rename_i hp
   cases h
   unfold zoX at hp
   split at hp
   ·rename_i x lo hi hx hlo hhi
    obtain⟨h1,h2⟩:=zoV (P:=P) (w:=w) (au hl hx) (nG hl hlo) (nG hl hhi) hp;exact .same W (by simp only[sH,Option.map_none,sE,h1,sD,Sem.run_pure]) h2
   ·cases hp
  ·split at h
   ·rename_i hp;cases h;exact gd W hl hp
   ·split at h
    ·rename_i x lo hi hx hlo hhi
     replace h:=cO h;obtain⟨h,rfl⟩:=h
     obtain⟨v',h1,h2⟩:=zkG (P:=P) W (au hl hx) (nG hl hlo) (nG hl hhi) h;exact .same W (by simp only[sH,Option.map_none,sE,h1,sD,Sem.run_pure]) h2
    ·cases h
 ·split at h
  ·rename_i x hx
   replace h:=cO h;obtain⟨h,rfl⟩:=h
   obtain⟨v',h1,h2⟩:=zkK (w:=w) (au hl hx) h;exact .same W (by simp[sH,h1]) h2
  ·cases h
 ·split at h
  ·rename_i x hx
   replace h:=cO h;obtain⟨h,rfl⟩:=h
   obtain⟨v',h1,h2⟩:=zgS (w:=w) (au hl hx) h;exact .same W (by simp[sH,h1]) h2
  ·cases h
 ·split at h
  ·rename_i x y hx hy
   replace h:=cO h;obtain⟨h,rfl⟩:=h
   obtain⟨v',h1,h2⟩:=zkI (w:=w) (au hl hx) (au hl hy) h;exact .same W (by simp[sH,h1]) h2
  ·cases h
 ·split at h
  ·rename_i x y hx hy
   replace h:=cO h;obtain⟨h,rfl⟩:=h
   obtain⟨v',h1,h2⟩:=zgR (P:=P) W (au hl hx) (au hl hy) h;exact .same W (by simp[sH,h1]) h2
  ·cases h
 ·split at h
  ·rename_i m k x hm hk hx
   split at h
   ·rename_i A1 hs
    cases h
    obtain⟨w',h1,h2,h3⟩:=p6 (P:=P) W (au hl hm) (au hl hk) (au hl hx) hs;exact⟨μ,undef,w',.inr ⟨by simp[sH,h1],rfl⟩,dQ,h2,h3⟩
   ·cases h
  ·cases h
 ·split at h
  ·rename_i m k x hm hk hx
   split at h
   ·rename_i A1 hs
    cases h
    obtain⟨w',h1,h2,h3⟩:=p6 (P:=P) W (au hl hm) (au hl hk) (au hl hx) hs;exact⟨μ,undef,w',.inr ⟨by simp[sH,h1],rfl⟩,dQ,h2,h3⟩
   ·cases h
  ·cases h
 ·split at h
  ·rename_i x hx
   replace h:=cO h;obtain⟨h,rfl⟩:=h
   obtain⟨v',h1,h2⟩:=zfj (P:=P) (w:=w) (au hl hx) h;exact .same W (by simp[sH,h1]) h2
  ·cases h
 ·exact zfk W hl h
 ·cases h
end Ev
end
section
namespace Ev
noncomputable def fN {α:Type} (n:Nat) (k:Nat->α):α:=Nat.rec (motive:=fun _=>α) (k 0) (fun m _=>k (Nat.succ m)) n
theorem cQ {α:Type} (n:Nat) (k:Nat->α):fN n k=k n:=by cases n<;>rfl
noncomputable def fI {α:Type} (n:Int) (k:Int->α):α:=Int.rec (motive:=fun _=>α) (fun m=>fN m fun m=>k (.ofNat m)) (fun m=>fN m fun m=>k (.negSucc m)) n
theorem zxs {α:Type} (n:Int) (k:Int->α):fI n k=k n:=by cases n<;>simp only[fI,cQ]
noncomputable def fB {α:Type} (b:Bool) (k:Bool->α):α:=Bool.rec (motive:=fun _=>α) (k false) (k true) b
theorem zse {α:Type} (b:Bool) (k:Bool->α):fB b k=k b:=by cases b<;>rfl
noncomputable def fU {α:Type} (l:List UInt8):(List UInt8->α)->α:=
 List.rec (motive:=fun _=>(List UInt8->α)->α) (fun k=>k []) (fun u _ ih k=>fN u.toNat fun n=>ih fun r=>k (sT n::r)) l
theorem zsb {α:Type}:∀(l:List UInt8) (k:List UInt8->α),fU l k=k l
 | [],k=>rfl
 | u::r,k=>by
  show fN u.toNat (fun n=>fU r fun r=>k (sT n::r))=_
  simp only[cQ,zsb r,UInt8.ofNat_toNat]
noncomputable def fS {α:Type} (s:ByteArray) (k:ByteArray->α):α:=fU s.data.toList fun l=>k ⟨⟨l⟩⟩
theorem zsc {α:Type} (s:ByteArray) (k:ByteArray->α):fS s k=k s:=by obtain⟨⟨l⟩⟩:=s;simp only[fS,zsb]
noncomputable def fA {α:Type} (a:Addr) (k:Addr->α):α:=
 Addr.rec (motive:=fun _=>α) (fun b o s=>sX (motive:=fun _=>α) (fN b fun b=>fN o fun o=>k ⟨b,o,none⟩) (fun s=>k ⟨b,o,some s⟩) s) a
theorem zsf {α:Type} (a:Addr) (k:Addr->α):fA a k=k a:=by obtain⟨b,o,s⟩:=a;cases s<;>simp only[fA,cQ]
noncomputable def fV0 {α:Type} (v:sG) (k:sG->α):α:=
 sG.casesOn (motive_1:=fun _=>α) v (fun b=>fB b fun b=>k (.bool b)) (fun x n=>fI n fun n=>k (.int x n)) (fun x n=>k (.float x n)) (fun x n m=>k (.complex x n m)) (fun s=>fS s fun s=>k (.string s))
  (fun a=>sX (motive:=fun _=>α) (k (.pointer none)) (fun a=>fA a fun a=>k (.pointer (some a))) a)
  (fun a n c=>fN n fun n=>fN c fun c=>sX (motive:=fun _=>α) (k (.slice none n c)) (fun a=>fA a fun a=>k (.slice (some a) n c)) a)
  (fun r=>sX (motive:=fun _=>α) (k (.map none)) (fun r=>fN r fun r=>k (.map (some r))) r)
  (fun r=>k (.chan r)) (fun f x y=>k (.func f x y)) (k .nilFunc) (fun t v=>k (.iface t v)) (k .nilIface) (fun x=>k (.agg x)) (fun x=>k (.tuple x))
theorem zbc {α:Type} (v:sG) (k:sG->α):fV0 v k=k v:=by
 cases v with
 | bool b=>
  show fB b (fun b=>k (.bool b))=_
  rw[zse]
 | int x n=>
  show fI n (fun n=>k (.int x n))=_
  rw[zxs]
 | string s=>
  show fS s (fun s=>k (.string s))=_
  rw[zsc]
 | pointer a=>cases a with
  | none=>rfl
  | some a=>
   show fA a (fun a=>k (.pointer (some a)))=_
   rw[zsf]
 | slice a n c=>cases a with
  | none=>
   show fN n (fun n=>fN c fun c=>k (.slice none n c))=_
   rw[cQ,cQ]
  | some a=>
   show fN n (fun n=>fN c fun c=>fA a fun a=>k (.slice (some a) n c))=_
   rw[cQ,cQ,zsf]
 | map a=>cases a with
  | none=>rfl
  | some a=>
   show fN a (fun a=>k (.map (some a)))=_
   rw[cQ]
 | float _ _=>rfl
 | complex _ _ _=>rfl
 | chan _=>rfl
 | func _ _ _=>rfl
 | nilFunc=>rfl
 | iface _ _=>rfl
 | nilIface=>rfl
 | agg _=>rfl
 | tuple _=>rfl
noncomputable def zks {α:Type} (l:List sG):(List sG->α)->α:=
 List.rec (motive:=fun _=>(List sG->α)->α) (fun k=>k []) (fun v _ ih k=>fV0 v fun v=>ih fun r=>k (v::r)) l
theorem kZ {α:Type}:∀(l:List sG) (k:List sG->α),zks l k=k l
 | [],k=>rfl
 | v::r,k=>by
  show fV0 v (fun v=>zks r fun r=>k (v::r))=_
  rw[zbc,kZ r]
noncomputable def fV1 {α:Type} (v:sG) (k:sG->α):α:=
 match v with
 | .agg ⟨l⟩=>zks l fun l=>k (.agg ⟨l⟩)
 | v=>fV0 v k
theorem zol {α:Type} (v:sG) (k:sG->α):fV1 v k=k v:=by
 unfold fV1
 split
 ·rw[kZ]
 ·rw[zbc]
noncomputable def zok {α:Type} (l:List sG):(List sG->α)->α:=
 List.rec (motive:=fun _=>(List sG->α)->α) (fun k=>k []) (fun v _ ih k=>fV1 v fun v=>ih fun r=>k (v::r)) l
theorem zbb {α:Type}:∀(l:List sG) (k:List sG->α),zok l k=k l
 | [],k=>rfl
 | v::r,k=>by
  show fV1 v (fun v=>zok r fun r=>k (v::r))=_
  rw[zol,zbb r]
noncomputable def fV {α:Type} (v:sG) (k:sG->α):α:=
 match v with
 | .agg ⟨l⟩=>zks l fun l=>k (.agg ⟨l⟩)
 | .tuple ⟨l⟩=>zok l fun l=>k (.tuple ⟨l⟩)
 | v=>fV0 v k
theorem jS {α:Type} (v:sG) (k:sG->α):fV v k=k v:=by
 unfold fV
 split
 ·rw[kZ]
 ·rw[zbb]
 ·rw[zbc]
noncomputable def fM {α:Type}:List td->(List td->α)->α
 | [],k=>k []
 | ⟨a,b,c⟩::r,k=>fV0 a fun a=>fV1 b fun b=>fN c fun c=>fM r fun r=>k (⟨a,b,c⟩::r)
theorem zsd {α:Type}:∀(l:List td) (k:List td->α),fM l k=k l
 | [],k=>rfl
 | ⟨a,b,c⟩::r,k=>by simp only[fM,zbc,zol,cQ,zsd r]
noncomputable def fO {α:Type}:Option bp->(Option bp->α)->α
 | none,k=>k none
 | some (.cells vs t op fz es),k=>zks vs fun vs=>fN t fun t=>fB op fun op=>fN es fun es=>(match fz with
  | none=>k (some (.cells vs t op none es))
  | some z=>fN z fun z=>k (some (.cells vs t op (some z) es)))
 | some (.map es c),k=>fM es fun es=>fN c fun c=>k (some (.map es c))
 | some (.sit s p),k=>fS s fun s=>fN p fun p=>k (some (.sit s p))
 | some (.dfr op),k=>k (some (.dfr op))
 | some (.loop st j ps asg bd t n),k=>k (some (.loop st j ps asg bd t n))
theorem zxr {α:Type}:∀(o:Option bp) (k:Option bp->α),fO o k=k o
 | none,k=>rfl
 | some (.cells vs t op fz es),k=>by cases fz<;>simp only[fO,kZ,cQ,zse]
 | some (.map es c),k=>by simp only[fO,zsd,cQ]
 | some (.sit s p),k=>by simp only[fO,zsc,cQ]
 | some (.dfr op),k=>rfl
 | some (.loop st j ps asg bd t n),k=>rfl
noncomputable def zqP {α:Type}:List (Nat × Option bp)->Tr bp->(Tr bp->α)->α
 | [],t,k=>k t
 | (i,o)::r,t,k=>zqP r t fun t=>fN i fun i=>fO o fun o=>Tr.fput o (Nat.succ i) t i k
noncomputable def ma:List (Nat × Option bp)->Tr bp->Tr bp
 | [],t=>t
 | (i,o)::r,t=>Tr.put o (i+1) (ma r t) i
theorem zim {α:Type}:∀(l:List (Nat × Option bp)) (t:Tr bp) (k:Tr bp->α),zqP l t k=k (ma l t)
 | [],t,k=>rfl
 | (i,o)::r,t,k=>by simp only[zqP,ma,zim r,cQ,zxr,Tr.fput_eq]
theorem pm:∀(l:List (Nat × Option bp)) (t:Tr bp) (j:Nat),(ma l t).get j=match ka l j with | some o=>o | none=>t.get j
 | [],t,j=>rfl
 | (i,o)::r,t,j=>by
  simp only[ma,ka]
  rw[Tr.get_put _ _ _ _ _ (by omega)]
  by_cases h:j=i
  ·simp[h]
  ·simp only[h,if_false]
   exact pm r t j
noncomputable def fW {α:Type} (A:AW) (k:AW->α):α:=
 match A with
 | ⟨[],t,n⟩=>k ⟨[],t,n⟩
 | ⟨x::l,t,n⟩=>zqP (x::l) t fun t=>fN n fun n=>k ⟨[],t,n⟩
noncomputable def fw (A:AW):AW:=⟨[],ma A.log A.tree,A.next⟩
theorem iD {α:Type} (A:AW) (k:AW->α):fW A k=k (fw A):=by
 obtain⟨l,t,n⟩:=A
 cases l with
 | nil=>rfl
 | cons x l=>simp only[fW,zim,cQ,fw]
theorem kT (A:AW) (j:Nat):(fw A).get j=A.get j:=by
 simp only[fw,AW.get,ka]
 exact pm A.log A.tree j
theorem WR.lay {μ:Mu} {A:AW} {w:World} (W:WR μ A w):WR μ (fw A) w:=
 ⟨fun i o l h=>W.has i o l (by rwa [kT] at h),fun i j oi oj li lj hi hj=>W.inj i j oi oj li lj (by rwa [kT] at hi) (by rwa [kT] at hj),W.dom⟩
theorem bB.lay {μ μ':Mu} {A A':AW} {w w':World} (E:bB μ A w μ' A' w'):bB μ A w μ' (fw A') w':=
 ⟨E.le,E.size,E.tape,E.os,E.output,E.stay,fun i o l h=>E.img i o l (by rwa [kT] at h),E.next,E.keep⟩
end Ev
end
end Go.Proofs.YtbbapnpdfcgjnaaGreatDoor
