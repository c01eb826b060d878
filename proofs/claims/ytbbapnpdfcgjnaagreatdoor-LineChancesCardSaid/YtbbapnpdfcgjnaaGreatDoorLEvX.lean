/- EvX, Ev11, EvN: parts of the proof, joined. -/
import Derived.Laws.BytesString
import Derived.Laws.RangeString
import Derived.Test.YtbbapnpdfcgjnaaGreatDoorLEv9
open Array renaming toList_map->xa, map->xb, getElem?_push->xe
open UInt8 renaming ofNat->xd
open Option renaming rec->xf
open Nat renaming min->xg, le_refl->xh, add_zero->xi
set_option maxHeartbeats 64000000
namespace Go.Proofs.YtbbapnpdfcgjnaaGreatDoor
section
namespace Ev
variable {P:Program} {μ:Mu} {A:AW} {w:World}
theorem zfa:∀{l:List Value} {bs:List UInt8},zbR l=some bs->∃ns:List Int,l=ns.map (Value.int .u8)/\bs=ns.map fun n=>xd n.toNat
 | [],bs,h=>by simp only[zbR] at h;cases h;exact⟨[],rfl,rfl⟩
 | x::l,bs,h=>by
  unfold zbR at h
  split at h
  ·rename_i heq;cases heq
  ·rename_i n r heq
   cases heq
   split at h
   ·rename_i bs' hbs
    cases h
    obtain⟨ns,rfl,rfl⟩:=zfa hbs;exact⟨n::ns,rfl,rfl⟩
   ·cases h
  ·cases h
theorem zkA:∀(ns:List Int) (s:ByteArray),ns.foldl (fun r n=>r.push (xd n.toNat)) s=⟨(s.data.toList++ns.map fun n=>xd n.toNat).toArray⟩
 | [],s=>by simp
 | n::ns,s=>by
  rw[List.foldl_cons,zkA ns]
  simp[ByteArray.push]
noncomputable def aB2S (P:Program) (A:AW) (src dst:TypeId) (x:Value):Option Value:=
 match P.underlying src,P.underlying dst with
 | some (.slice e),some .string=>match P.underlying e with
  | some (.int .u8)=>match x with
   | .slice none _ _=>some (.string .empty)
   | .slice (some a) n _=>if n=0 then some (.string .empty) else match A.get a.block with
    | some (.cells vs _ _ _ _)=>if a.off+n<=vs.length then
      match zbR ((vs.drop a.off).take n) with
      | some bs=>some (.string ⟨bs.toArray⟩)
      | none=>none
     else none
    | _=>none
   | _=>none
  | _=>none
 | _,_=>none
theorem zBU {src dst:TypeId} {x x' v:Value} (W:WR μ A w) (hx:VR μ x x') (h:aB2S P A src dst x=some v):∃v',(convert src dst x').run P w= .ok v' w/\VR μ v v':=by
 unfold aB2S at h
 split at h
 ·rename_i e hs hd
  split at h
  ·rename_i he
   split at h
   ·cases h;simp only[VR] at hx;subst hx
    exact⟨.string .empty,by rw[run_convert_bytes_string w src dst e none _ _ hs he hd];rfl,by simp[VR]⟩
   ·rename_i a n c
    simp only[VR] at hx
    obtain⟨a',c',rfl,hS⟩:=hx
    split at h
    ·rename_i h0;cases h;subst h0
     refine⟨.string .empty,?_,by simp[VR]⟩
     rw[run_convert_bytes_string w src dst e (some a') _ _ hs he hd,run_bytesToString w a' 0 c' [] rfl]
     rfl
    ·rename_i h0
     split at h
     ·rename_i vs t op fz es hg
      split at h
      ·rename_i hle
       split at h
       ·rename_i bs hbs
        cases h
        obtain⟨xs',h1,h2⟩:=zcs (P:=P) W (hS.addr (by omega)) hg hle
        have hxs:=zaW (zdd hbs) h2;subst hxs;obtain⟨ns,hns,rfl⟩:=zfa hbs;rw[hns] at h1;refine⟨_,by rw[run_convert_bytes_string w src dst e (some a') _ _ hs he hd,run_bytesToString w a' n c' ns h1],?_⟩
        rw[zkA]
        simp only[VR]
        rfl
       ·cases h
      ·cases h
     ·cases h
   ·cases h
  ·cases h
 ·cases h
noncomputable def zGC (P:Program) (A:AW) (dst:TypeId):Value->Option (Value × AW)
 | .string s=>match P.underlying dst with
  | some (.slice e)=>match P.underlying e,P.info? e with
   | some (.int .u8),some ie=>if ie.size=1/\s.size<=1000000 then some (.slice (some ⟨A.next,0,none⟩) s.size unk,A.push (.cells (zca s s.size) e true (some 0) 1)) else none
   | _,_=>none
  | _=>none
 | _=>none
theorem zBQ {src dst:TypeId} {x x' v:Value} {A':AW} {ds:TypeDesc} (W:WR μ A w) (hsrc:P.underlying src=some ds) (hx:VR μ x x') (h:zGC P A dst x=some (v,A')):
  ∃μ' v' w',(convert src dst x').run P w= .ok v' w'/\VR μ' v v'/\WR μ' A' w'/\Ext μ A w μ' A' w':=by
 unfold zGC at h
 split at h
 ·rename_i s
  simp only[VR] at hx;subst hx
  split at h
  ·rename_i e hd
   split at h
   ·rename_i ie he hie
    split at h
    ·rename_i hc
     cases h
     obtain⟨W1,E1⟩:=W.drawn (w.drawn+1);have hlen:(zca s s.size).length=s.size:=by
      unfold zca;rw[xa,List.length_map]
      simp
     have hcut:∃m,s.size<=m/\m=Question.cut (.appendCap s.size 0 e) (w.tape w.drawn (.appendCap s.size 0 e)):=⟨_,by simp[Question.cut],rfl⟩
     obtain⟨m,hm,hme⟩:=hcut;have hb:(s.data.map fun b=>Value.int .u8 b.toNat)=(zca s s.size).toArray:=by
      unfold zca;have:s.extract 0 s.size=s:=by simp
      rw[this]
     have hLR:LR μ (zca s s.size) (zca s s.size):=zaJ (by unfold zca;rw[xa];exact zdL _)
     let c:Array Value:=(zca s s.size).toArray++Array.replicate (m - s.size) (.int .u8 0)
     have hcs:c.size=m:=by simp only[c,Array.size_append,List.size_toArray,hlen,Array.size_replicate];omega
     have hN:=W1.new (d:=0) (sz:=m) (k:=1) (o:=.cells (zca s s.size) e true (some 0) 1) (o':=.cells c e (m,m+1)) (by
      have hle:=Mu.add_le (x:=⟨w.heap.size,0,m,1⟩) (W1.dom A.next (xh _));refine⟨c,(m,m+1),rfl,hcs,by simp only[Nat.zero_add,hlen];exact hm,by simp,rfl,?_,?_⟩
      ·simp only[List.drop_zero,c,Array.toList_append]
       rw[List.take_left' rfl];exact hLR.mono hle
      ·simp only[FZ];intro i hi;simp at hi⊢;omega)
     refine⟨_,.slice (some ⟨w.heap.size,0,none⟩) s.size m,_,?_,?_,hN.1,E1.trans hN.2⟩
     ·have hconv:(convert src dst (.string s)).run P w=(Conv.stringToBytes e s).run P w:=by
       unfold convert
       simp only[Sem.run_bind,rU hsrc,rU hd,Result.andThen,rU he]
      rw[hconv]
      simp only[Conv.stringToBytes,Sem.run_bind,run_choose,Question.forced,Bool.false_eq_true,if_false,Result.andThen]
      rw[<- hme,hb]
      simp only[newRow,Sem.run_bind,run_newObj,Result.andThen,Sem.run_pure,markStringish,run_shape,World.shape?,Array.getElem?_push_size,run_freeze]
      have hfz:World.freeze {w with drawn:=w.drawn+1,heap:=w.heap.push (.cells c e)} {block:=w.heap.size,off:=c.size} 1={w with drawn:=w.drawn+1,heap:=w.heap.push (.cells c e (m,m+1))}:=by
       unfold World.freeze;rw[if_neg (by omega)]
       congr 1
       apply Array.ext_getElem?
       intro j;rw[Array.getElem?_modify,xe,xe]
       by_cases e':w.heap.size=j
       ·subst e';simp[hcs]
       ·have:¬j=w.heap.size:=fun h=>e' h.symm
        simp[e',this]
      exact congrArg (fun W'=>Result.ok (Value.slice (some ⟨w.heap.size,0,none⟩) s.size m) W') hfz
     ·simp only[VR]
      exact⟨_,_,rfl,.inr ⟨rfl,.inr ⟨rfl,hm,_,Mu.add_get (W1.dom A.next (xh _)),by simp,by simp⟩⟩⟩
    ·cases h
   ·cases h
  ·cases h
 ·cases h
noncomputable def zBT (P:Program) (A:AW) (dType:TypeId) (d s:Value):Option (Value × AW):=
 match P.underlying dType,zou s with
 | some (.slice elem),some sl=>match P.info? elem,d with
  | some _,.slice none dl _=>if xg sl dl=0 then some (goInt 0,A) else none
  | some ie,.slice (some a) dl _=>if xg sl dl=0 then some (goInt 0,A) else
    match A.get a.block,zlb A ie.size (xg sl dl) s with
    | some (.cells vs t op fz es),some xs=>if xs.all (·.oneCell')=true/\a.off+xs.length<=vs.length/\zCc fz a.off=true then
      some (goInt (xg sl dl),A.set a.block (some (.cells (zaB vs a.off xs) t op fz es)))
     else none
    | _,_=>none
  | _,_=>none
 | _,_=>none
theorem zhQ {x x':Value} {size m:Nat} (hx:VR μ x x') (hm:zou x=some m):(Builtin.firstCells size 0 x').run P w= .ok #[] w:=by
 unfold zou at hm
 split at hm
 ·rename_i a n c
  cases a with
  | none=>simp only[VR] at hx;subst hx;rfl
  | some a=>simp only[VR] at hx;obtain⟨_,_,rfl,_⟩:=hx;simp[Builtin.firstCells,loadCells,loadCellsFrom]
 ·simp only[VR] at hx;subst hx;simp[Builtin.firstCells]
 ·cases hm
theorem zyf {dType sType ty:TypeId} {d d' s s' v:Value} {A':AW} (W:WR μ A w) (hd:VR μ d d') (hs:VR μ s s') (h:zBT P A dType d s=some (v,A')):
  ∃v' w',(Builtin.copy_ #[dType,sType] ty #[d',s']).run P w= .ok v' w'/\VR μ v v'/\WR μ A' w'/\Ext μ A w μ A' w':=by
 unfold zBT at h
 split at h
 ·rename_i elem sl hu hsl
  split at h
  ·rename_i ie dl dc hie
   simp only[VR] at hd;subst hd
   split at h
   ·rename_i h0
    cases h
    refine⟨goInt 0,w,?_,by simp[goInt,VR],W,Ext.refl⟩
    simp[Builtin.copy_,rU hu,zcL hs hsl,rS hie,h0,zhQ hs hsl]
   ·cases h
  ·rename_i ie a dl dc hie
   simp only[VR] at hd
   obtain⟨a',c',rfl,hS⟩:=hd
   split at h
   ·rename_i h0
    cases h
    refine⟨goInt 0,w,?_,by simp[goInt,VR],W,Ext.refl⟩
    simp[Builtin.copy_,rU hu,zcL hs hsl,rS hie,h0,zhQ hs hsl,storeCells]
   ·rename_i h0
    split at h
    ·rename_i vs t op fz es xs hg hxs
     split at h
     ·rename_i hc
      obtain⟨h1,h2,h3⟩:=hc
      cases h
      obtain⟨xs',h4,h5⟩:=zbS (P:=P) W hs hsl (Nat.min_le_left _ _) hxs;have hdl:0<dl:=by
       have:xg sl dl<=dl:=Nat.min_le_right sl dl;omega
      obtain⟨w',h6,h7,h8⟩:=zcB (P:=P) W (hS.addr hdl) hg h5 h1 h2 h3;refine⟨goInt (xg sl dl),w',?_,by simp[goInt,VR],h7,h8⟩
      simp[Builtin.copy_,rU hu,zcL hs hsl,rS hie,h4,h6]
     ·cases h
    ·cases h
  ·cases h
 ·cases h
noncomputable def zvs (P:Program) (A:AW) (t:TypeId):Value->Option AW
 | .slice none _ _=>match P.underlying t with
  | some _=>some A
  | none=>none
 | .slice (some _) 0 _=>match P.underlying t with
  | some _=>some A
  | none=>none
 | .slice (some a) (n+1) _=>match P.underlying t with
  | some (.slice elem)=>match P.info? elem with
   | some ie=>match ie.zero with
    | some z=>match A.get a.block with
     | some (.cells vs ty op fz es)=>if zco z=true/\(zdi (n+1) (zar z)).all (·.oneCell')=true/\a.off+(zdi (n+1) (zar z)).length<=vs.length/\zCc fz a.off=true then
       some (A.set a.block (some (.cells (zaB vs a.off (zdi (n+1) (zar z))) ty op fz es)))
      else none
     | _=>none
    | none=>none
   | none=>none
  | _=>none
 | _=>none
theorem zqO (z:Value) (m:Nat):Builtin.zeroCells z.cells m=(zdi m (zar z)).toArray:=by
 unfold Builtin.zeroCells;rw[zdj,zbf]
theorem zjU {z:List Value} (h:LR μ z z):∀n,LR μ (zdi n z) (zdi n z)
 | 0=>LR.nil
 | n+1=>h.append (zjU h n)
theorem zvr {t ty:TypeId} {x x':Value} {A':AW} (W:WR μ A w) (hx:VR μ x x') (h:zvs P A t x=some A'):
  ∃w',(Builtin.clear_ #[t] ty #[x']).run P w= .ok (.tuple #[]) w'/\WR μ A' w'/\Ext μ A w μ A' w':=by
 unfold zvs at h
 split at h
 ·split at h
  ·rename_i d hd
   cases h
   simp only[VR] at hx;subst hx
   exact⟨w,by simp[Builtin.clear_,rU hd],W,Ext.refl⟩
  ·cases h
 ·split at h
  ·rename_i d hd
   cases h
   simp only[VR] at hx;obtain⟨a',c',rfl,_⟩:=hx
   exact⟨w,by simp[Builtin.clear_,rU hd],W,Ext.refl⟩
  ·cases h
 ·rename_i a n c
  simp only[VR] at hx;obtain⟨a',c',rfl,hS⟩:=hx
  split at h
  ·rename_i elem hd
   split at h
   ·rename_i ie hi
    split at h
    ·rename_i z hz
     split at h
     ·rename_i vs ty' op fz es hg
      split at h
      ·rename_i hc
       obtain⟨h1,h2,h3,h4⟩:=hc
       cases h
       have hL:LR μ (zar z) (zar z):=by
        have:=zel (zbo (μ:=μ) h1)
        rwa [zbf] at this
       obtain⟨w',h6,h7,h8⟩:=zcB (P:=P) W (hS.addr (Nat.succ_pos _)) hg (zjU hL (n+1)) h2 h3 h4;refine⟨w',?_,h7,h8⟩;have e:(Builtin.zeroCells z.cells (n+1)).toList=zdi (n+1) (zar z):=by rw[zqO]
       simp[Builtin.clear_,rU hd,rZ hi hz,e,h6]
      ·cases h
     ·cases h
    ·cases h
   ·cases h
  ·cases h
 ·cases h
noncomputable def zps (P:Program) (A:AW) (t:TypeId):Value->Option (Value × AW)
 | .string s=>match P.underlying t with
  | some .string=>some (.pointer (some ⟨A.next,0,none⟩),A.push (.sit s 0))
  | _=>none
 | _=>none
theorem zvl {t:TypeId} {x x' v:Value} {A':AW} (W:WR μ A w) (hx:VR μ x x') (h:zps P A t x=some (v,A')):∃μ' v' w',(Instr.range t x').run P w= .ok v' w'/\VR μ' v v'/\WR μ' A' w'/\Ext μ A w μ' A' w':=by
 unfold zps at h
 split at h
 ·rename_i s
  simp only[VR] at hx;subst hx
  split at h
  ·rename_i hu
   cases h
   have hN:=W.new (d:=0) (sz:=0) (k:=0) (o:=.sit s 0) (o':=.stringIter s 0) ⟨rfl,rfl⟩;refine⟨_,.pointer (some ⟨w.heap.size,0,none⟩),_,?_,?_,hN⟩
   ·simp[Instr.range,rU hu]
   ·simp only[VR];exact⟨_,rfl,zpy (W.dom _ (xh _))⟩
  ·cases h
 ·cases h
noncomputable def zyd (A:AW) (str:Bool):Value->Option (Value × AW)
 | .pointer (some ⟨r,0,none⟩)=>match A.get r,str with
  | some (.sit s pos),true=>if pos<s.size then some (.tuple ⟨[.bool true,goInt pos,.int .i32 (Utf8.decode s pos).1]⟩,A.set r (some (.sit s (pos+(Utf8.decode s pos).2)))) else some (.tuple ⟨[.bool false]⟩,A)
  | _,_=>none
 | _=>none
theorem zyc {str:Bool} {ty:TypeId} {x x' v:Value} {A':AW} (W:WR μ A w) (hx:VR μ x x') (h:zyd A str x=some (v,A')):∃v' w',(Instr.next x' str ty).run P w= .ok v' w'/\VR μ v v'/\WR μ A' w'/\Ext μ A w μ A' w':=by
 unfold zyd at h
 split at h
 ·rename_i r
  simp only[VR] at hx
  obtain⟨a',rfl,_,l,hm,rfl⟩:=hx
  split at h
  ·rename_i s pos hg
   obtain⟨o',h2,h3⟩:=W.has _ _ l hg hm;obtain⟨hd0,rfl⟩:=h3;have hget:(getObj l.b).run P w= .ok (.stringIter s pos) w:=by simp[getObj,Sem.run,h2]
   split at h
   ·rename_i hlt
    cases h
    have hset:(setObj l.b (.stringIter s (pos+(Utf8.decode s pos).2))).run P w= .ok () {w with heap:=w.heap.setIfInBounds l.b (.stringIter s (pos+(Utf8.decode s pos).2))}:=by simp[setObj,Sem.run,h2]
    have hU:=W.upd (o:=.sit s (pos+(Utf8.decode s pos).2)) (o':=.stringIter s (pos+(Utf8.decode s pos).2)) hg hm ⟨hd0,rfl⟩;refine⟨.tuple #[.bool true,goInt pos,.int .i32 (Utf8.decode s pos).1],_,?_,?_,hU⟩
    ·simp only[Instr.next,hd0,xi,Sem.run_bind,hget,Result.andThen,hlt,if_true,hset,Sem.run_pure]
    ·simp only[VR]
     exact⟨_,rfl,LR.cons (by simp[VR]) (LR.cons (by simp[goInt,VR]) (LR.cons (by simp[VR]) LR.nil))⟩
   ·rename_i hge
    cases h
    refine⟨.tuple #[.bool false],w,?_,?_,W,Ext.refl⟩
    ·simp only[Instr.next,hd0,xi,Sem.run_bind,hget,Result.andThen,hge,if_false,Sem.run_pure]
    ·simp only[VR]
     exact⟨_,rfl,LR.cons (by simp[VR]) LR.nil⟩
  ·cases h
 ·cases h
end Ev
end
section
namespace Ev
variable {P:Program} {μ:Mu} {A:AW} {w:World}
noncomputable def zgC (P:Program) (A:AW) (sType xType:TypeId) (s x:Value):Option (Value × AW):=
 match P.underlying sType,P.underlying xType,zou s,zou x with
 | some (.slice elem),some dx,some len,some n=>match P.info? elem with
  | some ie=>match ie.zero with
   | some z=>if zoE dx=false/\zco z=true/\(zar z).length=ie.size/\ie.bytes<=65536/\0<ie.size/\len+n<=1000000 then znq A elem ie.size s x n else none
   | none=>none
  | none=>none
 | _,_,_,_=>none
theorem zlc {sType xType ty:TypeId} {s s' x x' v:Value} {A':AW} (W:WR μ A w) (hs:VR μ s s') (hx:VR μ x x') (h:zgC P A sType xType s x=some (v,A')):
  ∃μ' v' w',(Builtin.append_ #[sType,xType] ty #[s',x']).run P w= .ok v' w'/\VR μ' v v'/\WR μ' A' w'/\Ext μ A w μ' A' w':=by
 unfold zgC at h
 split at h
 ·rename_i elem dx len n h1 h2 h3 h4
  split at h
  ·rename_i ie hie
   split at h
   ·rename_i z hz
    split at h
    ·rename_i hc
     obtain⟨c1,c2,c3,c4,c5,c6⟩:=hc;exact zqI {ie,z,dx,hd:=h1,hx:=h2,hn:=c1,hi:=hie,hs:=rfl,hz,hf:=c2,hl:=c3,hb:=c4,h0:=c5} W hs hx h4 h3 c6 h
    ·cases h
   ·cases h
  ·cases h
 ·cases h
noncomputable def zcM (P:Program) (l:Env) (o:Oper) (A:AW) (b:Builtin) (args:List Operand) (ts:List TypeId):Option (Value × AW):=
 match zep P l o with
 | some v=>some (v,A)
 | none=>match b,args,ts with
  | .len,[x],[t]=>match opv l x with
   | some v=>match aLen P A t v with
    | some r=>some (r,A)
    | none=>none
   | none=>none
  | .append,[x,y],[t,u]=>match opv l x,opv l y with
   | some s,some e=>zgC P A t u s e
   | _,_=>none
  | .unsafeSliceData,[x],_=>match opv l x with
   | some v=>match zeR v with
    | some r=>some (r,A)
    | none=>none
   | none=>none
  | .unsafeString,[x,y],[t,_]=>match opv l x,opv l y with
   | some p,some n=>znl P A t p n
   | _,_=>none
  | .copy,[x,y],[t,_]=>match opv l x,opv l y with
   | some p,some n=>zBT P A t p n
   | _,_=>none
  | .clear,[x],[t]=>match opv l x with
   | some v=>match zvs P A t v with
    | some A'=>some (.tuple #[],A')
    | none=>none
   | none=>none
  | _,_,_=>none
def o1 {α:Type} (x:Option α) (A:AW):Option (α × AW):=
 match x with
 | some v=>some (v,A)
 | none=>none
noncomputable def zyB (l:Env):Option Operand->Option (Option Value)
 | none=>some none
 | some x=>match opv l x with
  | some v=>some (some v)
  | none=>none
theorem zit {l:Env} {a:Act} {x:Option Operand} {v:Option Value} (h:TR μ l a.tmps.toList) (hx:zyB l x=some v):OVR μ v (x.map a.eval):=by
 unfold zyB at hx
 split at hx
 ·cases hx;simp[OVR]
 ·split at hx
  ·rename_i hv;cases hx;simp only[OVR,Option.map_some];exact⟨_,rfl,zam h hv⟩
  ·cases hx
noncomputable def zBO (P:Program) (l:Env) (t:TypeId) (x:Operand) (lo hi:Option Operand):Option Value:=
 match opv l x,zyB l lo,zyB l hi with
 | some v,some a,some b=>zBN P t v a b
 | _,_,_=>none
noncomputable def aOp (P:Program) (l:Env) (o:Oper) (A:AW):Option (Value × AW):=
 match o.op with
 | .move x | .assign x=>o1 (opv l x) A
 | .pick c a b=>match opv l c with
  | some (.bool true)=>o1 (opv l a) A
  | some (.bool false)=>o1 (opv l b) A
  | _=>none
 | .alloc t=>match P.info? t with
  | some i=>match i.zero with
   | some z=>if zco z then some (zAa A t (zar z) 1) else none
   | none=>none
  | none=>none
 | .box t x=>match opv l x with
  | some v=>some (zAa A t (zar v) 1)
  | none=>none
 | .build t ps=>o1 (zpw P l t ps.toList) A
 | .buildSlice t n ps=>zcN P A l t n ps.toList
 | .load t x=>match opv l x with
  | some p=>o1 (zjm P A t p) A
  | none=>none
 | .store t x y=>match opv l x,opv l y with
  | some p,some v=>match zpp P A t v p with
   | some A'=>some (undef,A')
   | none=>none
  | _,_=>none
 | .nilCheck x=>match opv l x with
  | some v=>if zoj v then some (v,A) else none
  | none=>none
 | .binOp op t x y _=>match zep P l o with
  | some v=>some (v,A)
  | none=>match opv l x,opv l y with
   | some a,some b=>o1 (aEq P A op t a b) A
   | _,_=>none
 | .unOp _ _ _ | .index _ _ _=>o1 (zep P l o) A
 | .convert s d x=>match zep P l o with
  | some v=>some (v,A)
  | none=>match opv l x with
   | some v=>match aB2S P A s d v with
    | some r=>some (r,A)
    | none=>match zji P A s d v with
     | some r=>some (r,A)
     | none=>match P.underlying s with
      | some _=>zGC P A d v
      | none=>none
   | none=>none
 | .range t x=>match opv l x with
  | some v=>zps P A t v
  | none=>none
 | .next x str=>match opv l x with
  | some v=>zyd A str v
  | none=>none
 | .makeInterface t x=>match opv l x with
  | some v=>o1 (zpu P t v) A
  | none=>none
 | .makeFunc (.func f) first captured=>match zyA l first.toList,zyA l captured.toList with
  | some a,some b=>some (.func (.func f) ⟨a⟩ ⟨b⟩,A)
  | _,_=>none
 | .makeMap _ none=>some (.map (some A.next),A.push (.map [] 0))
 | .makeMap t (some x)=>match P.underlying t,opv l x with
  | some (.map _ _),some (.int _ _)=>some (.map (some A.next),A.push (.map [] 0))
  | _,_=>none
 | .makeSlice t x y=>match opv l x,opv l y with
  | some a,some b=>zdw P A t a b
  | _,_=>none
 | .slice t x lo hi none=>match zBO P l t x lo hi with
  | some v=>some (v,A)
  | none=>match zep P l o with
   | some v=>some (v,A)
   | none=>match opv l x,zyB l lo,zyB l hi with
    | some v,some a,some b=>o1 (zpq P A t a b v) A
    | _,_,_=>none
 | .fieldAddr s x f=>match opv l x with
  | some v=>o1 (zpv P s f v) A
  | none=>none
 | .field t x f=>match opv l x with
  | some v=>o1 (zjn P t f v) A
  | none=>none
 | .indexAddr t x i=>match opv l x,opv l i with
  | some a,some b=>o1 (zpt P t a b) A
  | _,_=>none
 | .lookup t x k ok=>match opv l x,opv l k with
  | some a,some b=>o1 (zjl P A t a b ok) A
  | _,_=>none
 | .mapUpdate t m k x | .insert t m k x=>match opv l m,opv l k,opv l x with
  | some a,some b,some c=>match zjh P A t b c a with
   | some A'=>some (undef,A')
   | none=>none
  | _,_,_=>none
 | .extract x i=>match opv l x with
  | some v=>o1 (zfx i v) A
  | none=>none
 | .call {callee:=.builtin b,args:=⟨args⟩,argTypes:=⟨ts⟩}=>zcM P l o A b args ts
 | _=>none
theorem zcg {x:Option Value} {A A':AW} {v:Value} (h:o1 x A=some (v,A')):x=some v/\A'=A:=by
 unfold o1 at h
 split at h
 ·cases h;exact⟨rfl,rfl⟩
 ·cases h
theorem map1 {f:Operand->Value} {x:Operand}:xb f ⟨[x]⟩=#[f x]:=by
 rw[show(⟨[x]⟩:Array Operand)=[x].toArray from rfl];simp
theorem map2 {f:Operand->Value} {x y:Operand}:xb f ⟨[x,y]⟩=#[f x,f y]:=by
 rw[show(⟨[x,y]⟩:Array Operand)=[x,y].toArray from rfl];simp
theorem znp {l:Env} {a:Act} {dst:Option Tmp} {type:TypeId} {pos:String} {after:Array Edge} {guard:Option (Nat × Bool)} {b:Builtin} {args:List Operand} {ts:List TypeId} {v:Value} {A':AW} (W:WR μ A w) (hl:TR μ l a.tmps.toList)
  (h:zcM P l ⟨dst,.call {callee:=.builtin b,args:=⟨args⟩,argTypes:=⟨ts⟩},type,pos,after,guard⟩ A b args ts=some (v,A')):
  zBW P a.eval ⟨dst,.call {callee:=.builtin b,args:=⟨args⟩,argTypes:=⟨ts⟩},type,pos,after,guard⟩ μ A w v A':=by
 unfold zcM at h
 split at h
 ·rename_i hp;cases h;exact zdv W hl hp
 ·split at h
  ·rename_i x t _
   split at h
   ·rename_i u hu
    split at h
    ·rename_i r hr
     cases h
     obtain⟨v',h1,h2⟩:=zBS (P:=P) (ty:=type) W (zam hl hu) hr;refine .same W ?_ h2
     simp only[execOp,resolve,Sem.run_bind,Sem.run_pure,Result.andThen,invoke,builtin]
     have e:(Builtin.len_ #[t] type (xb a.eval ⟨[x]⟩)).run P w= .ok v' w:=by rw[map1];exact h1
     rw[e]
    ·cases h
   ·cases h
  ·rename_i x y t u _
   split at h
   ·rename_i s e hs he
    obtain⟨μ',v',w',h1,h2,h3⟩:=zlc (P:=P) (ty:=type) W (zam hl hs) (zam hl he) h;refine⟨μ',v',w',.inl ?_,h2,h3⟩
    simp only[execOp,resolve,Sem.run_bind,Sem.run_pure,Result.andThen,invoke,builtin]
    have e:(Builtin.append_ #[t,u] type (xb a.eval ⟨[x,y]⟩)).run P w= .ok v' w':=by rw[map2];exact h1
    rw[e]
   ·cases h
  ·rename_i x _
   split at h
   ·rename_i u hu
    split at h
    ·rename_i r hr
     cases h
     obtain⟨v',h1,h2⟩:=zjj (P:=P) (w:=w) (ts:=⟨ts⟩) (t:=type) (zam hl hu) hr;refine .same W ?_ h2
     simp only[execOp,resolve,Sem.run_bind,Sem.run_pure,Result.andThen,invoke,builtin]
     have e:(Builtin.unsafeSliceData_ ⟨ts⟩ type (xb a.eval ⟨[x]⟩)).run P w= .ok v' w:=by rw[map1];exact h1
     rw[e]
    ·cases h
   ·cases h
  ·rename_i x y t it _
   split at h
   ·rename_i p n hp hn
    obtain⟨v',w',h1,h2,h3⟩:=zqF (P:=P) (it:=it) (ty:=type) W (zam hl hp) (zam hl hn) h;refine⟨μ,v',w',.inl ?_,h2,h3⟩
    simp only[execOp,resolve,Sem.run_bind,Sem.run_pure,Result.andThen,invoke,builtin]
    have e:(Builtin.unsafeString_ #[t,it] type (xb a.eval ⟨[x,y]⟩)).run P w= .ok v' w':=by rw[map2];exact h1
    rw[e]
   ·cases h
  ·rename_i x y t it _
   split at h
   ·rename_i p n hp hn
    obtain⟨v',w',h1,h2,h3⟩:=zyf (P:=P) (sType:=it) (ty:=type) W (zam hl hp) (zam hl hn) h;refine⟨μ,v',w',.inl ?_,h2,h3⟩
    simp only[execOp,resolve,Sem.run_bind,Sem.run_pure,Result.andThen,invoke,builtin]
    have e:(Builtin.copy_ #[t,it] type (xb a.eval ⟨[x,y]⟩)).run P w= .ok v' w':=by rw[map2];exact h1
    rw[e]
   ·cases h
  ·rename_i x t _
   split at h
   ·rename_i u hu
    split at h
    ·rename_i A1 hr
     cases h
     obtain⟨w',h1,h2,h3⟩:=zvr (P:=P) (ty:=type) W (zam hl hu) hr;refine⟨μ,.tuple #[],w',.inl ?_,by simp[VR,LR],h2,h3⟩
     simp only[execOp,resolve,Sem.run_bind,Sem.run_pure,Result.andThen,invoke,builtin]
     have e:(Builtin.clear_ #[t] type (xb a.eval ⟨[x]⟩)).run P w= .ok (.tuple #[]) w':=by rw[map1];exact h1
     rw[e]
    ·cases h
   ·cases h
  ·cases h
theorem zGD {op:BinOp} {t:TypeId} {xo yo:Operand} {x x' y y' v:Value} (W:WR μ A w) (hx:VR μ x x') (hy:VR μ y y') (h:aEq P A op t x y=some v):
  ((do eqGuard op t xo yo x' y';binOp op t x' y'):Sem Value).run P w= .ok v w:=by
 unfold aEq at h
 split at h
 ·rename_i hadr
  have main:∀r,zmZ P A t x y=some r->((op= .eql/\v= .bool r)\/(op= .neq/\v= .bool (!r)))->((do eqGuard op t xo yo x' y';binOp op t x' y'):Sem Value).run P w= .ok v w:=by
   intro r hr hop;have he:=zxF (w:=w) W hx hy hr
   rcases zmY hr with ⟨p,q,rfl,rfl⟩ | ⟨p1,p2,p3,q1,q2,q3,rfl,rfl⟩ | ⟨p,q,rfl,rfl⟩ | ⟨f,u1,v1,rfl,rfl⟩ | ⟨f,u1,v1,rfl,rfl⟩ | ⟨p,q,rfl,rfl⟩ | ⟨p,q,rfl,rfl⟩ | ⟨p1,p2,q1,q2,rfl,rfl⟩
   all_goals
    have kx:=hx;have ky:=hy
   ·cases p<;>cases q<;>simp only[VR] at kx ky<;>(first | (obtain⟨_,rfl,_⟩:=kx) | subst kx)<;>(first | (obtain⟨_,rfl,_⟩:=ky) | subst ky)<;>rcases hop with ⟨rfl,rfl⟩ | ⟨rfl,rfl⟩<;>simp[eqGuard,binOp,he]
   ·cases p1<;>cases q1<;>simp only[VR] at kx ky<;>(first | (obtain⟨_,_,rfl,_⟩:=kx) | subst kx)<;>(first | (obtain⟨_,_,rfl,_⟩:=ky) | subst ky)<;>rcases hop with ⟨rfl,rfl⟩ | ⟨rfl,rfl⟩<;>simp[eqGuard,binOp,he]
   ·cases p<;>cases q<;>simp only[VR] at kx ky<;>(first | (obtain⟨_,rfl,_⟩:=kx) | subst kx)<;>(first | (obtain⟨_,rfl,_⟩:=ky) | subst ky)<;>rcases hop with ⟨rfl,rfl⟩ | ⟨rfl,rfl⟩<;>simp[eqGuard,binOp,he]
   ·simp only[VR] at kx;subst kx
    obtain⟨u1⟩:=u1;obtain⟨v1⟩:=v1
    cases f<;>simp only[VR] at ky
    ·obtain⟨_,_,rfl,_⟩:=ky
     rcases hop with ⟨rfl,rfl⟩ | ⟨rfl,rfl⟩<;>simp[eqGuard,binOp,he]
    ·obtain⟨_,_,_,rfl,_⟩:=ky
     rcases hop with ⟨rfl,rfl⟩ | ⟨rfl,rfl⟩<;>simp[eqGuard,binOp,he]
   ·simp only[VR] at ky;subst ky
    obtain⟨u1⟩:=u1;obtain⟨v1⟩:=v1
    cases f<;>simp only[VR] at kx
    ·obtain⟨_,_,rfl,_⟩:=kx
     rcases hop with ⟨rfl,rfl⟩ | ⟨rfl,rfl⟩<;>simp[eqGuard,binOp,he]
    ·obtain⟨_,_,_,rfl,_⟩:=kx
     rcases hop with ⟨rfl,rfl⟩ | ⟨rfl,rfl⟩<;>simp[eqGuard,binOp,he]
   ·simp only[VR] at kx ky;subst kx;obtain⟨_,rfl,_⟩:=ky
    rcases hop with ⟨rfl,rfl⟩ | ⟨rfl,rfl⟩<;>simp[eqGuard,binOp,he]
   ·simp only[VR] at kx ky;subst ky;obtain⟨_,rfl,_⟩:=kx
    rcases hop with ⟨rfl,rfl⟩ | ⟨rfl,rfl⟩<;>simp[eqGuard,binOp,he]
   ·simp only[VR] at kx ky;obtain⟨_,rfl,_⟩:=kx;obtain⟨_,rfl,_⟩:=ky
    rcases hop with ⟨rfl,rfl⟩ | ⟨rfl,rfl⟩<;>simp[eqGuard,binOp,he]
  split at h
  ·rename_i r hr;cases h;exact main _ hr (.inl ⟨rfl,rfl⟩)
  ·rename_i r hr;cases h;exact main _ hr (.inr ⟨rfl,rfl⟩)
  ·cases h
 ·cases h
theorem zpQ {o:Oper} {x:Operand} {a:Act} {v:Value} (ho:o.op= .nilCheck x) (hv:VR μ v (a.eval x)) (hn:zoj v=true):(execOp a.eval o).run P w= .ok (.value (a.eval x)) w:=by
 unfold zoj at hn
 split at hn
 ·simp only[VR] at hv;obtain⟨_,he,_⟩:=hv;simp[execOp,ho,he]
 ·rename_i f x1 y1;obtain⟨x1⟩:=x1;obtain⟨y1⟩:=y1
  simp only[VR] at hv;obtain⟨_,_,he,_⟩:=hv;simp[execOp,ho,he]
 ·simp only[VR] at hv;obtain⟨_,he,_⟩:=hv;simp[execOp,ho,he]
 ·cases hn
theorem zvm {l:Env} {a:Act} {o:Oper} {v:Value} {A':AW} (W:WR μ A w) (hl:TR μ l a.tmps.toList) (h:aOp P l o A=some (v,A')):zBW P a.eval o μ A w v A':=by
 obtain⟨dst,op,type,pos,after,guard⟩:=o;unfold aOp at h
 simp only at h
 split at h
 ·replace h:=zcg h;obtain⟨h,rfl⟩:=h;exact .same W (by simp[execOp]) (zam hl h)
 ·replace h:=zcg h;obtain⟨h,rfl⟩:=h;exact .same W (by simp[execOp]) (zam hl h)
 ·split at h
  ·rename_i hc
   replace h:=zcg h;obtain⟨h,rfl⟩:=h
   have:=zam hl hc
   simp only[VR] at this
   exact .same W (by simp[execOp,this,asBool]) (zam hl h)
  ·rename_i hc
   replace h:=zcg h;obtain⟨h,rfl⟩:=h
   have:=zam hl hc
   simp only[VR] at this
   exact .same W (by simp[execOp,this,asBool]) (zam hl h)
  ·cases h
 ·rename_i t
  split at h
  ·rename_i i hi
   split at h
   ·rename_i z hz
    split at h
    ·rename_i hf
     obtain⟨μ',p',w',h1,h2,h3⟩:=zvn (P:=P) (es:=1) W (zbo hf)
     cases h
     refine⟨μ',p',w',.inl ?_,h2,h3⟩;have h4:(Instr.alloc t true (.tuple #[])).run P w= .ok p' w':=by
      simp only[Instr.alloc,Sem.run_bind,rZ hi hz,Result.andThen]
      exact h1
     simp only[execOp,Sem.run_bind,h4,Result.andThen,Sem.run_pure]
    ·cases h
   ·cases h
  ·cases h
 ·split at h
  ·rename_i u hu
   obtain⟨μ',p',w',h1,h2,h3⟩:=zvn (P:=P) (es:=1) W (zam hl hu)
   cases h
   exact⟨μ',p',w',.inl (by simp[execOp,h1]),h2,h3⟩
  ·cases h
 ·replace h:=zcg h;obtain⟨h,rfl⟩:=h
  obtain⟨v',h1,h2⟩:=zvt (w:=w) hl h;exact .same W (by simp only[execOp,Sem.run_bind,h1,Result.andThen,Sem.run_pure]) h2
 ·obtain⟨μ',v',w',h1,h2,h3⟩:=zhh W hl h
  exact⟨μ',v',w',.inl (by simp only[execOp,Sem.run_bind,h1,Result.andThen,Sem.run_pure]),h2,h3⟩
 ·split at h
  ·rename_i p hp
   replace h:=zcg h;obtain⟨h,rfl⟩:=h
   obtain⟨v',h1,h2⟩:=zye W (zam hl hp) h;exact .same W (by simp[execOp,h1]) h2
  ·cases h
 ·split at h
  ·rename_i p u hp hu
   split at h
   ·rename_i A1 hs
    cases h
    obtain⟨w',h1,h2,h3⟩:=zvi W (zam hl hp) (zam hl hu) hs;exact⟨μ,undef,w',.inr ⟨by simp[execOp,h1],rfl⟩,zcc,h2,h3⟩
   ·cases h
  ·cases h
 ·split at h
  ·rename_i u hu
   split at h
   ·rename_i hn
    cases h
    exact .same W (zpQ rfl (zam hl hu) hn) (zam hl hu)
   ·cases h
  ·cases h
 ·rename_i bop bt xo yo _
  split at h
  ·rename_i hp;cases h;exact zdv W hl hp
  ·split at h
   ·rename_i x y hx hy
    replace h:=zcg h;obtain⟨h,rfl⟩:=h
    have h1:=zGD (P:=P) (xo:=xo) (yo:=yo) W (zam hl hx) (zam hl hy) h;have hf:zco v=true:=by
     unfold aEq at h
     split at h
     ·split at h<;>first | (cases h;rfl) | cases h
     ·cases h
    refine .same W ?_ (zbo hf)
    simp only[execOp]
    rw[Sem.run_bind,h1]
    rfl
   ·cases h
 ·replace h:=zcg h;obtain⟨h,rfl⟩:=h;exact zdv W hl h
 ·replace h:=zcg h;obtain⟨h,rfl⟩:=h;exact zdv W hl h
 ·split at h
  ·rename_i hp;cases h;exact zdv W hl hp
  ·split at h
   ·rename_i x hx
    split at h
    ·rename_i r hr
     cases h
     obtain⟨v',h1,h2⟩:=zBU W (zam hl hx) hr;exact .same W (by simp[execOp,h1]) h2
    ·split at h
     ·rename_i r hr
      cases h
      obtain⟨v',h1,h2⟩:=zqE W (zam hl hx) hr;exact .same W (by simp[execOp,h1]) h2
     ·split at h
      ·rename_i ds hds
       obtain⟨μ',v',w',h1,h2,h3⟩:=zBQ W hds (zam hl hx) h;exact⟨μ',v',w',.inl (by simp[execOp,h1]),h2,h3⟩
      ·cases h
   ·cases h
 ·split at h
  ·rename_i x hx
   obtain⟨μ',v',w',h1,h2,h3⟩:=zvl W (zam hl hx) h;exact⟨μ',v',w',.inl (by simp[execOp,h1]),h2,h3⟩
  ·cases h
 ·split at h
  ·rename_i x hx
   obtain⟨v',w',h1,h2,h3⟩:=zyc (P:=P) (ty:=type) W (zam hl hx) h;exact⟨μ,v',w',.inl (by simp only[execOp,Sem.run_bind,h1,Result.andThen,Sem.run_pure]),h2,h3⟩
  ·cases h
 ·split at h
  ·rename_i x hx
   replace h:=zcg h;obtain⟨h,rfl⟩:=h
   obtain⟨v',h1,h2⟩:=zvp (w:=w) (zam hl hx) h;exact .same W (by simp[execOp,h1]) h2
  ·cases h
 ·rename_i f first captured
  split at h
  ·rename_i x y hx hy
   cases h
   refine .same (v':=.func (.func f) (first.map a.eval) (captured.map a.eval)) W (by simp[execOp,Instr.makeFunc]) ?_
   simp only[VR]
   exact⟨_,_,rfl,by rw[xa];exact zeD hl hx,by rw[xa];exact zeD hl hy⟩
  ·cases h
 ·rename_i t
  cases h
  obtain⟨μ',v',w',h1,h2,h3⟩:=znn (P:=P) (t:=t) W;exact⟨μ',v',w',.inl (by simp only[execOp,Option.map_none,Sem.run_bind,h1,Result.andThen,Sem.run_pure]),h2,h3⟩
 ·split at h
  ·rename_i x _ _ k e ki zi hd hx
   cases h
   have hv:=zam hl hx
   simp only[VR] at hv
   obtain⟨μ',v',w',h1,h2,h3⟩:=zkZ (P:=P) (k:=ki) (z:=zi) hd W;exact⟨μ',v',w',.inl (by simp only[execOp,Option.map_some,hv,Sem.run_bind,h1,Result.andThen,Sem.run_pure]),h2,h3⟩
  ·cases h
 ·split at h
  ·rename_i x y hx hy
   obtain⟨μ',v',w',h1,h2,h3⟩:=zjk (P:=P) W (zam hl hx) (zam hl hy) h;exact⟨μ',v',w',.inl (by simp[execOp,h1]),h2,h3⟩
  ·cases h
 ·split at h
  ·rename_i hp
   cases h
   unfold zBO at hp
   split at hp
   ·rename_i x lo hi hx hlo hhi
    obtain⟨h1,h2⟩:=zxZ (P:=P) (w:=w) (zam hl hx) (zit hl hlo) (zit hl hhi) hp;exact .same W (by simp only[execOp,Option.map_none,Sem.run_bind,h1,Result.andThen,Sem.run_pure]) h2
   ·cases hp
  ·split at h
   ·rename_i hp;cases h;exact zdv W hl hp
   ·split at h
    ·rename_i x lo hi hx hlo hhi
     replace h:=zcg h;obtain⟨h,rfl⟩:=h
     obtain⟨v',h1,h2⟩:=zvj (P:=P) W (zam hl hx) (zit hl hlo) (zit hl hhi) h;exact .same W (by simp only[execOp,Option.map_none,Sem.run_bind,h1,Result.andThen,Sem.run_pure]) h2
    ·cases h
 ·split at h
  ·rename_i x hx
   replace h:=zcg h;obtain⟨h,rfl⟩:=h
   obtain⟨v',h1,h2⟩:=zvq (w:=w) (zam hl hx) h;exact .same W (by simp[execOp,h1]) h2
  ·cases h
 ·split at h
  ·rename_i x hx
   replace h:=zcg h;obtain⟨h,rfl⟩:=h
   obtain⟨v',h1,h2⟩:=zqH (w:=w) (zam hl hx) h;exact .same W (by simp[execOp,h1]) h2
  ·cases h
 ·split at h
  ·rename_i x y hx hy
   replace h:=zcg h;obtain⟨h,rfl⟩:=h
   obtain⟨v',h1,h2⟩:=zvo (w:=w) (zam hl hx) (zam hl hy) h;exact .same W (by simp[execOp,h1]) h2
  ·cases h
 ·split at h
  ·rename_i x y hx hy
   replace h:=zcg h;obtain⟨h,rfl⟩:=h
   obtain⟨v',h1,h2⟩:=zqG (P:=P) W (zam hl hx) (zam hl hy) h;exact .same W (by simp[execOp,h1]) h2
  ·cases h
 ·split at h
  ·rename_i m k x hm hk hx
   split at h
   ·rename_i A1 hs
    cases h
    obtain⟨w',h1,h2,h3⟩:=zhS (P:=P) W (zam hl hm) (zam hl hk) (zam hl hx) hs;exact⟨μ,undef,w',.inr ⟨by simp[execOp,h1],rfl⟩,zcc,h2,h3⟩
   ·cases h
  ·cases h
 ·split at h
  ·rename_i m k x hm hk hx
   split at h
   ·rename_i A1 hs
    cases h
    obtain⟨w',h1,h2,h3⟩:=zhS (P:=P) W (zam hl hm) (zam hl hk) (zam hl hx) hs;exact⟨μ,undef,w',.inr ⟨by simp[execOp,h1],rfl⟩,zcc,h2,h3⟩
   ·cases h
  ·cases h
 ·split at h
  ·rename_i x hx
   replace h:=zcg h;obtain⟨h,rfl⟩:=h
   obtain⟨v',h1,h2⟩:=zno (P:=P) (w:=w) (zam hl hx) h;exact .same W (by simp[execOp,h1]) h2
  ·cases h
 ·exact znp W hl h
 ·cases h
end Ev
end
section
namespace Ev
noncomputable def fN {α:Type} (n:Nat) (k:Nat->α):α:=Nat.rec (motive:=fun _=>α) (k 0) (fun m _=>k (Nat.succ m)) n
theorem zck {α:Type} (n:Nat) (k:Nat->α):fN n k=k n:=by cases n<;>rfl
noncomputable def fI {α:Type} (n:Int) (k:Int->α):α:=Int.rec (motive:=fun _=>α) (fun m=>fN m fun m=>k (.ofNat m)) (fun m=>fN m fun m=>k (.negSucc m)) n
theorem fI_eq {α:Type} (n:Int) (k:Int->α):fI n k=k n:=by cases n<;>simp only[fI,zck]
noncomputable def fB {α:Type} (b:Bool) (k:Bool->α):α:=Bool.rec (motive:=fun _=>α) (k false) (k true) b
theorem zGd {α:Type} (b:Bool) (k:Bool->α):fB b k=k b:=by cases b<;>rfl
noncomputable def fU {α:Type} (l:List UInt8):(List UInt8->α)->α:=
 List.rec (motive:=fun _=>(List UInt8->α)->α) (fun k=>k []) (fun u _ ih k=>fN u.toNat fun n=>ih fun r=>k (xd n::r)) l
theorem zGa {α:Type}:∀(l:List UInt8) (k:List UInt8->α),fU l k=k l
 | [],k=>rfl
 | u::r,k=>by
  show fN u.toNat (fun n=>fU r fun r=>k (xd n::r))=_
  simp only[zck,zGa r,UInt8.ofNat_toNat]
noncomputable def fS {α:Type} (s:ByteArray) (k:ByteArray->α):α:=fU s.data.toList fun l=>k ⟨⟨l⟩⟩
theorem zGb {α:Type} (s:ByteArray) (k:ByteArray->α):fS s k=k s:=by obtain⟨⟨l⟩⟩:=s;simp only[fS,zGa]
noncomputable def fA {α:Type} (a:Addr) (k:Addr->α):α:=
 Addr.rec (motive:=fun _=>α) (fun b o s=>xf (motive:=fun _=>α) (fN b fun b=>fN o fun o=>k ⟨b,o,none⟩) (fun s=>k ⟨b,o,some s⟩) s) a
theorem zGe {α:Type} (a:Addr) (k:Addr->α):fA a k=k a:=by obtain⟨b,o,s⟩:=a;cases s<;>simp only[fA,zck]
noncomputable def fV0 {α:Type} (v:Value) (k:Value->α):α:=
 Value.casesOn (motive_1:=fun _=>α) v (fun b=>fB b fun b=>k (.bool b)) (fun x n=>fI n fun n=>k (.int x n)) (fun x n=>k (.float x n)) (fun x n m=>k (.complex x n m)) (fun s=>fS s fun s=>k (.string s))
  (fun a=>xf (motive:=fun _=>α) (k (.pointer none)) (fun a=>fA a fun a=>k (.pointer (some a))) a)
  (fun a n c=>fN n fun n=>fN c fun c=>xf (motive:=fun _=>α) (k (.slice none n c)) (fun a=>fA a fun a=>k (.slice (some a) n c)) a)
  (fun r=>xf (motive:=fun _=>α) (k (.map none)) (fun r=>fN r fun r=>k (.map (some r))) r)
  (fun r=>k (.chan r)) (fun f x y=>k (.func f x y)) (k .nilFunc) (fun t v=>k (.iface t v)) (k .nilIface) (fun x=>k (.agg x)) (fun x=>k (.tuple x))
theorem zoT {α:Type} (v:Value) (k:Value->α):fV0 v k=k v:=by
 cases v with
 | bool b=>
  show fB b (fun b=>k (.bool b))=_
  rw[zGd]
 | int x n=>
  show fI n (fun n=>k (.int x n))=_
  rw[fI_eq]
 | string s=>
  show fS s (fun s=>k (.string s))=_
  rw[zGb]
 | pointer a=>cases a with
  | none=>rfl
  | some a=>
   show fA a (fun a=>k (.pointer (some a)))=_
   rw[zGe]
 | slice a n c=>cases a with
  | none=>
   show fN n (fun n=>fN c fun c=>k (.slice none n c))=_
   rw[zck,zck]
  | some a=>
   show fN n (fun n=>fN c fun c=>fA a fun a=>k (.slice (some a) n c))=_
   rw[zck,zck,zGe]
 | map a=>cases a with
  | none=>rfl
  | some a=>
   show fN a (fun a=>k (.map (some a)))=_
   rw[zck]
 | float _ _=>rfl
 | complex _ _ _=>rfl
 | chan _=>rfl
 | func _ _ _=>rfl
 | nilFunc=>rfl
 | iface _ _=>rfl
 | nilIface=>rfl
 | agg _=>rfl
 | tuple _=>rfl
noncomputable def zBZ {α:Type} (l:List Value):(List Value->α)->α:=
 List.rec (motive:=fun _=>(List Value->α)->α) (fun k=>k []) (fun v _ ih k=>fV0 v fun v=>ih fun r=>k (v::r)) l
theorem zgt {α:Type}:∀(l:List Value) (k:List Value->α),zBZ l k=k l
 | [],k=>rfl
 | v::r,k=>by
  show fV0 v (fun v=>zBZ r fun r=>k (v::r))=_
  rw[zoT,zgt r]
noncomputable def fV1 {α:Type} (v:Value) (k:Value->α):α:=
 match v with
 | .agg ⟨l⟩=>zBZ l fun l=>k (.agg ⟨l⟩)
 | v=>fV0 v k
theorem zzK {α:Type} (v:Value) (k:Value->α):fV1 v k=k v:=by
 unfold fV1
 split
 ·rw[zgt]
 ·rw[zoT]
noncomputable def zFZ {α:Type} (l:List Value):(List Value->α)->α:=
 List.rec (motive:=fun _=>(List Value->α)->α) (fun k=>k []) (fun v _ ih k=>fV1 v fun v=>ih fun r=>k (v::r)) l
theorem zmX {α:Type}:∀(l:List Value) (k:List Value->α),zFZ l k=k l
 | [],k=>rfl
 | v::r,k=>by
  show fV1 v (fun v=>zFZ r fun r=>k (v::r))=_
  rw[zzK,zmX r]
noncomputable def fV {α:Type} (v:Value) (k:Value->α):α:=
 match v with
 | .agg ⟨l⟩=>zBZ l fun l=>k (.agg ⟨l⟩)
 | .tuple ⟨l⟩=>zFZ l fun l=>k (.tuple ⟨l⟩)
 | v=>fV0 v k
theorem zhf {α:Type} (v:Value) (k:Value->α):fV v k=k v:=by
 unfold fV
 split
 ·rw[zgt]
 ·rw[zmX]
 ·rw[zoT]
noncomputable def fM {α:Type}:List MapEntry->(List MapEntry->α)->α
 | [],k=>k []
 | ⟨a,b,c⟩::r,k=>fV0 a fun a=>fV1 b fun b=>fN c fun c=>fM r fun r=>k (⟨a,b,c⟩::r)
theorem zGc {α:Type}:∀(l:List MapEntry) (k:List MapEntry->α),fM l k=k l
 | [],k=>rfl
 | ⟨a,b,c⟩::r,k=>by simp only[fM,zoT,zzK,zck,zGc r]
noncomputable def fO {α:Type}:Option zbK->(Option zbK->α)->α
 | none,k=>k none
 | some (.cells vs t op fz es),k=>zBZ vs fun vs=>fN t fun t=>fB op fun op=>fN es fun es=>(match fz with
  | none=>k (some (.cells vs t op none es))
  | some z=>fN z fun z=>k (some (.cells vs t op (some z) es)))
 | some (.map es c),k=>fM es fun es=>fN c fun c=>k (some (.map es c))
 | some (.sit s p),k=>fS s fun s=>fN p fun p=>k (some (.sit s p))
 | some (.dfr op),k=>k (some (.dfr op))
 | some (.loop st j ps asg bd t n),k=>k (some (.loop st j ps asg bd t n))
theorem fO_eq {α:Type}:∀(o:Option zbK) (k:Option zbK->α),fO o k=k o
 | none,k=>rfl
 | some (.cells vs t op fz es),k=>by cases fz<;>simp only[fO,zgt,zck,zGd]
 | some (.map es c),k=>by simp only[fO,zGc,zck]
 | some (.sit s p),k=>by simp only[fO,zGb,zck]
 | some (.dfr op),k=>rfl
 | some (.loop st j ps asg bd t n),k=>rfl
noncomputable def fLog {α:Type}:List (Nat × Option zbK)->Tr zbK->(Tr zbK->α)->α
 | [],t,k=>k t
 | (i,o)::r,t,k=>fLog r t fun t=>fN i fun i=>fO o fun o=>Tr.fput o (Nat.succ i) t i k
noncomputable def zhz:List (Nat × Option zbK)->Tr zbK->Tr zbK
 | [],t=>t
 | (i,o)::r,t=>Tr.put o (i+1) (zhz r t) i
theorem zuy {α:Type}:∀(l:List (Nat × Option zbK)) (t:Tr zbK) (k:Tr zbK->α),fLog l t k=k (zhz l t)
 | [],t,k=>rfl
 | (i,o)::r,t,k=>by simp only[fLog,zhz,zuy r,zck,fO_eq,Tr.fput_eq]
theorem zhy:∀(l:List (Nat × Option zbK)) (t:Tr zbK) (j:Nat),(zhz l t).get j=match zga l j with | some o=>o | none=>t.get j
 | [],t,j=>rfl
 | (i,o)::r,t,j=>by
  simp only[zhz,zga]
  rw[Tr.get_put _ _ _ _ _ (by omega)]
  by_cases h:j=i
  ·simp[h]
  ·simp only[h,if_false]
   exact zhy r t j
noncomputable def fW {α:Type} (A:AW) (k:AW->α):α:=
 match A with
 | ⟨[],t,n⟩=>k ⟨[],t,n⟩
 | ⟨x::l,t,n⟩=>fLog (x::l) t fun t=>fN n fun n=>k ⟨[],t,n⟩
noncomputable def zhe (A:AW):AW:=⟨[],zhz A.log A.tree,A.next⟩
theorem zgs {α:Type} (A:AW) (k:AW->α):fW A k=k (zhe A):=by
 obtain⟨l,t,n⟩:=A
 cases l with
 | nil=>rfl
 | cons x l=>simp only[fW,zuy,zck,zhe]
theorem zfp (A:AW) (j:Nat):(zhe A).get j=A.get j:=by
 simp only[zhe,AW.get,zga]
 exact zhy A.log A.tree j
theorem WR.lay {μ:Mu} {A:AW} {w:World} (W:WR μ A w):WR μ (zhe A) w:=
 ⟨fun i o l h=>W.has i o l (by rwa [zfp] at h),fun i j oi oj li lj hi hj=>W.inj i j oi oj li lj (by rwa [zfp] at hi) (by rwa [zfp] at hj),W.dom⟩
theorem Ext.lay {μ μ':Mu} {A A':AW} {w w':World} (E:Ext μ A w μ' A' w'):Ext μ A w μ' (zhe A') w':=
 ⟨E.le,E.size,E.tape,E.os,E.output,E.stay,fun i o l h=>E.img i o l (by rwa [zfp] at h),E.next,E.keep⟩
end Ev
end
end Go.Proofs.YtbbapnpdfcgjnaaGreatDoor
