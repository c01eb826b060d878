/- EvX, Ev11, EvN: parts of the proof, joined. -/
import Derived.Laws.BytesString
import Derived.Laws.RangeString
import Derived.Test.YtokpjifnlifafaaGreatDoorEEv9
set_option maxHeartbeats 64000000
namespace Go.Proofs.YtokpjifnlifafaaGreatDoor
section
namespace Ev
variable {P:Program} {μ:Mu} {A:AW} {w:World}
theorem zdP:∀{l:List Value} {bs:List UInt8},zbx l=some bs->∃ns:List Int,l=ns.map (Value.int .u8)/\bs=ns.map fun n=>UInt8.ofNat n.toNat
 | [],bs,h=>by simp only[zbx] at h;cases h;exact⟨[],rfl,rfl⟩
 | x::l,bs,h=>by
  unfold zbx at h
  split at h
  ·rename_i heq;cases heq
  ·rename_i n r heq
   cases heq
   split at h
   ·rename_i bs' hbs
    cases h
    obtain⟨ns,rfl,rfl⟩:=zdP hbs;exact⟨n::ns,rfl,rfl⟩
   ·cases h
  ·cases h
theorem fold_push:∀(ns:List Int) (s:ByteArray),ns.foldl (fun r n=>r.push (UInt8.ofNat n.toNat)) s=⟨(s.data.toList++ns.map fun n=>UInt8.ofNat n.toNat).toArray⟩
 | [],s=>by simp
 | n::ns,s=>by
  rw[List.foldl_cons,fold_push ns]
  simp[ByteArray.push]
noncomputable def aB2S (P:Program) (A:AW) (src dst:TypeId) (x:Value):Option Value:=
 match P.underlying src,P.underlying dst with
 | some (.slice e),some .string=>match P.underlying e with
  | some (.int .u8)=>match x with
   | .slice none _ _=>some (.string .empty)
   | .slice (some a) n _=>if n=0 then some (.string .empty) else match A.get a.block with
    | some (.cells vs _ _ _ _)=>if a.off+n<=vs.length then
      match zbx ((vs.drop a.off).take n) with
      | some bs=>some (.string ⟨bs.toArray⟩)
      | none=>none
     else none
    | _=>none
   | _=>none
  | _=>none
 | _,_=>none
theorem aB2S_ok {src dst:TypeId} {x x' v:Value} (W:WR μ A w) (hx:VR μ x x') (h:aB2S P A src dst x=some v):∃v',(convert src dst x').run P w= .ok v' w/\VR μ v v':=by
 unfold aB2S at h
 split at h
 ·rename_i e hs hd
  split at h
  ·rename_i he
   split at h
   ·cases h;simp only[VR] at hx;subst hx
    exact⟨.string .empty,by rw[run_convert_bytes_string w src dst e none _ _ hs he hd];rfl,by simp[VR]⟩
   ·rename_i a n c
    simp only[VR] at hx
    obtain⟨a',c',rfl,hS⟩:=hx
    split at h
    ·rename_i h0;cases h;subst h0
     refine⟨.string .empty,?_,by simp[VR]⟩
     rw[run_convert_bytes_string w src dst e (some a') _ _ hs he hd,run_bytesToString w a' 0 c' [] rfl]
     rfl
    ·rename_i h0
     split at h
     ·rename_i vs t op fz es hg
      split at h
      ·rename_i hle
       split at h
       ·rename_i bs hbs
        cases h
        obtain⟨xs',h1,h2⟩:=zbL (P:=P) W (hS.addr (by omega)) hg hle
        have hxs:=zaP (zcm hbs) h2;subst hxs;obtain⟨ns,hns,rfl⟩:=zdP hbs;rw[hns] at h1;refine⟨_,by rw[run_convert_bytes_string w src dst e (some a') _ _ hs he hd,run_bytesToString w a' n c' ns h1],?_⟩
        rw[fold_push]
        simp only[VR]
        rfl
       ·cases h
      ·cases h
     ·cases h
   ·cases h
  ·cases h
 ·cases h
noncomputable def aS2B (P:Program) (A:AW) (dst:TypeId):Value->Option (Value × AW)
 | .string s=>match P.underlying dst with
  | some (.slice e)=>match P.underlying e,P.info? e with
   | some (.int .u8),some ie=>if ie.size=1/\s.size<=1000000 then some (.slice (some ⟨A.next,0,none⟩) s.size unk,A.push (.cells (zbC s s.size) e true (some 0) 1)) else none
   | _,_=>none
  | _=>none
 | _=>none
theorem aS2B_ok {src dst:TypeId} {x x' v:Value} {A':AW} {ds:TypeDesc} (W:WR μ A w) (hsrc:P.underlying src=some ds) (hx:VR μ x x') (h:aS2B P A dst x=some (v,A')):
  ∃μ' v' w',(convert src dst x').run P w= .ok v' w'/\VR μ' v v'/\WR μ' A' w'/\Ext μ A w μ' A' w':=by
 unfold aS2B at h
 split at h
 ·rename_i s
  simp only[VR] at hx;subst hx
  split at h
  ·rename_i e hd
   split at h
   ·rename_i ie he hie
    split at h
    ·rename_i hc
     cases h
     obtain⟨W1,E1⟩:=W.drawn (w.drawn+1);have hlen:(zbC s s.size).length=s.size:=by
      unfold zbC;rw[Array.toList_map,List.length_map]
      simp
     have hcut:∃m,s.size<=m/\m=Question.cut (.appendCap s.size 0 e) (w.tape w.drawn (.appendCap s.size 0 e)):=⟨_,by simp[Question.cut],rfl⟩
     obtain⟨m,hm,hme⟩:=hcut;have hb:(s.data.map fun b=>Value.int .u8 b.toNat)=(zbC s s.size).toArray:=by
      unfold zbC;have:s.extract 0 s.size=s:=by simp
      rw[this]
     have hLR:LR μ (zbC s s.size) (zbC s s.size):=zaE (by unfold zbC;rw[Array.toList_map];exact zcP _)
     let c:Array Value:=(zbC s s.size).toArray++Array.replicate (m - s.size) (.int .u8 0)
     have hcs:c.size=m:=by simp only[c,Array.size_append,List.size_toArray,hlen,Array.size_replicate];omega
     have hN:=W1.new (d:=0) (sz:=m) (k:=1) (o:=.cells (zbC s s.size) e true (some 0) 1) (o':=.cells c e (m,m+1)) (by
      have hle:=Mu.add_le (x:=⟨w.heap.size,0,m,1⟩) (W1.dom A.next (Nat.le_refl _));refine⟨c,(m,m+1),rfl,hcs,by simp only[Nat.zero_add,hlen];exact hm,by simp,rfl,?_,?_⟩
      ·simp only[List.drop_zero,c,Array.toList_append]
       rw[List.take_left' rfl];exact hLR.mono hle
      ·simp only[FZ];intro i hi;simp at hi⊢;omega)
     refine⟨_,.slice (some ⟨w.heap.size,0,none⟩) s.size m,_,?_,?_,hN.1,E1.trans hN.2⟩
     ·have hconv:(convert src dst (.string s)).run P w=(Conv.stringToBytes e s).run P w:=by
       unfold convert
       simp only[Sem.run_bind,rU hsrc,rU hd,Result.andThen,rU he]
      rw[hconv]
      simp only[Conv.stringToBytes,Sem.run_bind,run_choose,Question.forced,Bool.false_eq_true,if_false,Result.andThen]
      rw[<- hme,hb]
      simp only[newRow,Sem.run_bind,run_newObj,Result.andThen,Sem.run_pure,markStringish,run_shape,World.shape?,Array.getElem?_push_size,run_freeze]
      have hfz:World.freeze {w with drawn:=w.drawn+1,heap:=w.heap.push (.cells c e)} {block:=w.heap.size,off:=c.size} 1={w with drawn:=w.drawn+1,heap:=w.heap.push (.cells c e (m,m+1))}:=by
       unfold World.freeze;rw[if_neg (by omega)]
       congr 1
       apply Array.ext_getElem?
       intro j;rw[Array.getElem?_modify,Array.getElem?_push,Array.getElem?_push]
       by_cases e':w.heap.size=j
       ·subst e';simp[hcs]
       ·have:¬j=w.heap.size:=fun h=>e' h.symm
        simp[e',this]
      exact congrArg (fun W'=>Result.ok (Value.slice (some ⟨w.heap.size,0,none⟩) s.size m) W') hfz
     ·simp only[VR]
      exact⟨_,_,rfl,.inr ⟨rfl,.inr ⟨rfl,hm,_,Mu.add_get (W1.dom A.next (Nat.le_refl _)),by simp,by simp⟩⟩⟩
    ·cases h
   ·cases h
  ·cases h
 ·cases h
noncomputable def aCopy (P:Program) (A:AW) (dType:TypeId) (d s:Value):Option (Value × AW):=
 match P.underlying dType,lenV s with
 | some (.slice elem),some sl=>match P.info? elem,d with
  | some _,.slice none dl _=>if Nat.min sl dl=0 then some (goInt 0,A) else none
  | some ie,.slice (some a) dl _=>if Nat.min sl dl=0 then some (goInt 0,A) else
    match A.get a.block,aCells A ie.size (Nat.min sl dl) s with
    | some (.cells vs t op fz es),some xs=>if xs.all (·.oneCell')=true/\a.off+xs.length<=vs.length/\FZok fz a.off=true then
      some (goInt (Nat.min sl dl),A.set a.block (some (.cells (splice vs a.off xs) t op fz es)))
     else none
    | _,_=>none
  | _,_=>none
 | _,_=>none
theorem cells_zero {x x':Value} {size m:Nat} (hx:VR μ x x') (hm:lenV x=some m):(Builtin.firstCells size 0 x').run P w= .ok #[] w:=by
 unfold lenV at hm
 split at hm
 ·rename_i a n c
  cases a with
  | none=>simp only[VR] at hx;subst hx;rfl
  | some a=>simp only[VR] at hx;obtain⟨_,_,rfl,_⟩:=hx;simp[Builtin.firstCells,loadCells,loadCellsFrom]
 ·simp only[VR] at hx;subst hx;simp[Builtin.firstCells]
 ·cases hm
theorem aCopy_ok {dType sType ty:TypeId} {d d' s s' v:Value} {A':AW} (W:WR μ A w) (hd:VR μ d d') (hs:VR μ s s') (h:aCopy P A dType d s=some (v,A')):
  ∃v' w',(Builtin.copy_ #[dType,sType] ty #[d',s']).run P w= .ok v' w'/\VR μ v v'/\WR μ A' w'/\Ext μ A w μ A' w':=by
 unfold aCopy at h
 split at h
 ·rename_i elem sl hu hsl
  split at h
  ·rename_i ie dl dc hie
   simp only[VR] at hd;subst hd
   split at h
   ·rename_i h0
    cases h
    refine⟨goInt 0,w,?_,by simp[goInt,VR],W,Ext.refl⟩
    simp[Builtin.copy_,rU hu,zbW hs hsl,rS hie,h0,cells_zero hs hsl]
   ·cases h
  ·rename_i ie a dl dc hie
   simp only[VR] at hd
   obtain⟨a',c',rfl,hS⟩:=hd
   split at h
   ·rename_i h0
    cases h
    refine⟨goInt 0,w,?_,by simp[goInt,VR],W,Ext.refl⟩
    simp[Builtin.copy_,rU hu,zbW hs hsl,rS hie,h0,cells_zero hs hsl,storeCells]
   ·rename_i h0
    split at h
    ·rename_i vs t op fz es xs hg hxs
     split at h
     ·rename_i hc
      obtain⟨h1,h2,h3⟩:=hc
      cases h
      obtain⟨xs',h4,h5⟩:=zby (P:=P) W hs hsl (Nat.min_le_left _ _) hxs;have hdl:0<dl:=by
       have:Nat.min sl dl<=dl:=Nat.min_le_right sl dl;omega
      obtain⟨w',h6,h7,h8⟩:=zbP (P:=P) W (hS.addr hdl) hg h5 h1 h2 h3;refine⟨goInt (Nat.min sl dl),w',?_,by simp[goInt,VR],h7,h8⟩
      simp[Builtin.copy_,rU hu,zbW hs hsl,rS hie,h4,h6]
     ·cases h
    ·cases h
  ·cases h
 ·cases h
noncomputable def aClear (P:Program) (A:AW) (t:TypeId):Value->Option AW
 | .slice none _ _=>match P.underlying t with
  | some _=>some A
  | none=>none
 | .slice (some _) 0 _=>match P.underlying t with
  | some _=>some A
  | none=>none
 | .slice (some a) (n+1) _=>match P.underlying t with
  | some (.slice elem)=>match P.info? elem with
   | some ie=>match ie.zero with
    | some z=>match A.get a.block with
     | some (.cells vs ty op fz es)=>if flat z=true/\(reps (n+1) (zan z)).all (·.oneCell')=true/\a.off+(reps (n+1) (zan z)).length<=vs.length/\FZok fz a.off=true then
       some (A.set a.block (some (.cells (splice vs a.off (reps (n+1) (zan z))) ty op fz es)))
      else none
     | _=>none
    | none=>none
   | none=>none
  | _=>none
 | _=>none
theorem zero_reps (z:Value) (m:Nat):Builtin.zeroCells z.cells m=(reps m (zan z)).toArray:=by
 unfold Builtin.zeroCells;rw[zcq,zaV]
theorem reps_flat {z:List Value} (h:LR μ z z):∀n,LR μ (reps n z) (reps n z)
 | 0=>LR.nil
 | n+1=>h.append (reps_flat h n)
theorem aClear_ok {t ty:TypeId} {x x':Value} {A':AW} (W:WR μ A w) (hx:VR μ x x') (h:aClear P A t x=some A'):
  ∃w',(Builtin.clear_ #[t] ty #[x']).run P w= .ok (.tuple #[]) w'/\WR μ A' w'/\Ext μ A w μ A' w':=by
 unfold aClear at h
 split at h
 ·split at h
  ·rename_i d hd
   cases h
   simp only[VR] at hx;subst hx
   exact⟨w,by simp[Builtin.clear_,rU hd],W,Ext.refl⟩
  ·cases h
 ·split at h
  ·rename_i d hd
   cases h
   simp only[VR] at hx;obtain⟨a',c',rfl,_⟩:=hx
   exact⟨w,by simp[Builtin.clear_,rU hd],W,Ext.refl⟩
  ·cases h
 ·rename_i a n c
  simp only[VR] at hx;obtain⟨a',c',rfl,hS⟩:=hx
  split at h
  ·rename_i elem hd
   split at h
   ·rename_i ie hi
    split at h
    ·rename_i z hz
     split at h
     ·rename_i vs ty' op fz es hg
      split at h
      ·rename_i hc
       obtain⟨h1,h2,h3,h4⟩:=hc
       cases h
       have hL:LR μ (zan z) (zan z):=by
        have:=zdj (zbc (μ:=μ) h1)
        rwa [zaV] at this
       obtain⟨w',h6,h7,h8⟩:=zbP (P:=P) W (hS.addr (Nat.succ_pos _)) hg (reps_flat hL (n+1)) h2 h3 h4;refine⟨w',?_,h7,h8⟩;have e:(Builtin.zeroCells z.cells (n+1)).toList=reps (n+1) (zan z):=by rw[zero_reps]
       simp[Builtin.clear_,rU hd,rZ hi hz,e,h6]
      ·cases h
     ·cases h
    ·cases h
   ·cases h
  ·cases h
 ·cases h
noncomputable def aRange (P:Program) (A:AW) (t:TypeId):Value->Option (Value × AW)
 | .string s=>match P.underlying t with
  | some .string=>some (.pointer (some ⟨A.next,0,none⟩),A.push (.sit s 0))
  | _=>none
 | _=>none
theorem aRange_ok {t:TypeId} {x x' v:Value} {A':AW} (W:WR μ A w) (hx:VR μ x x') (h:aRange P A t x=some (v,A')):∃μ' v' w',(Instr.range t x').run P w= .ok v' w'/\VR μ' v v'/\WR μ' A' w'/\Ext μ A w μ' A' w':=by
 unfold aRange at h
 split at h
 ·rename_i s
  simp only[VR] at hx;subst hx
  split at h
  ·rename_i hu
   cases h
   have hN:=W.new (d:=0) (sz:=0) (k:=0) (o:=.sit s 0) (o':=.stringIter s 0) ⟨rfl,rfl⟩;refine⟨_,.pointer (some ⟨w.heap.size,0,none⟩),_,?_,?_,hN⟩
   ·simp[Instr.range,rU hu]
   ·simp only[VR];exact⟨_,rfl,AR_new (W.dom _ (Nat.le_refl _))⟩
  ·cases h
 ·cases h
noncomputable def aNext (A:AW) (str:Bool):Value->Option (Value × AW)
 | .pointer (some ⟨r,0,none⟩)=>match A.get r,str with
  | some (.sit s pos),true=>if pos<s.size then some (.tuple ⟨[.bool true,goInt pos,.int .i32 (Utf8.decode s pos).1]⟩,A.set r (some (.sit s (pos+(Utf8.decode s pos).2)))) else some (.tuple ⟨[.bool false]⟩,A)
  | _,_=>none
 | _=>none
theorem aNext_ok {str:Bool} {ty:TypeId} {x x' v:Value} {A':AW} (W:WR μ A w) (hx:VR μ x x') (h:aNext A str x=some (v,A')):∃v' w',(Instr.next x' str ty).run P w= .ok v' w'/\VR μ v v'/\WR μ A' w'/\Ext μ A w μ A' w':=by
 unfold aNext at h
 split at h
 ·rename_i r
  simp only[VR] at hx
  obtain⟨a',rfl,_,l,hm,rfl⟩:=hx
  split at h
  ·rename_i s pos hg
   obtain⟨o',h2,h3⟩:=W.has _ _ l hg hm;obtain⟨hd0,rfl⟩:=h3;have hget:(getObj l.b).run P w= .ok (.stringIter s pos) w:=by simp[getObj,Sem.run,h2]
   split at h
   ·rename_i hlt
    cases h
    have hset:(setObj l.b (.stringIter s (pos+(Utf8.decode s pos).2))).run P w= .ok () {w with heap:=w.heap.setIfInBounds l.b (.stringIter s (pos+(Utf8.decode s pos).2))}:=by simp[setObj,Sem.run,h2]
    have hU:=W.upd (o:=.sit s (pos+(Utf8.decode s pos).2)) (o':=.stringIter s (pos+(Utf8.decode s pos).2)) hg hm ⟨hd0,rfl⟩;refine⟨.tuple #[.bool true,goInt pos,.int .i32 (Utf8.decode s pos).1],_,?_,?_,hU⟩
    ·simp only[Instr.next,hd0,Nat.add_zero,Sem.run_bind,hget,Result.andThen,hlt,if_true,hset,Sem.run_pure]
    ·simp only[VR]
     exact⟨_,rfl,LR.cons (by simp[VR]) (LR.cons (by simp[goInt,VR]) (LR.cons (by simp[VR]) LR.nil))⟩
   ·rename_i hge
    cases h
    refine⟨.tuple #[.bool false],w,?_,?_,W,Ext.refl⟩
    ·simp only[Instr.next,hd0,Nat.add_zero,Sem.run_bind,hget,Result.andThen,hge,if_false,Sem.run_pure]
    ·simp only[VR]
     exact⟨_,rfl,LR.cons (by simp[VR]) LR.nil⟩
  ·cases h
 ·cases h
end Ev
end
section
namespace Ev
variable {P:Program} {μ:Mu} {A:AW} {w:World}
noncomputable def zfg (P:Program) (A:AW) (sType xType:TypeId) (s x:Value):Option (Value × AW):=
 match P.underlying sType,P.underlying xType,lenV s,lenV x with
 | some (.slice elem),some dx,some len,some n=>match P.info? elem with
  | some ie=>match ie.zero with
   | some z=>if isIntD dx=false/\flat z=true/\(zan z).length=ie.size/\ie.bytes<=65536/\0<ie.size/\len+n<=1000000 then aAppend A elem ie.size s x n else none
   | none=>none
  | none=>none
 | _,_,_,_=>none
theorem aAppendOp_ok {sType xType ty:TypeId} {s s' x x' v:Value} {A':AW} (W:WR μ A w) (hs:VR μ s s') (hx:VR μ x x') (h:zfg P A sType xType s x=some (v,A')):
  ∃μ' v' w',(Builtin.append_ #[sType,xType] ty #[s',x']).run P w= .ok v' w'/\VR μ' v v'/\WR μ' A' w'/\Ext μ A w μ' A' w':=by
 unfold zfg at h
 split at h
 ·rename_i elem dx len n h1 h2 h3 h4
  split at h
  ·rename_i ie hie
   split at h
   ·rename_i z hz
    split at h
    ·rename_i hc
     obtain⟨c1,c2,c3,c4,c5,c6⟩:=hc;exact aAppend_ok {ie,z,dx,hd:=h1,hx:=h2,hn:=c1,hi:=hie,hs:=rfl,hz,hf:=c2,hl:=c3,hb:=c4,h0:=c5} W hs hx h4 h3 c6 h
    ·cases h
   ·cases h
  ·cases h
 ·cases h
noncomputable def zbX (P:Program) (l:Env) (o:Oper) (A:AW) (b:Builtin) (args:List Operand) (ts:List TypeId):Option (Value × AW):=
 match aPure P l o with
 | some v=>some (v,A)
 | none=>match b,args,ts with
  | .len,[x],[t]=>match opv l x with
   | some v=>match aLen P A t v with
    | some r=>some (r,A)
    | none=>none
   | none=>none
  | .append,[x,y],[t,u]=>match opv l x,opv l y with
   | some s,some e=>zfg P A t u s e
   | _,_=>none
  | .unsafeSliceData,[x],_=>match opv l x with
   | some v=>match zdK v with
    | some r=>some (r,A)
    | none=>none
   | none=>none
  | .unsafeString,[x,y],[t,_]=>match opv l x,opv l y with
   | some p,some n=>aString P A t p n
   | _,_=>none
  | .copy,[x,y],[t,_]=>match opv l x,opv l y with
   | some p,some n=>aCopy P A t p n
   | _,_=>none
  | .clear,[x],[t]=>match opv l x with
   | some v=>match aClear P A t v with
    | some A'=>some (.tuple #[],A')
    | none=>none
   | none=>none
  | _,_,_=>none
def o1 {α:Type} (x:Option α) (A:AW):Option (α × AW):=
 match x with
 | some v=>some (v,A)
 | none=>none
noncomputable def opvo (l:Env):Option Operand->Option (Option Value)
 | none=>some none
 | some x=>match opv l x with
  | some v=>some (some v)
  | none=>none
theorem opvo_ok {l:Env} {a:Act} {x:Option Operand} {v:Option Value} (h:TR μ l a.tmps.toList) (hx:opvo l x=some v):OVR μ v (x.map a.eval):=by
 unfold opvo at hx
 split at hx
 ·cases hx;simp[OVR]
 ·split at hx
  ·rename_i hv;cases hx;simp only[OVR,Option.map_some];exact⟨_,rfl,zai h hv⟩
  ·cases hx
noncomputable def aStrO (P:Program) (l:Env) (t:TypeId) (x:Operand) (lo hi:Option Operand):Option Value:=
 match opv l x,opvo l lo,opvo l hi with
 | some v,some a,some b=>aStrS P t v a b
 | _,_,_=>none
noncomputable def aOp (P:Program) (l:Env) (o:Oper) (A:AW):Option (Value × AW):=
 match o.op with
 | .move x | .assign x=>o1 (opv l x) A
 | .pick c a b=>match opv l c with
  | some (.bool true)=>o1 (opv l a) A
  | some (.bool false)=>o1 (opv l b) A
  | _=>none
 | .alloc t=>match P.info? t with
  | some i=>match i.zero with
   | some z=>if flat z then some (aNew A t (zan z) 1) else none
   | none=>none
  | none=>none
 | .box t x=>match opv l x with
  | some v=>some (aNew A t (zan v) 1)
  | none=>none
 | .build t ps=>o1 (aBuild P l t ps.toList) A
 | .buildSlice t n ps=>zbY P A l t n ps.toList
 | .load t x=>match opv l x with
  | some p=>o1 (aLoad P A t p) A
  | none=>none
 | .store t x y=>match opv l x,opv l y with
  | some p,some v=>match aStore P A t v p with
   | some A'=>some (undef,A')
   | none=>none
  | _,_=>none
 | .nilCheck x=>match opv l x with
  | some v=>if notNil v then some (v,A) else none
  | none=>none
 | .binOp op t x y _=>match aPure P l o with
  | some v=>some (v,A)
  | none=>match opv l x,opv l y with
   | some a,some b=>o1 (aEq P A op t a b) A
   | _,_=>none
 | .unOp _ _ _ | .index _ _ _=>o1 (aPure P l o) A
 | .convert s d x=>match aPure P l o with
  | some v=>some (v,A)
  | none=>match opv l x with
   | some v=>match aB2S P A s d v with
    | some r=>some (r,A)
    | none=>match aUnsafe P A s d v with
     | some r=>some (r,A)
     | none=>match P.underlying s with
      | some _=>aS2B P A d v
      | none=>none
   | none=>none
 | .range t x=>match opv l x with
  | some v=>aRange P A t v
  | none=>none
 | .next x str=>match opv l x with
  | some v=>aNext A str v
  | none=>none
 | .makeInterface t x=>match opv l x with
  | some v=>o1 (aIface P t v) A
  | none=>none
 | .makeFunc (.func f) first captured=>match opvs l first.toList,opvs l captured.toList with
  | some a,some b=>some (.func (.func f) ⟨a⟩ ⟨b⟩,A)
  | _,_=>none
 | .makeMap _ none=>some (.map (some A.next),A.push (.map [] 0))
 | .makeMap t (some x)=>match P.underlying t,opv l x with
  | some (.map _ _),some (.int _ _)=>some (.map (some A.next),A.push (.map [] 0))
  | _,_=>none
 | .makeSlice t x y=>match opv l x,opv l y with
  | some a,some b=>zcB P A t a b
  | _,_=>none
 | .slice t x lo hi none=>match aStrO P l t x lo hi with
  | some v=>some (v,A)
  | none=>match aPure P l o with
   | some v=>some (v,A)
   | none=>match opv l x,opvo l lo,opvo l hi with
    | some v,some a,some b=>o1 (aSlice P A t a b v) A
    | _,_,_=>none
 | .fieldAddr s x f=>match opv l x with
  | some v=>o1 (aField P s f v) A
  | none=>none
 | .field t x f=>match opv l x with
  | some v=>o1 (aFieldV P t f v) A
  | none=>none
 | .indexAddr t x i=>match opv l x,opv l i with
  | some a,some b=>o1 (aIndex P t a b) A
  | _,_=>none
 | .lookup t x k ok=>match opv l x,opv l k with
  | some a,some b=>o1 (aLookup P A t a b ok) A
  | _,_=>none
 | .mapUpdate t m k x | .insert t m k x=>match opv l m,opv l k,opv l x with
  | some a,some b,some c=>match aUpdate P A t b c a with
   | some A'=>some (undef,A')
   | none=>none
  | _,_,_=>none
 | .extract x i=>match opv l x with
  | some v=>o1 (zek i v) A
  | none=>none
 | .call {callee:=.builtin b,args:=⟨args⟩,argTypes:=⟨ts⟩}=>zbX P l o A b args ts
 | _=>none
theorem o1_ok {x:Option Value} {A A':AW} {v:Value} (h:o1 x A=some (v,A')):x=some v/\A'=A:=by
 unfold o1 at h
 split at h
 ·cases h;exact⟨rfl,rfl⟩
 ·cases h
theorem map1 {f:Operand->Value} {x:Operand}:Array.map f ⟨[x]⟩=#[f x]:=by
 rw[show(⟨[x]⟩:Array Operand)=[x].toArray from rfl];simp
theorem map2 {f:Operand->Value} {x y:Operand}:Array.map f ⟨[x,y]⟩=#[f x,f y]:=by
 rw[show(⟨[x,y]⟩:Array Operand)=[x,y].toArray from rfl];simp
theorem aBuiltin_ok {l:Env} {a:Act} {dst:Option Tmp} {type:TypeId} {pos:String} {after:Array Edge} {guard:Option (Nat × Bool)} {b:Builtin} {args:List Operand} {ts:List TypeId} {v:Value} {A':AW} (W:WR μ A w) (hl:TR μ l a.tmps.toList)
  (h:zbX P l ⟨dst,.call {callee:=.builtin b,args:=⟨args⟩,argTypes:=⟨ts⟩},type,pos,after,guard⟩ A b args ts=some (v,A')):
  OpOK P a.eval ⟨dst,.call {callee:=.builtin b,args:=⟨args⟩,argTypes:=⟨ts⟩},type,pos,after,guard⟩ μ A w v A':=by
 unfold zbX at h
 split at h
 ·rename_i hp;cases h;exact zcA W hl hp
 ·split at h
  ·rename_i x t _
   split at h
   ·rename_i u hu
    split at h
    ·rename_i r hr
     cases h
     obtain⟨v',h1,h2⟩:=aLen_ok (P:=P) (ty:=type) W (zai hl hu) hr;refine .same W ?_ h2
     simp only[execOp,resolve,Sem.run_bind,Sem.run_pure,Result.andThen,invoke,builtin]
     have e:(Builtin.len_ #[t] type (Array.map a.eval ⟨[x]⟩)).run P w= .ok v' w:=by rw[map1];exact h1
     rw[e]
    ·cases h
   ·cases h
  ·rename_i x y t u _
   split at h
   ·rename_i s e hs he
    obtain⟨μ',v',w',h1,h2,h3⟩:=aAppendOp_ok (P:=P) (ty:=type) W (zai hl hs) (zai hl he) h;refine⟨μ',v',w',.inl ?_,h2,h3⟩
    simp only[execOp,resolve,Sem.run_bind,Sem.run_pure,Result.andThen,invoke,builtin]
    have e:(Builtin.append_ #[t,u] type (Array.map a.eval ⟨[x,y]⟩)).run P w= .ok v' w':=by rw[map2];exact h1
    rw[e]
   ·cases h
  ·rename_i x _
   split at h
   ·rename_i u hu
    split at h
    ·rename_i r hr
     cases h
     obtain⟨v',h1,h2⟩:=aSliceData_ok (P:=P) (w:=w) (ts:=⟨ts⟩) (t:=type) (zai hl hu) hr;refine .same W ?_ h2
     simp only[execOp,resolve,Sem.run_bind,Sem.run_pure,Result.andThen,invoke,builtin]
     have e:(Builtin.unsafeSliceData_ ⟨ts⟩ type (Array.map a.eval ⟨[x]⟩)).run P w= .ok v' w:=by rw[map1];exact h1
     rw[e]
    ·cases h
   ·cases h
  ·rename_i x y t it _
   split at h
   ·rename_i p n hp hn
    obtain⟨v',w',h1,h2,h3⟩:=aString_ok (P:=P) (it:=it) (ty:=type) W (zai hl hp) (zai hl hn) h;refine⟨μ,v',w',.inl ?_,h2,h3⟩
    simp only[execOp,resolve,Sem.run_bind,Sem.run_pure,Result.andThen,invoke,builtin]
    have e:(Builtin.unsafeString_ #[t,it] type (Array.map a.eval ⟨[x,y]⟩)).run P w= .ok v' w':=by rw[map2];exact h1
    rw[e]
   ·cases h
  ·rename_i x y t it _
   split at h
   ·rename_i p n hp hn
    obtain⟨v',w',h1,h2,h3⟩:=aCopy_ok (P:=P) (sType:=it) (ty:=type) W (zai hl hp) (zai hl hn) h;refine⟨μ,v',w',.inl ?_,h2,h3⟩
    simp only[execOp,resolve,Sem.run_bind,Sem.run_pure,Result.andThen,invoke,builtin]
    have e:(Builtin.copy_ #[t,it] type (Array.map a.eval ⟨[x,y]⟩)).run P w= .ok v' w':=by rw[map2];exact h1
    rw[e]
   ·cases h
  ·rename_i x t _
   split at h
   ·rename_i u hu
    split at h
    ·rename_i A1 hr
     cases h
     obtain⟨w',h1,h2,h3⟩:=aClear_ok (P:=P) (ty:=type) W (zai hl hu) hr;refine⟨μ,.tuple #[],w',.inl ?_,by simp[VR,LR],h2,h3⟩
     simp only[execOp,resolve,Sem.run_bind,Sem.run_pure,Result.andThen,invoke,builtin]
     have e:(Builtin.clear_ #[t] type (Array.map a.eval ⟨[x]⟩)).run P w= .ok (.tuple #[]) w':=by rw[map1];exact h1
     rw[e]
    ·cases h
   ·cases h
  ·cases h
theorem aEq_ok {op:BinOp} {t:TypeId} {xo yo:Operand} {x x' y y' v:Value} (W:WR μ A w) (hx:VR μ x x') (hy:VR μ y y') (h:aEq P A op t x y=some v):
  ((do eqGuard op t xo yo x' y';binOp op t x' y'):Sem Value).run P w= .ok v w:=by
 unfold aEq at h
 split at h
 ·rename_i hadr
  have main:∀r,eqAny P A t x y=some r->((op= .eql/\v= .bool r)\/(op= .neq/\v= .bool (!r)))->((do eqGuard op t xo yo x' y';binOp op t x' y'):Sem Value).run P w= .ok v w:=by
   intro r hr hop;have he:=eqAny_ok (w:=w) W hx hy hr
   rcases eqAny_shape hr with ⟨p,q,rfl,rfl⟩ | ⟨p1,p2,p3,q1,q2,q3,rfl,rfl⟩ | ⟨p,q,rfl,rfl⟩ | ⟨f,u1,v1,rfl,rfl⟩ | ⟨f,u1,v1,rfl,rfl⟩ | ⟨p,q,rfl,rfl⟩ | ⟨p,q,rfl,rfl⟩ | ⟨p1,p2,q1,q2,rfl,rfl⟩
   all_goals
    have kx:=hx;have ky:=hy
   ·cases p<;>cases q<;>simp only[VR] at kx ky<;>(first | (obtain⟨_,rfl,_⟩:=kx) | subst kx)<;>(first | (obtain⟨_,rfl,_⟩:=ky) | subst ky)<;>rcases hop with ⟨rfl,rfl⟩ | ⟨rfl,rfl⟩<;>simp[eqGuard,binOp,he]
   ·cases p1<;>cases q1<;>simp only[VR] at kx ky<;>(first | (obtain⟨_,_,rfl,_⟩:=kx) | subst kx)<;>(first | (obtain⟨_,_,rfl,_⟩:=ky) | subst ky)<;>rcases hop with ⟨rfl,rfl⟩ | ⟨rfl,rfl⟩<;>simp[eqGuard,binOp,he]
   ·cases p<;>cases q<;>simp only[VR] at kx ky<;>(first | (obtain⟨_,rfl,_⟩:=kx) | subst kx)<;>(first | (obtain⟨_,rfl,_⟩:=ky) | subst ky)<;>rcases hop with ⟨rfl,rfl⟩ | ⟨rfl,rfl⟩<;>simp[eqGuard,binOp,he]
   ·simp only[VR] at kx;subst kx
    obtain⟨u1⟩:=u1;obtain⟨v1⟩:=v1
    cases f<;>simp only[VR] at ky
    ·obtain⟨_,_,rfl,_⟩:=ky
     rcases hop with ⟨rfl,rfl⟩ | ⟨rfl,rfl⟩<;>simp[eqGuard,binOp,he]
    ·obtain⟨_,_,_,rfl,_⟩:=ky
     rcases hop with ⟨rfl,rfl⟩ | ⟨rfl,rfl⟩<;>simp[eqGuard,binOp,he]
   ·simp only[VR] at ky;subst ky
    obtain⟨u1⟩:=u1;obtain⟨v1⟩:=v1
    cases f<;>simp only[VR] at kx
    ·obtain⟨_,_,rfl,_⟩:=kx
     rcases hop with ⟨rfl,rfl⟩ | ⟨rfl,rfl⟩<;>simp[eqGuard,binOp,he]
    ·obtain⟨_,_,_,rfl,_⟩:=kx
     rcases hop with ⟨rfl,rfl⟩ | ⟨rfl,rfl⟩<;>simp[eqGuard,binOp,he]
   ·simp only[VR] at kx ky;subst kx;obtain⟨_,rfl,_⟩:=ky
    rcases hop with ⟨rfl,rfl⟩ | ⟨rfl,rfl⟩<;>simp[eqGuard,binOp,he]
   ·simp only[VR] at kx ky;subst ky;obtain⟨_,rfl,_⟩:=kx
    rcases hop with ⟨rfl,rfl⟩ | ⟨rfl,rfl⟩<;>simp[eqGuard,binOp,he]
   ·simp only[VR] at kx ky;obtain⟨_,rfl,_⟩:=kx;obtain⟨_,rfl,_⟩:=ky
    rcases hop with ⟨rfl,rfl⟩ | ⟨rfl,rfl⟩<;>simp[eqGuard,binOp,he]
  split at h
  ·rename_i r hr;cases h;exact main _ hr (.inl ⟨rfl,rfl⟩)
  ·rename_i r hr;cases h;exact main _ hr (.inr ⟨rfl,rfl⟩)
  ·cases h
 ·cases h
theorem notNil_run {o:Oper} {x:Operand} {a:Act} {v:Value} (ho:o.op= .nilCheck x) (hv:VR μ v (a.eval x)) (hn:notNil v=true):(execOp a.eval o).run P w= .ok (.value (a.eval x)) w:=by
 unfold notNil at hn
 split at hn
 ·simp only[VR] at hv;obtain⟨_,he,_⟩:=hv;simp[execOp,ho,he]
 ·rename_i f x1 y1;obtain⟨x1⟩:=x1;obtain⟨y1⟩:=y1
  simp only[VR] at hv;obtain⟨_,_,he,_⟩:=hv;simp[execOp,ho,he]
 ·simp only[VR] at hv;obtain⟨_,he,_⟩:=hv;simp[execOp,ho,he]
 ·cases hn
theorem aOp_ok {l:Env} {a:Act} {o:Oper} {v:Value} {A':AW} (W:WR μ A w) (hl:TR μ l a.tmps.toList) (h:aOp P l o A=some (v,A')):OpOK P a.eval o μ A w v A':=by
 obtain⟨dst,op,type,pos,after,guard⟩:=o;unfold aOp at h
 simp only at h
 split at h
 ·replace h:=o1_ok h;obtain⟨h,rfl⟩:=h;exact .same W (by simp[execOp]) (zai hl h)
 ·replace h:=o1_ok h;obtain⟨h,rfl⟩:=h;exact .same W (by simp[execOp]) (zai hl h)
 ·split at h
  ·rename_i hc
   replace h:=o1_ok h;obtain⟨h,rfl⟩:=h
   have:=zai hl hc
   simp only[VR] at this
   exact .same W (by simp[execOp,this,asBool]) (zai hl h)
  ·rename_i hc
   replace h:=o1_ok h;obtain⟨h,rfl⟩:=h
   have:=zai hl hc
   simp only[VR] at this
   exact .same W (by simp[execOp,this,asBool]) (zai hl h)
  ·cases h
 ·rename_i t
  split at h
  ·rename_i i hi
   split at h
   ·rename_i z hz
    split at h
    ·rename_i hf
     obtain⟨μ',p',w',h1,h2,h3⟩:=aNew_ok (P:=P) (es:=1) W (zbc hf)
     cases h
     refine⟨μ',p',w',.inl ?_,h2,h3⟩;have h4:(Instr.alloc t true (.tuple #[])).run P w= .ok p' w':=by
      simp only[Instr.alloc,Sem.run_bind,rZ hi hz,Result.andThen]
      exact h1
     simp only[execOp,Sem.run_bind,h4,Result.andThen,Sem.run_pure]
    ·cases h
   ·cases h
  ·cases h
 ·split at h
  ·rename_i u hu
   obtain⟨μ',p',w',h1,h2,h3⟩:=aNew_ok (P:=P) (es:=1) W (zai hl hu)
   cases h
   exact⟨μ',p',w',.inl (by simp[execOp,h1]),h2,h3⟩
  ·cases h
 ·replace h:=o1_ok h;obtain⟨h,rfl⟩:=h
  obtain⟨v',h1,h2⟩:=aBuild_ok (w:=w) hl h;exact .same W (by simp only[execOp,Sem.run_bind,h1,Result.andThen,Sem.run_pure]) h2
 ·obtain⟨μ',v',w',h1,h2,h3⟩:=aBuildSlice_ok W hl h
  exact⟨μ',v',w',.inl (by simp only[execOp,Sem.run_bind,h1,Result.andThen,Sem.run_pure]),h2,h3⟩
 ·split at h
  ·rename_i p hp
   replace h:=o1_ok h;obtain⟨h,rfl⟩:=h
   obtain⟨v',h1,h2⟩:=aLoad_ok W (zai hl hp) h;exact .same W (by simp[execOp,h1]) h2
  ·cases h
 ·split at h
  ·rename_i p u hp hu
   split at h
   ·rename_i A1 hs
    cases h
    obtain⟨w',h1,h2,h3⟩:=aStore_ok W (zai hl hp) (zai hl hu) hs;exact⟨μ,undef,w',.inr ⟨by simp[execOp,h1],rfl⟩,zbD,h2,h3⟩
   ·cases h
  ·cases h
 ·split at h
  ·rename_i u hu
   split at h
   ·rename_i hn
    cases h
    exact .same W (notNil_run rfl (zai hl hu) hn) (zai hl hu)
   ·cases h
  ·cases h
 ·rename_i bop bt xo yo _
  split at h
  ·rename_i hp;cases h;exact zcA W hl hp
  ·split at h
   ·rename_i x y hx hy
    replace h:=o1_ok h;obtain⟨h,rfl⟩:=h
    have h1:=aEq_ok (P:=P) (xo:=xo) (yo:=yo) W (zai hl hx) (zai hl hy) h;have hf:flat v=true:=by
     unfold aEq at h
     split at h
     ·split at h<;>first | (cases h;rfl) | cases h
     ·cases h
    refine .same W ?_ (zbc hf)
    simp only[execOp]
    rw[Sem.run_bind,h1]
    rfl
   ·cases h
 ·replace h:=o1_ok h;obtain⟨h,rfl⟩:=h;exact zcA W hl h
 ·replace h:=o1_ok h;obtain⟨h,rfl⟩:=h;exact zcA W hl h
 ·split at h
  ·rename_i hp;cases h;exact zcA W hl hp
  ·split at h
   ·rename_i x hx
    split at h
    ·rename_i r hr
     cases h
     obtain⟨v',h1,h2⟩:=aB2S_ok W (zai hl hx) hr;exact .same W (by simp[execOp,h1]) h2
    ·split at h
     ·rename_i r hr
      cases h
      obtain⟨v',h1,h2⟩:=aUnsafe_ok W (zai hl hx) hr;exact .same W (by simp[execOp,h1]) h2
     ·split at h
      ·rename_i ds hds
       obtain⟨μ',v',w',h1,h2,h3⟩:=aS2B_ok W hds (zai hl hx) h;exact⟨μ',v',w',.inl (by simp[execOp,h1]),h2,h3⟩
      ·cases h
   ·cases h
 ·split at h
  ·rename_i x hx
   obtain⟨μ',v',w',h1,h2,h3⟩:=aRange_ok W (zai hl hx) h;exact⟨μ',v',w',.inl (by simp[execOp,h1]),h2,h3⟩
  ·cases h
 ·split at h
  ·rename_i x hx
   obtain⟨v',w',h1,h2,h3⟩:=aNext_ok (P:=P) (ty:=type) W (zai hl hx) h;exact⟨μ,v',w',.inl (by simp only[execOp,Sem.run_bind,h1,Result.andThen,Sem.run_pure]),h2,h3⟩
  ·cases h
 ·split at h
  ·rename_i x hx
   replace h:=o1_ok h;obtain⟨h,rfl⟩:=h
   obtain⟨v',h1,h2⟩:=aIface_ok (w:=w) (zai hl hx) h;exact .same W (by simp[execOp,h1]) h2
  ·cases h
 ·rename_i f first captured
  split at h
  ·rename_i x y hx hy
   cases h
   refine .same (v':=.func (.func f) (first.map a.eval) (captured.map a.eval)) W (by simp[execOp,Instr.makeFunc]) ?_
   simp only[VR]
   exact⟨_,_,rfl,by rw[Array.toList_map];exact zdy hl hx,by rw[Array.toList_map];exact zdy hl hy⟩
  ·cases h
 ·rename_i t
  cases h
  obtain⟨μ',v',w',h1,h2,h3⟩:=aMakeMap_ok (P:=P) (t:=t) W;exact⟨μ',v',w',.inl (by simp only[execOp,Option.map_none,Sem.run_bind,h1,Result.andThen,Sem.run_pure]),h2,h3⟩
 ·split at h
  ·rename_i x _ _ k e ki zi hd hx
   cases h
   have hv:=zai hl hx
   simp only[VR] at hv
   obtain⟨μ',v',w',h1,h2,h3⟩:=aMakeMapH_ok (P:=P) (k:=ki) (z:=zi) hd W;exact⟨μ',v',w',.inl (by simp only[execOp,Option.map_some,hv,Sem.run_bind,h1,Result.andThen,Sem.run_pure]),h2,h3⟩
  ·cases h
 ·split at h
  ·rename_i x y hx hy
   obtain⟨μ',v',w',h1,h2,h3⟩:=aMakeSlice_ok (P:=P) W (zai hl hx) (zai hl hy) h;exact⟨μ',v',w',.inl (by simp[execOp,h1]),h2,h3⟩
  ·cases h
 ·split at h
  ·rename_i hp
   cases h
   unfold aStrO at hp
   split at hp
   ·rename_i x lo hi hx hlo hhi
    obtain⟨h1,h2⟩:=aStrS_ok (P:=P) (w:=w) (zai hl hx) (opvo_ok hl hlo) (opvo_ok hl hhi) hp;exact .same W (by simp only[execOp,Option.map_none,Sem.run_bind,h1,Result.andThen,Sem.run_pure]) h2
   ·cases hp
  ·split at h
   ·rename_i hp;cases h;exact zcA W hl hp
   ·split at h
    ·rename_i x lo hi hx hlo hhi
     replace h:=o1_ok h;obtain⟨h,rfl⟩:=h
     obtain⟨v',h1,h2⟩:=aSlice_ok (P:=P) W (zai hl hx) (opvo_ok hl hlo) (opvo_ok hl hhi) h;exact .same W (by simp only[execOp,Option.map_none,Sem.run_bind,h1,Result.andThen,Sem.run_pure]) h2
    ·cases h
 ·split at h
  ·rename_i x hx
   replace h:=o1_ok h;obtain⟨h,rfl⟩:=h
   obtain⟨v',h1,h2⟩:=aField_ok (w:=w) (zai hl hx) h;exact .same W (by simp[execOp,h1]) h2
  ·cases h
 ·split at h
  ·rename_i x hx
   replace h:=o1_ok h;obtain⟨h,rfl⟩:=h
   obtain⟨v',h1,h2⟩:=aFieldV_ok (w:=w) (zai hl hx) h;exact .same W (by simp[execOp,h1]) h2
  ·cases h
 ·split at h
  ·rename_i x y hx hy
   replace h:=o1_ok h;obtain⟨h,rfl⟩:=h
   obtain⟨v',h1,h2⟩:=aIndex_ok (w:=w) (zai hl hx) (zai hl hy) h;exact .same W (by simp[execOp,h1]) h2
  ·cases h
 ·split at h
  ·rename_i x y hx hy
   replace h:=o1_ok h;obtain⟨h,rfl⟩:=h
   obtain⟨v',h1,h2⟩:=aLookup_ok (P:=P) W (zai hl hx) (zai hl hy) h;exact .same W (by simp[execOp,h1]) h2
  ·cases h
 ·split at h
  ·rename_i m k x hm hk hx
   split at h
   ·rename_i A1 hs
    cases h
    obtain⟨w',h1,h2,h3⟩:=aUpdate_ok (P:=P) W (zai hl hm) (zai hl hk) (zai hl hx) hs;exact⟨μ,undef,w',.inr ⟨by simp[execOp,h1],rfl⟩,zbD,h2,h3⟩
   ·cases h
  ·cases h
 ·split at h
  ·rename_i m k x hm hk hx
   split at h
   ·rename_i A1 hs
    cases h
    obtain⟨w',h1,h2,h3⟩:=aUpdate_ok (P:=P) W (zai hl hm) (zai hl hk) (zai hl hx) hs;exact⟨μ,undef,w',.inr ⟨by simp[execOp,h1],rfl⟩,zbD,h2,h3⟩
   ·cases h
  ·cases h
 ·split at h
  ·rename_i x hx
   replace h:=o1_ok h;obtain⟨h,rfl⟩:=h
   obtain⟨v',h1,h2⟩:=aExtract_ok (P:=P) (w:=w) (zai hl hx) h;exact .same W (by simp[execOp,h1]) h2
  ·cases h
 ·exact aBuiltin_ok W hl h
 ·cases h
end Ev
end
section
namespace Ev
noncomputable def fN {α:Type} (n:Nat) (k:Nat->α):α:=Nat.rec (motive:=fun _=>α) (k 0) (fun m _=>k (Nat.succ m)) n
theorem fN_eq {α:Type} (n:Nat) (k:Nat->α):fN n k=k n:=by cases n<;>rfl
noncomputable def fI {α:Type} (n:Int) (k:Int->α):α:=Int.rec (motive:=fun _=>α) (fun m=>fN m fun m=>k (.ofNat m)) (fun m=>fN m fun m=>k (.negSucc m)) n
theorem fI_eq {α:Type} (n:Int) (k:Int->α):fI n k=k n:=by cases n<;>simp only[fI,fN_eq]
noncomputable def fB {α:Type} (b:Bool) (k:Bool->α):α:=Bool.rec (motive:=fun _=>α) (k false) (k true) b
theorem fB_eq {α:Type} (b:Bool) (k:Bool->α):fB b k=k b:=by cases b<;>rfl
noncomputable def fU {α:Type} (l:List UInt8):(List UInt8->α)->α:=
 List.rec (motive:=fun _=>(List UInt8->α)->α) (fun k=>k []) (fun u _ ih k=>fN u.toNat fun n=>ih fun r=>k (UInt8.ofNat n::r)) l
theorem fU_eq {α:Type}:∀(l:List UInt8) (k:List UInt8->α),fU l k=k l
 | [],k=>rfl
 | u::r,k=>by
  show fN u.toNat (fun n=>fU r fun r=>k (UInt8.ofNat n::r))=_
  simp only[fN_eq,fU_eq r,UInt8.ofNat_toNat]
noncomputable def fS {α:Type} (s:ByteArray) (k:ByteArray->α):α:=fU s.data.toList fun l=>k ⟨⟨l⟩⟩
theorem fS_eq {α:Type} (s:ByteArray) (k:ByteArray->α):fS s k=k s:=by obtain⟨⟨l⟩⟩:=s;simp only[fS,fU_eq]
noncomputable def fA {α:Type} (a:Addr) (k:Addr->α):α:=
 Addr.rec (motive:=fun _=>α) (fun b o s=>Option.rec (motive:=fun _=>α) (fN b fun b=>fN o fun o=>k ⟨b,o,none⟩) (fun s=>k ⟨b,o,some s⟩) s) a
theorem fA_eq {α:Type} (a:Addr) (k:Addr->α):fA a k=k a:=by obtain⟨b,o,s⟩:=a;cases s<;>simp only[fA,fN_eq]
noncomputable def fV0 {α:Type} (v:Value) (k:Value->α):α:=
 Value.casesOn (motive_1:=fun _=>α) v (fun b=>fB b fun b=>k (.bool b)) (fun x n=>fI n fun n=>k (.int x n)) (fun x n=>k (.float x n)) (fun x n m=>k (.complex x n m)) (fun s=>fS s fun s=>k (.string s))
  (fun a=>Option.rec (motive:=fun _=>α) (k (.pointer none)) (fun a=>fA a fun a=>k (.pointer (some a))) a)
  (fun a n c=>fN n fun n=>fN c fun c=>Option.rec (motive:=fun _=>α) (k (.slice none n c)) (fun a=>fA a fun a=>k (.slice (some a) n c)) a)
  (fun r=>Option.rec (motive:=fun _=>α) (k (.map none)) (fun r=>fN r fun r=>k (.map (some r))) r)
  (fun r=>k (.chan r)) (fun f x y=>k (.func f x y)) (k .nilFunc) (fun t v=>k (.iface t v)) (k .nilIface) (fun x=>k (.agg x)) (fun x=>k (.tuple x))
theorem fV0_eq {α:Type} (v:Value) (k:Value->α):fV0 v k=k v:=by
 cases v with
 | bool b=>
  show fB b (fun b=>k (.bool b))=_
  rw[fB_eq]
 | int x n=>
  show fI n (fun n=>k (.int x n))=_
  rw[fI_eq]
 | string s=>
  show fS s (fun s=>k (.string s))=_
  rw[fS_eq]
 | pointer a=>cases a with
  | none=>rfl
  | some a=>
   show fA a (fun a=>k (.pointer (some a)))=_
   rw[fA_eq]
 | slice a n c=>cases a with
  | none=>
   show fN n (fun n=>fN c fun c=>k (.slice none n c))=_
   rw[fN_eq,fN_eq]
  | some a=>
   show fN n (fun n=>fN c fun c=>fA a fun a=>k (.slice (some a) n c))=_
   rw[fN_eq,fN_eq,fA_eq]
 | map a=>cases a with
  | none=>rfl
  | some a=>
   show fN a (fun a=>k (.map (some a)))=_
   rw[fN_eq]
 | float _ _=>rfl
 | complex _ _ _=>rfl
 | chan _=>rfl
 | func _ _ _=>rfl
 | nilFunc=>rfl
 | iface _ _=>rfl
 | nilIface=>rfl
 | agg _=>rfl
 | tuple _=>rfl
noncomputable def fVs0 {α:Type} (l:List Value):(List Value->α)->α:=
 List.rec (motive:=fun _=>(List Value->α)->α) (fun k=>k []) (fun v _ ih k=>fV0 v fun v=>ih fun r=>k (v::r)) l
theorem zeY {α:Type}:∀(l:List Value) (k:List Value->α),fVs0 l k=k l
 | [],k=>rfl
 | v::r,k=>by
  show fV0 v (fun v=>fVs0 r fun r=>k (v::r))=_
  rw[fV0_eq,zeY r]
noncomputable def fV1 {α:Type} (v:Value) (k:Value->α):α:=
 match v with
 | .agg ⟨l⟩=>fVs0 l fun l=>k (.agg ⟨l⟩)
 | v=>fV0 v k
theorem fV1_eq {α:Type} (v:Value) (k:Value->α):fV1 v k=k v:=by
 unfold fV1
 split
 ·rw[zeY]
 ·rw[fV0_eq]
noncomputable def fVs1 {α:Type} (l:List Value):(List Value->α)->α:=
 List.rec (motive:=fun _=>(List Value->α)->α) (fun k=>k []) (fun v _ ih k=>fV1 v fun v=>ih fun r=>k (v::r)) l
theorem fVs1_eq {α:Type}:∀(l:List Value) (k:List Value->α),fVs1 l k=k l
 | [],k=>rfl
 | v::r,k=>by
  show fV1 v (fun v=>fVs1 r fun r=>k (v::r))=_
  rw[fV1_eq,fVs1_eq r]
noncomputable def fV {α:Type} (v:Value) (k:Value->α):α:=
 match v with
 | .agg ⟨l⟩=>fVs0 l fun l=>k (.agg ⟨l⟩)
 | .tuple ⟨l⟩=>fVs1 l fun l=>k (.tuple ⟨l⟩)
 | v=>fV0 v k
theorem fV_eq {α:Type} (v:Value) (k:Value->α):fV v k=k v:=by
 unfold fV
 split
 ·rw[zeY]
 ·rw[fVs1_eq]
 ·rw[fV0_eq]
noncomputable def fM {α:Type}:List MapEntry->(List MapEntry->α)->α
 | [],k=>k []
 | ⟨a,b,c⟩::r,k=>fV0 a fun a=>fV1 b fun b=>fN c fun c=>fM r fun r=>k (⟨a,b,c⟩::r)
theorem fM_eq {α:Type}:∀(l:List MapEntry) (k:List MapEntry->α),fM l k=k l
 | [],k=>rfl
 | ⟨a,b,c⟩::r,k=>by simp only[fM,fV0_eq,fV1_eq,fN_eq,fM_eq r]
noncomputable def fO {α:Type}:Option AObj->(Option AObj->α)->α
 | none,k=>k none
 | some (.cells vs t op fz es),k=>fVs0 vs fun vs=>fN t fun t=>fB op fun op=>fN es fun es=>(match fz with
  | none=>k (some (.cells vs t op none es))
  | some z=>fN z fun z=>k (some (.cells vs t op (some z) es)))
 | some (.map es c),k=>fM es fun es=>fN c fun c=>k (some (.map es c))
 | some (.sit s p),k=>fS s fun s=>fN p fun p=>k (some (.sit s p))
 | some (.dfr op),k=>k (some (.dfr op))
 | some (.loop st j ps asg bd t n),k=>k (some (.loop st j ps asg bd t n))
theorem fO_eq {α:Type}:∀(o:Option AObj) (k:Option AObj->α),fO o k=k o
 | none,k=>rfl
 | some (.cells vs t op fz es),k=>by cases fz<;>simp only[fO,zeY,fN_eq,fB_eq]
 | some (.map es c),k=>by simp only[fO,fM_eq,fN_eq]
 | some (.sit s p),k=>by simp only[fO,fS_eq,fN_eq]
 | some (.dfr op),k=>rfl
 | some (.loop st j ps asg bd t n),k=>rfl
noncomputable def fLog {α:Type}:List (Nat × Option AObj)->Tr AObj->(Tr AObj->α)->α
 | [],t,k=>k t
 | (i,o)::r,t,k=>fLog r t fun t=>fN i fun i=>fO o fun o=>Tr.fput o (Nat.succ i) t i k
noncomputable def layLog:List (Nat × Option AObj)->Tr AObj->Tr AObj
 | [],t=>t
 | (i,o)::r,t=>Tr.put o (i+1) (layLog r t) i
theorem fLog_eq {α:Type}:∀(l:List (Nat × Option AObj)) (t:Tr AObj) (k:Tr AObj->α),fLog l t k=k (layLog l t)
 | [],t,k=>rfl
 | (i,o)::r,t,k=>by simp only[fLog,layLog,fLog_eq r,fN_eq,fO_eq,Tr.fput_eq]
theorem layLog_get:∀(l:List (Nat × Option AObj)) (t:Tr AObj) (j:Nat),(layLog l t).get j=match zeP l j with | some o=>o | none=>t.get j
 | [],t,j=>rfl
 | (i,o)::r,t,j=>by
  simp only[layLog,zeP]
  rw[Tr.get_put _ _ _ _ _ (by omega)]
  by_cases h:j=i
  ·simp[h]
  ·simp only[h,if_false]
   exact layLog_get r t j
noncomputable def fW {α:Type} (A:AW) (k:AW->α):α:=
 match A with
 | ⟨[],t,n⟩=>k ⟨[],t,n⟩
 | ⟨x::l,t,n⟩=>fLog (x::l) t fun t=>fN n fun n=>k ⟨[],t,n⟩
noncomputable def layW (A:AW):AW:=⟨[],layLog A.log A.tree,A.next⟩
theorem fW_eq {α:Type} (A:AW) (k:AW->α):fW A k=k (layW A):=by
 obtain⟨l,t,n⟩:=A
 cases l with
 | nil=>rfl
 | cons x l=>simp only[fW,fLog_eq,fN_eq,layW]
theorem zeb (A:AW) (j:Nat):(layW A).get j=A.get j:=by
 simp only[layW,AW.get,zeP]
 exact layLog_get A.log A.tree j
theorem WR.lay {μ:Mu} {A:AW} {w:World} (W:WR μ A w):WR μ (layW A) w:=
 ⟨fun i o l h=>W.has i o l (by rwa [zeb] at h),fun i j oi oj li lj hi hj=>W.inj i j oi oj li lj (by rwa [zeb] at hi) (by rwa [zeb] at hj),W.dom⟩
theorem Ext.lay {μ μ':Mu} {A A':AW} {w w':World} (E:Ext μ A w μ' A' w'):Ext μ A w μ' (layW A') w':=
 ⟨E.le,E.size,E.tape,E.os,E.output,E.stay,fun i o l h=>E.img i o l (by rwa [zeb] at h),E.next,E.keep⟩
end Ev
end
end Go.Proofs.YtokpjifnlifafaaGreatDoor
