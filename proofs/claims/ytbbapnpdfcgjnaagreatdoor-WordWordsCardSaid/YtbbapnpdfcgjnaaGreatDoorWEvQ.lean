/- EvQ: parts of the proof, joined. -/
import Derived.Test.YtbbapnpdfcgjnaaGreatDoorWEv12
open Go renaming Operand->sD, Program->sE, TypeId->sG, Value->sH
set_option maxHeartbeats 64000000
namespace Go.Proofs.YtbbapnpdfcgjnaaGreatDoor
section
namespace Ev
variable {P:sE}
noncomputable def lo(o:Oper)(x:Option (sH×AW)):Except String (O1×AW):=match x with
 |some (v,A')=>.ok (.val v,A')
 |none=>.error ("op: " ++o.pos)
noncomputable def zwu(l:bR)(A:AW)(c a b:sD):Option (sH×AW):=match bE l c with
  |some (.bool true)=>o1 (bE l a) A
  |some (.bool false)=>o1 (bE l b) A
  |_=>none
noncomputable def zut(P:sE)(A:AW)(t:sG):Option (sH×AW):=match P.info? t with
  |some i=>match i.zero with
   |some z=>if bS z then some (zfE A t (az z) 1)else none
   |none=>none
  |none=>none
noncomputable def sBox(l:bR)(A:AW)(t:sG)(x:sD):Option (sH×AW):=match bE l x with
  |some v=>some (zfE A t (az v) 1)
  |none=>none
noncomputable def zwx(P:sE)(l:bR)(A:AW)(t:sG)(x:sD):Option (sH×AW):=match bE l x with
  |some p=>o1 (ma P A t p) A
  |none=>none
noncomputable def zup(P:sE)(l:bR)(A:AW)(t:sG)(x y:sD):Option (sH×AW):=match bE l x,bE l y with
  |some p,some v=>match zcC P A t v p with
   |some A'=>some (undef,A')
   |none=>none
  |_,_=>none
noncomputable def sNil(l:bR)(A:AW)(x:sD):Option (sH×AW):=match bE l x with
  |some v=>if zbL v then some (v,A)else none
  |none=>none
noncomputable def zmV(P:sE)(l:bR)(o:Oper)(A:AW)(op:BinOp)(t:sG)(x y:sD):Option (sH×AW):=match fx P l o with
  |some v=>some (v,A)
  |none=>match bE l x,bE l y with
   |some a,some b=>o1 (aEq P A op t a b) A
   |_,_=>none
noncomputable def zwy(P:sE)(l:bR)(o:Oper)(A:AW)(s d:sG)(x:sD):Option (sH×AW):=match fx P l o with
  |some v=>some (v,A)
  |none=>match bE l x with
   |some v=>match zrY P A s d v with
    |some r=>some (r,A)
    |none=>match oY P A s d v with
     |some r=>some (r,A)
     |none=>match P.underlying s with
      |some _=>zpE P A d v
      |none=>none
   |none=>none
noncomputable def zur(P:sE)(l:bR)(A:AW)(t:sG)(x:sD):Option (sH×AW):=match bE l x with
  |some v=>zcF P A t v
  |none=>none
noncomputable def zwv(l:bR)(A:AW)(x:sD)(str:Bool):Option (sH×AW):=match bE l x with
  |some v=>zjG A str v
  |none=>none
noncomputable def zus(P:sE)(l:bR)(A:AW)(t:sG)(x:sD):Option (sH×AW):=match bE l x with
  |some v=>o1 (zcI P t v) A
  |none=>none
noncomputable def sMkS(P:sE)(l:bR)(A:AW)(t:sG)(x y:sD):Option (sH×AW):=match bE l x,bE l y with
  |some a,some b=>gU P A t a b
  |_,_=>none
noncomputable def zuq(P:sE)(l:bR)(o:Oper)(A:AW)(t:sG)(x:sD)(lo hi:Option sD):Option (sH×AW):=match zpB P l t x lo hi with
  |some v=>some (v,A)
  |none=>match fx P l o with
   |some v=>some (v,A)
   |none=>match bE l x,zeu l lo,zeu l hi with
    |some v,some a,some b=>o1 (zcD P A t a b v) A
    |_,_,_=>none
noncomputable def sFA(P:sE)(l:bR)(A:AW)(s:sG)(x:sD)(f:Nat):Option (sH×AW):=match bE l x with
  |some v=>o1 (zcJ P s f v) A
  |none=>none
noncomputable def sF(P:sE)(l:bR)(A:AW)(t:sG)(x:sD)(f:Nat):Option (sH×AW):=match bE l x with
  |some v=>o1 (o7 P t f v) A
  |none=>none
noncomputable def sIA(P:sE)(l:bR)(A:AW)(t:sG)(x i:sD):Option (sH×AW):=match bE l x,bE l i with
  |some a,some b=>o1 (zcH P t a b) A
  |_,_=>none
noncomputable def zww(P:sE)(l:bR)(A:AW)(t:sG)(x k:sD)(ok:Bool):Option (sH×AW):=match bE l x,bE l k with
  |some a,some b=>o1 (oZ P A t a b ok) A
  |_,_=>none
noncomputable def zwt(P:sE)(l:bR)(A:AW)(t:sG)(m k x:sD):Option (sH×AW):=match bE l m,bE l k,bE l x with
  |some a,some b,some c=>match oX P A t b c a with
   |some A'=>some (undef,A')
   |none=>none
  |_,_,_=>none
noncomputable def sExt(l:bR)(A:AW)(x:sD)(i:Nat):Option (sH×AW):=match bE l x with
  |some v=>o1 (mb i v) A
  |none=>none
noncomputable def fBi(l:bR)(op:BinOp)(x y:sD):Option sH:=match bE l x with
  |some a=>match bE l y with
   |some b=>zjd op a b
   |_=>none
  |_=>none
noncomputable def zqy(P:sE)(l:bR)(o:Oper)(A:AW)(op:BinOp)(t:sG)(x y:sD):Option (sH×AW):=
 Option.rec (motive:=fun _=>Option (sH×AW)) (zmV P l o A op t x y) (fun v=>some (v,A)) (fBi l op x y)
theorem zqx{l:bR}{dst:Option Tmp}{type:sG}{pos:String}{after:Array Edge}{guard:Option (Nat×Bool)}{A:AW}{op:BinOp}{t s:sG}{x y:sD}:
  zqy P l ⟨dst,.binOp op t x y s,type,pos,after,guard⟩ A op t x y=zmV P l ⟨dst,.binOp op t x y s,type,pos,after,guard⟩ A op t x y:=by
 unfold zqy;cases h:fBi l op x y with
 |none=>rfl
 |some v=>
  have h1:fx P l ⟨dst,.binOp op t x y s,type,pos,after,guard⟩=some v:=by unfold fx;rw[show zjc P l ⟨dst,.binOp op t x y s,type,pos,after,guard⟩=some v from h]
  unfold zmV;rw[h1]
noncomputable def zoO(P:sE)(call:aG)(same:XT)(rd:Option Nat)(o:Oper)(a:AA)(A:AW):Except String (O1×AW):=
 Op.rec (motive:=fun _=>Except String (O1×AW))
  (fun x=>lo o (o1 (bE a.tmps x) A))
  (fun x=>lo o (o1 (bE a.tmps x) A))
  (fun c x y=>lo o (zwu a.tmps A c x y))
  (fun t=>lo o (zut P A t))
  (fun t x=>lo o (sBox a.tmps A t x))
  (fun t ps=>lo o (o1 (zcK P a.tmps t ps.toList) A))
  (fun t n ps=>lo o (fy P A a.tmps t n ps.toList))
  (fun t m k x=>lo o (zwt P a.tmps A t m k x))
  (fun t x=>lo o (zwx P a.tmps A t x))
  (fun t x y=>lo o (zup P a.tmps A t x y))
  (fun _=>ce P call same rd o a A)
  (fun _=>ce P call same rd o a A)
  (fun x=>lo o (sNil a.tmps A x))
  (fun op t x y _=>lo o (zqy P a.tmps o A op t x y))
  (fun _ _ _=>lo o (o1 (fx P a.tmps o) A))
  (fun s d x=>lo o (zwy P a.tmps o A s d x))
  (fun _ _=>ce P call same rd o a A)
  (fun t x=>lo o (zus P a.tmps A t x))
  (fun _ _ _=>ce P call same rd o a A)
  (fun _ _=>ce P call same rd o a A)
  (fun _ _=>ce P call same rd o a A)
  (fun t x y=>lo o (sMkS P a.tmps A t x y))
  (fun t x l h m=>Option.rec (motive:=fun _=>Except String (O1×AW)) (lo o (zuq P a.tmps o A t x l h)) (fun _=>ce P call same rd o a A) m)
  (fun s x f=>lo o (sFA P a.tmps A s x f))
  (fun s x f=>lo o (sF P a.tmps A s x f))
  (fun t x i=>lo o (sIA P a.tmps A t x i))
  (fun _ _ _=>lo o (o1 (fx P a.tmps o) A))
  (fun t x k ok=>lo o (zww P a.tmps A t x k ok))
  (fun t m k x=>lo o (zwt P a.tmps A t m k x))
  (fun _ _ _=>ce P call same rd o a A)
  (fun _ _ _ _=>ce P call same rd o a A)
  (fun t x=>lo o (zur P a.tmps A t x))
  (fun x str=>lo o (zwv a.tmps A x str))
  (fun _=>ce P call same rd o a A)
  (fun _ _ _ _=>ce P call same rd o a A)
  (fun x i=>lo o (sExt a.tmps A x i))
  (fun _=>ce P call same rd o a A)
  (fun _=>ce P call same rd o a A)
  (fun _=>ce P call same rd o a A)
  (fun _=>ce P call same rd o a A)
  (fun _ _=>ce P call same rd o a A)
  (fun _ _ _=>ce P call same rd o a A)
  (fun _ _=>ce P call same rd o a A) o.op
theorem zlb{call:aG}{same:XT}{rd:Option Nat}{o:Oper}{a:AA}{A:AW}:zoO P call same rd o a A=ce P call same rd o a A:=by
 obtain⟨dst,op,type,pos,after,guard⟩:=o;cases op with
 |binOp op t x y s=>show lo _ (zqy P a.tmps ⟨dst,.binOp op t x y s,type,pos,after,guard⟩ A op t x y)=_;rw[zqx];cases rd<;>rfl
 |slice t x l h m=>cases m<;>cases rd<;>rfl
 |_=>cases rd<;>rfl
noncomputable def wOp(P:sE)(call:aG)(same:XT)(rd:Option Nat)(o:Oper)(a:AA)(A:AW)(k:AA->AW->Except String (AX×AA×AW)):Except String (AX×AA×AW):=match zoO P call same rd o a A with
 |.ok (.val v,A')=>fV v fun v=>dj a o.dst v fun a'=>fW A' fun A'=>k a' A'
 |.ok (.dfr d,A')=>zrs d fun d=>dj {a with defers:=d::a.defers} o.dst undef fun a'=>k a' A'
 |.ok (.panic v,A')=>fV v fun v=>fW A' fun A'=>.ok (.panic v,a,A')
 |.error s=>.error s
noncomputable def gOp(P:sE)(call:aG)(same:XT)(rd:Option Nat)(ops:Array Oper)(o:Oper)(a:AA)(A:AW)(k:AA->AW->Except String (AX×AA×AW)):Except String (AX×AA×AW):=match dM ops a.tmps o with
 |some true=>wOp P call same rd o a A k
 |some false=>dj a o.dst undef fun a'=>k a' A
 |none=>.error ("guard: " ++o.pos)
noncomputable def zcj(P:sE)(call:aG)(same:XT)(rd:Option Nat)(ops:Array Oper)(l:List Oper):AA->AW->Except String (AX×AA×AW):=
 List.rec (motive:=fun _=>AA->AW->Except String (AX×AA×AW)) (fun a A=>.ok (.normal,a,A)) (fun o _ ih a A=>gOp P call same rd ops o a A ih) l
theorem nN{call:aG}{same:XT}{rd:Option Nat}{ops:Array Oper}:∀(r:List Oper)(k:Nat),(∀j,ops[k+j]?=r[j]?)->∀a A,zcj P call same rd ops r a A=lT P call same rd ops (List.range' k r.length) a A
 |[],_,_,_,_=>rfl
 |o::r,k,h,a,A=>by
  have h0:ops[k]?=some o:=by simpa using h 0
  have ih:=nN (call:=call) (same:=same) (rd:=rd) r (k+1) (fun j=>by have:=h (j+1);rw[List.getElem?_cons_succ]at this;rw[<-this];congr 1;omega);rw[List.length_cons,List.range'_succ];show gOp P call same rd ops o a A (zcj P call same rd ops r)=_;simp only[lT,h0];unfold gOp;cases dM ops a.tmps o with
  |none=>rfl
  |some b=>
   cases b with
   |false=>simp only[ih]
   |true=>
    simp only[wOp,zlb,ih];cases ce P call same rd o a A with
    |error s=>rfl
    |ok p=>obtain⟨x,A'⟩:=p;cases x<;>rfl
theorem zla{call:aG}{same:XT}{rd:Option Nat}{ops:Array Oper}{a:AA}{A:AW}:zcj P call same rd ops ops.toList a A=lT P call same rd ops (List.range ops.size) a A:=by rw[nN ops.toList 0 (fun j=>by simp),List.range_eq_range'];simp
end Ev
end
end Go.Proofs.YtbbapnpdfcgjnaaGreatDoor
