/- EvQ: parts of the proof, joined. -/
import Derived.Test.YtbbapnpdfcgjnaaGreatDoorEEv12
open Go renaming Operand->sR, Program->sS, TypeId->sT, Value->sU
set_option maxHeartbeats 64000000
namespace Go.Proofs.YtbbapnpdfcgjnaaGreatDoor
section
namespace Ev
variable {P:sS}
noncomputable def lo(o:Oper)(x:Option (sU×AW)):Except String (O1×AW):=match x with
 |some (v,A')=>.ok (.val v,A')
 |none=>.error ("op: " ++o.pos)
noncomputable def zwk(l:bT)(A:AW)(c a b:sR):Option (sU×AW):=match bE l c with
  |some (.bool true)=>o1 (bE l a) A
  |some (.bool false)=>o1 (bE l b) A
  |_=>none
noncomputable def zsO(P:sS)(A:AW)(t:sT):Option (sU×AW):=match P.info? t with
  |some i=>match i.zero with
   |some z=>if bV z then some (zff A t (aF z) 1)else none
   |none=>none
  |none=>none
noncomputable def sBox(l:bT)(A:AW)(t:sT)(x:sR):Option (sU×AW):=match bE l x with
  |some v=>some (zff A t (aF v) 1)
  |none=>none
noncomputable def zwn(P:sS)(l:bT)(A:AW)(t:sT)(x:sR):Option (sU×AW):=match bE l x with
  |some p=>o1 (lM P A t p) A
  |none=>none
noncomputable def zsK(P:sS)(l:bT)(A:AW)(t:sT)(x y:sR):Option (sU×AW):=match bE l x,bE l y with
  |some p,some v=>match zby P A t v p with
   |some A'=>some (undef,A')
   |none=>none
  |_,_=>none
noncomputable def sNil(l:bT)(A:AW)(x:sR):Option (sU×AW):=match bE l x with
  |some v=>if zaE v then some (v,A)else none
  |none=>none
noncomputable def zlq(P:sS)(l:bT)(o:Oper)(A:AW)(op:BinOp)(t:sT)(x y:sR):Option (sU×AW):=match fu P l o with
  |some v=>some (v,A)
  |none=>match bE l x,bE l y with
   |some a,some b=>o1 (aEq P A op t a b) A
   |_,_=>none
noncomputable def zwo(P:sS)(l:bT)(o:Oper)(A:AW)(s d:sT)(x:sR):Option (sU×AW):=match fu P l o with
  |some v=>some (v,A)
  |none=>match bE l x with
   |some v=>match zrH P A s d v with
    |some r=>some (r,A)
    |none=>match oD P A s d v with
     |some r=>some (r,A)
     |none=>match P.underlying s with
      |some _=>zpg P A d v
      |none=>none
   |none=>none
noncomputable def zsM(P:sS)(l:bT)(A:AW)(t:sT)(x:sR):Option (sU×AW):=match bE l x with
  |some v=>zbB P A t v
  |none=>none
noncomputable def zwl(l:bT)(A:AW)(x:sR)(str:Bool):Option (sU×AW):=match bE l x with
  |some v=>ziO A str v
  |none=>none
noncomputable def zsN(P:sS)(l:bT)(A:AW)(t:sT)(x:sR):Option (sU×AW):=match bE l x with
  |some v=>o1 (zbE P t v) A
  |none=>none
noncomputable def sMkS(P:sS)(l:bT)(A:AW)(t:sT)(x y:sR):Option (sU×AW):=match bE l x,bE l y with
  |some a,some b=>gQ P A t a b
  |_,_=>none
noncomputable def zsL(P:sS)(l:bT)(o:Oper)(A:AW)(t:sT)(x:sR)(lo hi:Option sR):Option (sU×AW):=match zpd P l t x lo hi with
  |some v=>some (v,A)
  |none=>match fu P l o with
   |some v=>some (v,A)
   |none=>match bE l x,zcG l lo,zcG l hi with
    |some v,some a,some b=>o1 (zbz P A t a b v) A
    |_,_,_=>none
noncomputable def sFA(P:sS)(l:bT)(A:AW)(s:sT)(x:sR)(f:Nat):Option (sU×AW):=match bE l x with
  |some v=>o1 (zbF P s f v) A
  |none=>none
noncomputable def sF(P:sS)(l:bT)(A:AW)(t:sT)(x:sR)(f:Nat):Option (sU×AW):=match bE l x with
  |some v=>o1 (oF P t f v) A
  |none=>none
noncomputable def sIA(P:sS)(l:bT)(A:AW)(t:sT)(x i:sR):Option (sU×AW):=match bE l x,bE l i with
  |some a,some b=>o1 (zbD P t a b) A
  |_,_=>none
noncomputable def zwm(P:sS)(l:bT)(A:AW)(t:sT)(x k:sR)(ok:Bool):Option (sU×AW):=match bE l x,bE l k with
  |some a,some b=>o1 (oE P A t a b ok) A
  |_,_=>none
noncomputable def zwj(P:sS)(l:bT)(A:AW)(t:sT)(m k x:sR):Option (sU×AW):=match bE l m,bE l k,bE l x with
  |some a,some b,some c=>match oC P A t b c a with
   |some A'=>some (undef,A')
   |none=>none
  |_,_,_=>none
noncomputable def sExt(l:bT)(A:AW)(x:sR)(i:Nat):Option (sU×AW):=match bE l x with
  |some v=>o1 (lN i v) A
  |none=>none
noncomputable def fBi(l:bT)(op:BinOp)(x y:sR):Option sU:=match bE l x with
  |some a=>match bE l y with
   |some b=>zin op a b
   |_=>none
  |_=>none
noncomputable def zqe(P:sS)(l:bT)(o:Oper)(A:AW)(op:BinOp)(t:sT)(x y:sR):Option (sU×AW):=
 Option.rec (motive:=fun _=>Option (sU×AW)) (zlq P l o A op t x y) (fun v=>some (v,A)) (fBi l op x y)
theorem zqd{l:bT}{dst:Option Tmp}{type:sT}{pos:String}{after:Array Edge}{guard:Option (Nat×Bool)}{A:AW}{op:BinOp}{t s:sT}{x y:sR}:
  zqe P l ⟨dst,.binOp op t x y s,type,pos,after,guard⟩ A op t x y=zlq P l ⟨dst,.binOp op t x y s,type,pos,after,guard⟩ A op t x y:=by
 unfold zqe
 cases h:fBi l op x y with
 |none=>rfl
 |some v=>
  have h1:fu P l ⟨dst,.binOp op t x y s,type,pos,after,guard⟩=some v:=by
   unfold fu;rw[show zim P l ⟨dst,.binOp op t x y s,type,pos,after,guard⟩=some v from h]
  unfold zlq;rw[h1]
noncomputable def zos(P:sS)(call:aJ)(same:XT)(rd:Option Nat)(o:Oper)(a:AA)(A:AW):Except String (O1×AW):=
 Op.rec (motive:=fun _=>Except String (O1×AW))
  (fun x=>lo o (o1 (bE a.tmps x) A))
  (fun x=>lo o (o1 (bE a.tmps x) A))
  (fun c x y=>lo o (zwk a.tmps A c x y))
  (fun t=>lo o (zsO P A t))
  (fun t x=>lo o (sBox a.tmps A t x))
  (fun t ps=>lo o (o1 (zbG P a.tmps t ps.toList) A))
  (fun t n ps=>lo o (fw P A a.tmps t n ps.toList))
  (fun t m k x=>lo o (zwj P a.tmps A t m k x))
  (fun t x=>lo o (zwn P a.tmps A t x))
  (fun t x y=>lo o (zsK P a.tmps A t x y))
  (fun _=>ck P call same rd o a A)
  (fun _=>ck P call same rd o a A)
  (fun x=>lo o (sNil a.tmps A x))
  (fun op t x y _=>lo o (zqe P a.tmps o A op t x y))
  (fun _ _ _=>lo o (o1 (fu P a.tmps o) A))
  (fun s d x=>lo o (zwo P a.tmps o A s d x))
  (fun _ _=>ck P call same rd o a A)
  (fun t x=>lo o (zsN P a.tmps A t x))
  (fun _ _ _=>ck P call same rd o a A)
  (fun _ _=>ck P call same rd o a A)
  (fun _ _=>ck P call same rd o a A)
  (fun t x y=>lo o (sMkS P a.tmps A t x y))
  (fun t x l h m=>Option.rec (motive:=fun _=>Except String (O1×AW)) (lo o (zsL P a.tmps o A t x l h)) (fun _=>ck P call same rd o a A) m)
  (fun s x f=>lo o (sFA P a.tmps A s x f))
  (fun s x f=>lo o (sF P a.tmps A s x f))
  (fun t x i=>lo o (sIA P a.tmps A t x i))
  (fun _ _ _=>lo o (o1 (fu P a.tmps o) A))
  (fun t x k ok=>lo o (zwm P a.tmps A t x k ok))
  (fun t m k x=>lo o (zwj P a.tmps A t m k x))
  (fun _ _ _=>ck P call same rd o a A)
  (fun _ _ _ _=>ck P call same rd o a A)
  (fun t x=>lo o (zsM P a.tmps A t x))
  (fun x str=>lo o (zwl a.tmps A x str))
  (fun _=>ck P call same rd o a A)
  (fun _ _ _ _=>ck P call same rd o a A)
  (fun x i=>lo o (sExt a.tmps A x i))
  (fun _=>ck P call same rd o a A)
  (fun _=>ck P call same rd o a A)
  (fun _=>ck P call same rd o a A)
  (fun _=>ck P call same rd o a A)
  (fun _ _=>ck P call same rd o a A)
  (fun _ _ _=>ck P call same rd o a A)
  (fun _ _=>ck P call same rd o a A) o.op
theorem zks{call:aJ}{same:XT}{rd:Option Nat}{o:Oper}{a:AA}{A:AW}:zos P call same rd o a A=ck P call same rd o a A:=by
 obtain⟨dst,op,type,pos,after,guard⟩:=o
 cases op with
 |binOp op t x y s=>
  show lo _ (zqe P a.tmps ⟨dst,.binOp op t x y s,type,pos,after,guard⟩ A op t x y)=_
  rw[zqd]
  cases rd<;>rfl
 |slice t x l h m=>cases m<;>cases rd<;>rfl
 |_=>cases rd<;>rfl
noncomputable def wOp(P:sS)(call:aJ)(same:XT)(rd:Option Nat)(o:Oper)(a:AA)(A:AW)(k:AA->AW->Except String (AX×AA×AW)):Except String (AX×AA×AW):=match zos P call same rd o a A with
 | .ok (.val v,A')=>fV v fun v=>de a o.dst v fun a'=>fW A' fun A'=>k a' A'
 | .ok (.dfr d,A')=>zrc d fun d=>de {a with defers:=d::a.defers} o.dst undef fun a'=>k a' A'
 | .ok (.panic v,A')=>fV v fun v=>fW A' fun A'=>.ok (.panic v,a,A')
 | .error s=>.error s
noncomputable def gOp(P:sS)(call:aJ)(same:XT)(rd:Option Nat)(ops:Array Oper)(o:Oper)(a:AA)(A:AW)(k:AA->AW->Except String (AX×AA×AW)):Except String (AX×AA×AW):=match dH ops a.tmps o with
 |some true=>wOp P call same rd o a A k
 |some false=>de a o.dst undef fun a'=>k a' A
 |none=>.error ("guard: " ++o.pos)
noncomputable def zbh(P:sS)(call:aJ)(same:XT)(rd:Option Nat)(ops:Array Oper)(l:List Oper):AA->AW->Except String (AX×AA×AW):=
 List.rec (motive:=fun _=>AA->AW->Except String (AX×AA×AW)) (fun a A=>.ok (.normal,a,A)) (fun o _ ih a A=>gOp P call same rd ops o a A ih) l
theorem nu{call:aJ}{same:XT}{rd:Option Nat}{ops:Array Oper}:∀(r:List Oper)(k:Nat),(∀j,ops[k+j]?=r[j]?)->∀a A,zbh P call same rd ops r a A=lE P call same rd ops (List.range' k r.length) a A
 |[],_,_,_,_=>rfl
 |o::r,k,h,a,A=>by
  have h0:ops[k]?=some o:=by simpa using h 0
  have ih:=nu (call:=call) (same:=same) (rd:=rd) r (k+1) (fun j=>by have:=h (j+1);rw[List.getElem?_cons_succ]at this;rw[<- this];congr 1;omega)
  rw[List.length_cons,List.range'_succ]
  show gOp P call same rd ops o a A (zbh P call same rd ops r)=_
  simp only[lE,h0]
  unfold gOp
  cases dH ops a.tmps o with
  |none=>rfl
  |some b=>
   cases b with
   |false=>simp only[ih]
   |true=>
    simp only[wOp,zks,ih]
    cases ck P call same rd o a A with
    |error s=>rfl
    |ok p=>obtain⟨x,A'⟩:=p;cases x<;>rfl
theorem zkr{call:aJ}{same:XT}{rd:Option Nat}{ops:Array Oper}{a:AA}{A:AW}:zbh P call same rd ops ops.toList a A=lE P call same rd ops (List.range ops.size) a A:=by
 rw[nu ops.toList 0 (fun j=>by simp),List.range_eq_range']
 simp
end Ev
end
end Go.Proofs.YtbbapnpdfcgjnaaGreatDoor
