/- EvQ: parts of the proof, joined. -/
import Derived.Test.YtbbapnpdfcgjnaaGreatDoorNEv12
open Go renaming Operand->sH, Program->sI, TypeId->sJ, Value->sK
set_option maxHeartbeats 64000000
namespace Go.Proofs.YtbbapnpdfcgjnaaGreatDoor
section
namespace Ev
variable {P:sI}
noncomputable def lo (o:Oper) (x:Option (sK × AW)):Except String (O1 × AW):=match x with
 | some (v,A')=>.ok (.val v,A')
 | none=>.error ("op: " ++o.pos)
noncomputable def zvB (l:bO) (A:AW) (c a b:sH):Option (sK × AW):=match bz l c with
  | some (.bool true)=>o1 (bz l a) A
  | some (.bool false)=>o1 (bz l b) A
  | _=>none
noncomputable def zsh (P:sI) (A:AW) (t:sJ):Option (sK × AW):=match P.info? t with
  | some i=>match i.zero with
   | some z=>if bR z then some (zeL A t (aC z) 1) else none
   | none=>none
  | none=>none
noncomputable def sBox (l:bO) (A:AW) (t:sJ) (x:sH):Option (sK × AW):=match bz l x with
  | some v=>some (zeL A t (aC v) 1)
  | none=>none
noncomputable def zvE (P:sI) (l:bO) (A:AW) (t:sJ) (x:sH):Option (sK × AW):=match bz l x with
  | some p=>o1 (lq P A t p) A
  | none=>none
noncomputable def zsd (P:sI) (l:bO) (A:AW) (t:sJ) (x y:sH):Option (sK × AW):=match bz l x,bz l y with
  | some p,some v=>match zbc P A t v p with
   | some A'=>some (undef,A')
   | none=>none
  | _,_=>none
noncomputable def sNil (l:bO) (A:AW) (x:sH):Option (sK × AW):=match bz l x with
  | some v=>if zaj v then some (v,A) else none
  | none=>none
noncomputable def zkR (P:sI) (l:bO) (o:Oper) (A:AW) (op:BinOp) (t:sJ) (x y:sH):Option (sK × AW):=match ff P l o with
  | some v=>some (v,A)
  | none=>match bz l x,bz l y with
   | some a,some b=>o1 (aEq P A op t a b) A
   | _,_=>none
noncomputable def zvF (P:sI) (l:bO) (o:Oper) (A:AW) (s d:sJ) (x:sH):Option (sK × AW):=match ff P l o with
  | some v=>some (v,A)
  | none=>match bz l x with
   | some v=>match zra P A s d v with
    | some r=>some (r,A)
    | none=>match nS P A s d v with
     | some r=>some (r,A)
     | none=>match P.underlying s with
      | some _=>zoD P A d v
      | none=>none
   | none=>none
noncomputable def zsf (P:sI) (l:bO) (A:AW) (t:sJ) (x:sH):Option (sK × AW):=match bz l x with
  | some v=>zbf P A t v
  | none=>none
noncomputable def zvC (l:bO) (A:AW) (x:sH) (str:Bool):Option (sK × AW):=match bz l x with
  | some v=>zir A str v
  | none=>none
noncomputable def zsg (P:sI) (l:bO) (A:AW) (t:sJ) (x:sH):Option (sK × AW):=match bz l x with
  | some v=>o1 (zbi P t v) A
  | none=>none
noncomputable def sMkS (P:sI) (l:bO) (A:AW) (t:sJ) (x y:sH):Option (sK × AW):=match bz l x,bz l y with
  | some a,some b=>gF P A t a b
  | _,_=>none
noncomputable def zse (P:sI) (l:bO) (o:Oper) (A:AW) (t:sJ) (x:sH) (lo hi:Option sH):Option (sK × AW):=match zoA P l t x lo hi with
  | some v=>some (v,A)
  | none=>match ff P l o with
   | some v=>some (v,A)
   | none=>match bz l x,zcl l lo,zcl l hi with
    | some v,some a,some b=>o1 (zbd P A t a b v) A
    | _,_,_=>none
noncomputable def sFA (P:sI) (l:bO) (A:AW) (s:sJ) (x:sH) (f:Nat):Option (sK × AW):=match bz l x with
  | some v=>o1 (zbj P s f v) A
  | none=>none
noncomputable def sF (P:sI) (l:bO) (A:AW) (t:sJ) (x:sH) (f:Nat):Option (sK × AW):=match bz l x with
  | some v=>o1 (nU P t f v) A
  | none=>none
noncomputable def sIA (P:sI) (l:bO) (A:AW) (t:sJ) (x i:sH):Option (sK × AW):=match bz l x,bz l i with
  | some a,some b=>o1 (zbh P t a b) A
  | _,_=>none
noncomputable def zvD (P:sI) (l:bO) (A:AW) (t:sJ) (x k:sH) (ok:Bool):Option (sK × AW):=match bz l x,bz l k with
  | some a,some b=>o1 (nT P A t a b ok) A
  | _,_=>none
noncomputable def zvA (P:sI) (l:bO) (A:AW) (t:sJ) (m k x:sH):Option (sK × AW):=match bz l m,bz l k,bz l x with
  | some a,some b,some c=>match nR P A t b c a with
   | some A'=>some (undef,A')
   | none=>none
  | _,_,_=>none
noncomputable def sExt (l:bO) (A:AW) (x:sH) (i:Nat):Option (sK × AW):=match bz l x with
  | some v=>o1 (lr i v) A
  | none=>none
noncomputable def fBi (l:bO) (op:BinOp) (x y:sH):Option sK:=match bz l x with
  | some a=>match bz l y with
   | some b=>zhR op a b
   | _=>none
  | _=>none
noncomputable def zpw (P:sI) (l:bO) (o:Oper) (A:AW) (op:BinOp) (t:sJ) (x y:sH):Option (sK × AW):=
 Option.rec (motive:=fun _=>Option (sK × AW)) (zkR P l o A op t x y) (fun v=>some (v,A)) (fBi l op x y)
theorem zpv {l:bO} {dst:Option Tmp} {type:sJ} {pos:String} {after:Array Edge} {guard:Option (Nat × Bool)} {A:AW} {op:BinOp} {t s:sJ} {x y:sH}:
  zpw P l ⟨dst,.binOp op t x y s,type,pos,after,guard⟩ A op t x y=zkR P l ⟨dst,.binOp op t x y s,type,pos,after,guard⟩ A op t x y:=by
 unfold zpw
 cases h:fBi l op x y with
 | none=>rfl
 | some v=>
  have h1:ff P l ⟨dst,.binOp op t x y s,type,pos,after,guard⟩=some v:=by
   unfold ff;rw[show zhQ P l ⟨dst,.binOp op t x y s,type,pos,after,guard⟩=some v from h]
  unfold zkR;rw[h1]
noncomputable def znR (P:sI) (call:aG) (same:XT) (rd:Option Nat) (o:Oper) (a:AA) (A:AW):Except String (O1 × AW):=
 Op.rec (motive:=fun _=>Except String (O1 × AW))
  (fun x=>lo o (o1 (bz a.tmps x) A))
  (fun x=>lo o (o1 (bz a.tmps x) A))
  (fun c x y=>lo o (zvB a.tmps A c x y))
  (fun t=>lo o (zsh P A t))
  (fun t x=>lo o (sBox a.tmps A t x))
  (fun t ps=>lo o (o1 (zbk P a.tmps t ps.toList) A))
  (fun t n ps=>lo o (fg P A a.tmps t n ps.toList))
  (fun t m k x=>lo o (zvA P a.tmps A t m k x))
  (fun t x=>lo o (zvE P a.tmps A t x))
  (fun t x y=>lo o (zsd P a.tmps A t x y))
  (fun _=>ce P call same rd o a A)
  (fun _=>ce P call same rd o a A)
  (fun x=>lo o (sNil a.tmps A x))
  (fun op t x y _=>lo o (zpw P a.tmps o A op t x y))
  (fun _ _ _=>lo o (o1 (ff P a.tmps o) A))
  (fun s d x=>lo o (zvF P a.tmps o A s d x))
  (fun _ _=>ce P call same rd o a A)
  (fun t x=>lo o (zsg P a.tmps A t x))
  (fun _ _ _=>ce P call same rd o a A)
  (fun _ _=>ce P call same rd o a A)
  (fun _ _=>ce P call same rd o a A)
  (fun t x y=>lo o (sMkS P a.tmps A t x y))
  (fun t x l h m=>Option.rec (motive:=fun _=>Except String (O1 × AW)) (lo o (zse P a.tmps o A t x l h)) (fun _=>ce P call same rd o a A) m)
  (fun s x f=>lo o (sFA P a.tmps A s x f))
  (fun s x f=>lo o (sF P a.tmps A s x f))
  (fun t x i=>lo o (sIA P a.tmps A t x i))
  (fun _ _ _=>lo o (o1 (ff P a.tmps o) A))
  (fun t x k ok=>lo o (zvD P a.tmps A t x k ok))
  (fun t m k x=>lo o (zvA P a.tmps A t m k x))
  (fun _ _ _=>ce P call same rd o a A)
  (fun _ _ _ _=>ce P call same rd o a A)
  (fun t x=>lo o (zsf P a.tmps A t x))
  (fun x str=>lo o (zvC a.tmps A x str))
  (fun _=>ce P call same rd o a A)
  (fun _ _ _ _=>ce P call same rd o a A)
  (fun x i=>lo o (sExt a.tmps A x i))
  (fun _=>ce P call same rd o a A)
  (fun _=>ce P call same rd o a A)
  (fun _=>ce P call same rd o a A)
  (fun _=>ce P call same rd o a A)
  (fun _ _=>ce P call same rd o a A)
  (fun _ _ _=>ce P call same rd o a A)
  (fun _ _=>ce P call same rd o a A) o.op
theorem zjW {call:aG} {same:XT} {rd:Option Nat} {o:Oper} {a:AA} {A:AW}:znR P call same rd o a A=ce P call same rd o a A:=by
 obtain⟨dst,op,type,pos,after,guard⟩:=o
 cases op with
 | binOp op t x y s=>
  show lo _ (zpw P a.tmps ⟨dst,.binOp op t x y s,type,pos,after,guard⟩ A op t x y)=_
  rw[zpv]
  cases rd<;>rfl
 | slice t x l h m=>cases m<;>cases rd<;>rfl
 | _=>cases rd<;>rfl
noncomputable def wOp (P:sI) (call:aG) (same:XT) (rd:Option Nat) (o:Oper) (a:AA) (A:AW) (k:AA->AW->Except String (AX × AA × AW)):Except String (AX × AA × AW):=match znR P call same rd o a A with
 | .ok (.val v,A')=>fV v fun v=>cX a o.dst v fun a'=>fW A' fun A'=>k a' A'
 | .ok (.dfr d,A')=>zqu d fun d=>cX {a with defers:=d::a.defers} o.dst undef fun a'=>k a' A'
 | .ok (.panic v,A')=>fV v fun v=>fW A' fun A'=>.ok (.panic v,a,A')
 | .error s=>.error s
noncomputable def gOp (P:sI) (call:aG) (same:XT) (rd:Option Nat) (ops:Array Oper) (o:Oper) (a:AA) (A:AW) (k:AA->AW->Except String (AX × AA × AW)):Except String (AX × AA × AW):=match dC ops a.tmps o with
 | some true=>wOp P call same rd o a A k
 | some false=>cX a o.dst undef fun a'=>k a' A
 | none=>.error ("guard: " ++o.pos)
noncomputable def zaL (P:sI) (call:aG) (same:XT) (rd:Option Nat) (ops:Array Oper) (l:List Oper):AA->AW->Except String (AX × AA × AW):=
 List.rec (motive:=fun _=>AA->AW->Except String (AX × AA × AW)) (fun a A=>.ok (.normal,a,A)) (fun o _ ih a A=>gOp P call same rd ops o a A ih) l
theorem mO {call:aG} {same:XT} {rd:Option Nat} {ops:Array Oper}:∀(r:List Oper) (k:Nat),(∀j,ops[k+j]? =r[j]?)->∀a A,zaL P call same rd ops r a A=kU P call same rd ops (List.range' k r.length) a A
 | [],_,_,_,_=>rfl
 | o::r,k,h,a,A=>by
  have h0:ops[k]? =some o:=by simpa using h 0
  have ih:=mO (call:=call) (same:=same) (rd:=rd) r (k+1) (fun j=>by have:=h (j+1);rw[List.getElem?_cons_succ] at this;rw[<- this];congr 1;omega)
  rw[List.length_cons,List.range'_succ]
  show gOp P call same rd ops o a A (zaL P call same rd ops r)=_
  simp only[kU,h0]
  unfold gOp
  cases dC ops a.tmps o with
  | none=>rfl
  | some b=>
   cases b with
   | false=>simp only[ih]
   | true=>
    simp only[wOp,zjW,ih]
    cases ce P call same rd o a A with
    | error s=>rfl
    | ok p=>obtain⟨x,A'⟩:=p;cases x<;>rfl
theorem zjV {call:aG} {same:XT} {rd:Option Nat} {ops:Array Oper} {a:AA} {A:AW}:zaL P call same rd ops ops.toList a A=kU P call same rd ops (List.range ops.size) a A:=by
 rw[mO ops.toList 0 (fun j=>by simp),List.range_eq_range']
 simp
end Ev
end
end Go.Proofs.YtbbapnpdfcgjnaaGreatDoor
