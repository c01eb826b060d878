/- EvQ: parts of the proof, joined. -/
import Derived.Test.YtbbapnpdfcgjnaaGreatDoorLEv12
set_option maxHeartbeats 64000000
namespace Go.Proofs.YtbbapnpdfcgjnaaGreatDoor
section
namespace Ev
variable {P:Program}
noncomputable def lo (o:Oper) (x:Option (Value × AW)):Except String (O1 × AW):=match x with
 | some (v,A')=>.ok (.val v,A')
 | none=>.error ("op: " ++o.pos)
noncomputable def sPick (l:Env) (A:AW) (c a b:Operand):Option (Value × AW):=match opv l c with
  | some (.bool true)=>o1 (opv l a) A
  | some (.bool false)=>o1 (opv l b) A
  | _=>none
noncomputable def zCx (P:Program) (A:AW) (t:TypeId):Option (Value × AW):=match P.info? t with
  | some i=>match i.zero with
   | some z=>if zco z then some (zAa A t (zar z) 1) else none
   | none=>none
  | none=>none
noncomputable def sBox (l:Env) (A:AW) (t:TypeId) (x:Operand):Option (Value × AW):=match opv l x with
  | some v=>some (zAa A t (zar v) 1)
  | none=>none
noncomputable def sLoad (P:Program) (l:Env) (A:AW) (t:TypeId) (x:Operand):Option (Value × AW):=match opv l x with
  | some p=>o1 (zjm P A t p) A
  | none=>none
noncomputable def zCt (P:Program) (l:Env) (A:AW) (t:TypeId) (x y:Operand):Option (Value × AW):=match opv l x,opv l y with
  | some p,some v=>match zpp P A t v p with
   | some A'=>some (undef,A')
   | none=>none
  | _,_=>none
noncomputable def sNil (l:Env) (A:AW) (x:Operand):Option (Value × AW):=match opv l x with
  | some v=>if zoj v then some (v,A) else none
  | none=>none
noncomputable def zAm (P:Program) (l:Env) (o:Oper) (A:AW) (op:BinOp) (t:TypeId) (x y:Operand):Option (Value × AW):=match zep P l o with
  | some v=>some (v,A)
  | none=>match opv l x,opv l y with
   | some a,some b=>o1 (aEq P A op t a b) A
   | _,_=>none
noncomputable def sConv (P:Program) (l:Env) (o:Oper) (A:AW) (s d:TypeId) (x:Operand):Option (Value × AW):=match zep P l o with
  | some v=>some (v,A)
  | none=>match opv l x with
   | some v=>match aB2S P A s d v with
    | some r=>some (r,A)
    | none=>match zji P A s d v with
     | some r=>some (r,A)
     | none=>match P.underlying s with
      | some _=>zGC P A d v
      | none=>none
   | none=>none
noncomputable def zCv (P:Program) (l:Env) (A:AW) (t:TypeId) (x:Operand):Option (Value × AW):=match opv l x with
  | some v=>zps P A t v
  | none=>none
noncomputable def sNext (l:Env) (A:AW) (x:Operand) (str:Bool):Option (Value × AW):=match opv l x with
  | some v=>zyd A str v
  | none=>none
noncomputable def zCw (P:Program) (l:Env) (A:AW) (t:TypeId) (x:Operand):Option (Value × AW):=match opv l x with
  | some v=>o1 (zpu P t v) A
  | none=>none
noncomputable def sMkS (P:Program) (l:Env) (A:AW) (t:TypeId) (x y:Operand):Option (Value × AW):=match opv l x,opv l y with
  | some a,some b=>zdw P A t a b
  | _,_=>none
noncomputable def zCu (P:Program) (l:Env) (o:Oper) (A:AW) (t:TypeId) (x:Operand) (lo hi:Option Operand):Option (Value × AW):=match zBO P l t x lo hi with
  | some v=>some (v,A)
  | none=>match zep P l o with
   | some v=>some (v,A)
   | none=>match opv l x,zyB l lo,zyB l hi with
    | some v,some a,some b=>o1 (zpq P A t a b v) A
    | _,_,_=>none
noncomputable def sFA (P:Program) (l:Env) (A:AW) (s:TypeId) (x:Operand) (f:Nat):Option (Value × AW):=match opv l x with
  | some v=>o1 (zpv P s f v) A
  | none=>none
noncomputable def sF (P:Program) (l:Env) (A:AW) (t:TypeId) (x:Operand) (f:Nat):Option (Value × AW):=match opv l x with
  | some v=>o1 (zjn P t f v) A
  | none=>none
noncomputable def sIA (P:Program) (l:Env) (A:AW) (t:TypeId) (x i:Operand):Option (Value × AW):=match opv l x,opv l i with
  | some a,some b=>o1 (zpt P t a b) A
  | _,_=>none
noncomputable def sLook (P:Program) (l:Env) (A:AW) (t:TypeId) (x k:Operand) (ok:Bool):Option (Value × AW):=match opv l x,opv l k with
  | some a,some b=>o1 (zjl P A t a b ok) A
  | _,_=>none
noncomputable def sUpd (P:Program) (l:Env) (A:AW) (t:TypeId) (m k x:Operand):Option (Value × AW):=match opv l m,opv l k,opv l x with
  | some a,some b,some c=>match zjh P A t b c a with
   | some A'=>some (undef,A')
   | none=>none
  | _,_,_=>none
noncomputable def sExt (l:Env) (A:AW) (x:Operand) (i:Nat):Option (Value × AW):=match opv l x with
  | some v=>o1 (zfx i v) A
  | none=>none
noncomputable def fBi (l:Env) (op:BinOp) (x y:Operand):Option Value:=match opv l x with
  | some a=>match opv l y with
   | some b=>zxA op a b
   | _=>none
  | _=>none
noncomputable def sBin (P:Program) (l:Env) (o:Oper) (A:AW) (op:BinOp) (t:TypeId) (x y:Operand):Option (Value × AW):=
 Option.rec (motive:=fun _=>Option (Value × AW)) (zAm P l o A op t x y) (fun v=>some (v,A)) (fBi l op x y)
theorem zAl {l:Env} {dst:Option Tmp} {type:TypeId} {pos:String} {after:Array Edge} {guard:Option (Nat × Bool)} {A:AW} {op:BinOp} {t s:TypeId} {x y:Operand}:
  sBin P l ⟨dst,.binOp op t x y s,type,pos,after,guard⟩ A op t x y=zAm P l ⟨dst,.binOp op t x y s,type,pos,after,guard⟩ A op t x y:=by
 unfold sBin
 cases h:fBi l op x y with
 | none=>rfl
 | some v=>
  have h1:zep P l ⟨dst,.binOp op t x y s,type,pos,after,guard⟩=some v:=by
   unfold zep;rw[show zxx P l ⟨dst,.binOp op t x y s,type,pos,after,guard⟩=some v from h]
  unfold zAm;rw[h1]
noncomputable def zzN (P:Program) (call:zaw) (same:XT) (rd:Option Nat) (o:Oper) (a:AA) (A:AW):Except String (O1 × AW):=
 Op.rec (motive:=fun _=>Except String (O1 × AW))
  (fun x=>lo o (o1 (opv a.tmps x) A))
  (fun x=>lo o (o1 (opv a.tmps x) A))
  (fun c x y=>lo o (sPick a.tmps A c x y))
  (fun t=>lo o (zCx P A t))
  (fun t x=>lo o (sBox a.tmps A t x))
  (fun t ps=>lo o (o1 (zpw P a.tmps t ps.toList) A))
  (fun t n ps=>lo o (zcN P A a.tmps t n ps.toList))
  (fun t m k x=>lo o (sUpd P a.tmps A t m k x))
  (fun t x=>lo o (sLoad P a.tmps A t x))
  (fun t x y=>lo o (zCt P a.tmps A t x y))
  (fun _=>zbH P call same rd o a A)
  (fun _=>zbH P call same rd o a A)
  (fun x=>lo o (sNil a.tmps A x))
  (fun op t x y _=>lo o (sBin P a.tmps o A op t x y))
  (fun _ _ _=>lo o (o1 (zep P a.tmps o) A))
  (fun s d x=>lo o (sConv P a.tmps o A s d x))
  (fun _ _=>zbH P call same rd o a A)
  (fun t x=>lo o (zCw P a.tmps A t x))
  (fun _ _ _=>zbH P call same rd o a A)
  (fun _ _=>zbH P call same rd o a A)
  (fun _ _=>zbH P call same rd o a A)
  (fun t x y=>lo o (sMkS P a.tmps A t x y))
  (fun t x l h m=>Option.rec (motive:=fun _=>Except String (O1 × AW)) (lo o (zCu P a.tmps o A t x l h)) (fun _=>zbH P call same rd o a A) m)
  (fun s x f=>lo o (sFA P a.tmps A s x f))
  (fun s x f=>lo o (sF P a.tmps A s x f))
  (fun t x i=>lo o (sIA P a.tmps A t x i))
  (fun _ _ _=>lo o (o1 (zep P a.tmps o) A))
  (fun t x k ok=>lo o (sLook P a.tmps A t x k ok))
  (fun t m k x=>lo o (sUpd P a.tmps A t m k x))
  (fun _ _ _=>zbH P call same rd o a A)
  (fun _ _ _ _=>zbH P call same rd o a A)
  (fun t x=>lo o (zCv P a.tmps A t x))
  (fun x str=>lo o (sNext a.tmps A x str))
  (fun _=>zbH P call same rd o a A)
  (fun _ _ _ _=>zbH P call same rd o a A)
  (fun x i=>lo o (sExt a.tmps A x i))
  (fun _=>zbH P call same rd o a A)
  (fun _=>zbH P call same rd o a A)
  (fun _=>zbH P call same rd o a A)
  (fun _=>zbH P call same rd o a A)
  (fun _ _=>zbH P call same rd o a A)
  (fun _ _ _=>zbH P call same rd o a A)
  (fun _ _=>zbH P call same rd o a A) o.op
theorem zuA {call:zaw} {same:XT} {rd:Option Nat} {o:Oper} {a:AA} {A:AW}:zzN P call same rd o a A=zbH P call same rd o a A:=by
 obtain⟨dst,op,type,pos,after,guard⟩:=o
 cases op with
 | binOp op t x y s=>
  show lo _ (sBin P a.tmps ⟨dst,.binOp op t x y s,type,pos,after,guard⟩ A op t x y)=_
  rw[zAl]
  cases rd<;>rfl
 | slice t x l h m=>cases m<;>cases rd<;>rfl
 | _=>cases rd<;>rfl
noncomputable def wOp (P:Program) (call:zaw) (same:XT) (rd:Option Nat) (o:Oper) (a:AA) (A:AW) (k:AA->AW->Except String (AX × AA × AW)):Except String (AX × AA × AW):=match zzN P call same rd o a A with
 | .ok (.val v,A')=>fV v fun v=>zcv a o.dst v fun a'=>fW A' fun A'=>k a' A'
 | .ok (.dfr d,A')=>fDef d fun d=>zcv {a with defers:=d::a.defers} o.dst undef fun a'=>k a' A'
 | .ok (.panic v,A')=>fV v fun v=>fW A' fun A'=>.ok (.panic v,a,A')
 | .error s=>.error s
noncomputable def gOp (P:Program) (call:zaw) (same:XT) (rd:Option Nat) (ops:Array Oper) (o:Oper) (a:AA) (A:AW) (k:AA->AW->Except String (AX × AA × AW)):Except String (AX × AA × AW):=match zcf ops a.tmps o with
 | some true=>wOp P call same rd o a A k
 | some false=>zcv a o.dst undef fun a'=>k a' A
 | none=>.error ("guard: " ++o.pos)
noncomputable def zoW (P:Program) (call:zaw) (same:XT) (rd:Option Nat) (ops:Array Oper) (l:List Oper):AA->AW->Except String (AX × AA × AW):=
 List.rec (motive:=fun _=>AA->AW->Except String (AX × AA × AW)) (fun a A=>.ok (.normal,a,A)) (fun o _ ih a A=>gOp P call same rd ops o a A ih) l
theorem zgu {call:zaw} {same:XT} {rd:Option Nat} {ops:Array Oper}:∀(r:List Oper) (k:Nat),(∀j,ops[k+j]? =r[j]?)->∀a A,zoW P call same rd ops r a A=ziU P call same rd ops (List.range' k r.length) a A
 | [],_,_,_,_=>rfl
 | o::r,k,h,a,A=>by
  have h0:ops[k]? =some o:=by simpa using h 0
  have ih:=zgu (call:=call) (same:=same) (rd:=rd) r (k+1) (fun j=>by have:=h (j+1);rw[List.getElem?_cons_succ] at this;rw[<- this];congr 1;omega)
  rw[List.length_cons,List.range'_succ]
  show gOp P call same rd ops o a A (zoW P call same rd ops r)=_
  simp only[ziU,h0]
  unfold gOp
  cases zcf ops a.tmps o with
  | none=>rfl
  | some b=>
   cases b with
   | false=>simp only[ih]
   | true=>
    simp only[wOp,zuA,ih]
    cases zbH P call same rd o a A with
    | error s=>rfl
    | ok p=>obtain⟨x,A'⟩:=p;cases x<;>rfl
theorem zuz {call:zaw} {same:XT} {rd:Option Nat} {ops:Array Oper} {a:AA} {A:AW}:zoW P call same rd ops ops.toList a A=ziU P call same rd ops (List.range ops.size) a A:=by
 rw[zgu ops.toList 0 (fun j=>by simp),List.range_eq_range']
 simp
end Ev
end
end Go.Proofs.YtbbapnpdfcgjnaaGreatDoor
