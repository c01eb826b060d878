/- TxMath: parts of the proof, joined. -/
import Derived.Test.YtbbapnpdfcgjnaaGreatDoorLUMath
import Derived.Test.YtbbapnpdfcgjnaaGreatDoorLDcE
open List renaming drop_of_length_le->xa, take_succ_cons->xb, length_cons->xd
set_option maxHeartbeats 64000000
namespace Go.Proofs.YtbbapnpdfcgjnaaGreatDoor
section
def ent:Nat->List (Nat × Nat)->List Dc.Trp
 | _,[]=>[]
 | p,x::X=>((x.1:Int),p,p+x.2)::ent (p+x.2) X
theorem zuT (l:List UInt8):∀(n p:Nat),l.length - p<=n->p<=l.length->Dc.cls l.length (Dc.plr l p)=ent p (rl (l.drop p))
 | 0,p,h,hp=>by
  rw[Dc.zdH l p (by omega),xa (by omega)]
  rfl
 | n+1,p,h,hp=>by
  by_cases hlt:p<l.length
  ·have hne:=zaT l p hlt
   have w1:=zfA l p hlt;have w2:=zyj l p hlt;have ih:=zuT l n (p+wid l p) (by omega) w2
   rw[Dc.zdk l p hlt,zeY l p hlt,zbt _ hne,List.drop_drop]
   show Dc.cls l.length ((p,((dec (l.drop p)).1:Int))::Dc.plr l (p+wid l p))=(((dec (l.drop p)).1:Int),p,p+wid l p)::ent (p+wid l p) (rl (l.drop (p+wid l p)))
   rw[Dc.cls,ih]
   congr 3
   by_cases h5:p+wid l p<l.length
   ·rw[Dc.zdk l _ h5];rfl
   ·rw[Dc.zdH l _ h5];show l.length=_;omega
  ·rw[Dc.zdH l p hlt,xa (by omega)]
   rfl
theorem zqX (l:List UInt8):Dc.txt l=ent 0 (rl l):=by
 have h:=zuT l l.length 0 (by omega) (by omega)
 rw[List.drop_zero] at h;exact h
theorem zuD:∀(X:List (Nat × Nat)) (p:Nat),(ent p X).length=X.length
 | [],_=>rfl
 | x::X,p=>by rw[ent,xd,xd,zuD X]
theorem zzO:∀(X:List (Nat × Nat)) (p k:Nat) (x:Nat × Nat),X[k]? =some x->(ent p X)[k]? =some ((x.1:Int),p+psm (X.take k),p+psm (X.take (k+1)))
 | [],_,_,_,h=>by cases h
 | y::X,p,0,x,h=>by cases h;simp[ent,psm]
 | y::X,p,k+1,x,h=>by
  have ih:=zzO X (p+y.2) k x (by simpa using h)
  rw[ent,List.getElem?_cons_succ,ih,xb,xb,zfj,zfj]
  simp only[Option.some.injEq,Prod.mk.injEq,true_and]
  omega
theorem zlk (l:List UInt8):(Dc.txt l).length=(rl l).length:=by rw[zqX,zuD]
def plc (l:List UInt8) (k:Nat):Nat:=psm ((rl l).take k)
theorem zfC (l:List UInt8) (k:Nat) (x:Nat × Nat) (h:(rl l)[k]? =some x):(Dc.txt l)[k]? =some ((x.1:Int),plc l k,plc l (k+1)):=by
 rw[zqX,zzO (rl l) 0 k x h]
 simp[plc]
end
end Go.Proofs.YtbbapnpdfcgjnaaGreatDoor
