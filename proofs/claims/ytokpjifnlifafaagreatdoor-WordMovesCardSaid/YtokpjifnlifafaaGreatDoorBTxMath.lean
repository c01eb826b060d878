/- TxMath: parts of the proof, joined. -/
import Derived.Test.YtokpjifnlifafaaGreatDoorBUMath
import Derived.Test.YtokpjifnlifafaaGreatDoorBDcE
set_option maxHeartbeats 64000000
namespace Go.Proofs.YtokpjifnlifafaaGreatDoor
section
def ent:Nat->List (Nat × Nat)->List Dc.Trp
 | _,[]=>[]
 | p,x::X=>((x.1:Int),p,p+x.2)::ent (p+x.2) X
theorem cls_ent (l:List UInt8):∀(n p:Nat),l.length - p<=n->p<=l.length->Dc.cls l.length (Dc.plr l p)=ent p (rl (l.drop p))
 | 0,p,h,hp=>by
  rw[Dc.zcR l p (by omega),List.drop_of_length_le (by omega)]
  rfl
 | n+1,p,h,hp=>by
  by_cases hlt:p<l.length
  ·have hne:=zaB l p hlt
   have w1:=zeH l p hlt;have w2:=wid_le l p hlt;have ih:=cls_ent l n (p+wid l p) (by omega) w2
   rw[Dc.zcy l p hlt,zbH l p hlt,zbh _ hne,List.drop_drop]
   show Dc.cls l.length ((p,((dec (l.drop p)).1:Int))::Dc.plr l (p+wid l p))=(((dec (l.drop p)).1:Int),p,p+wid l p)::ent (p+wid l p) (rl (l.drop (p+wid l p)))
   rw[Dc.cls,ih]
   congr 3
   by_cases h5:p+wid l p<l.length
   ·rw[Dc.zcy l _ h5];rfl
   ·rw[Dc.zcR l _ h5];show l.length=_;omega
  ·rw[Dc.zcR l p hlt,List.drop_of_length_le (by omega)]
   rfl
theorem txt_ent (l:List UInt8):Dc.txt l=ent 0 (rl l):=by
 have h:=cls_ent l l.length 0 (by omega) (by omega)
 rw[List.drop_zero] at h;exact h
theorem ent_len:∀(X:List (Nat × Nat)) (p:Nat),(ent p X).length=X.length
 | [],_=>rfl
 | x::X,p=>by rw[ent,List.length_cons,List.length_cons,ent_len X]
theorem ent_at:∀(X:List (Nat × Nat)) (p k:Nat) (x:Nat × Nat),X[k]? =some x->(ent p X)[k]? =some ((x.1:Int),p+psm (X.take k),p+psm (X.take (k+1)))
 | [],_,_,_,h=>by cases h
 | y::X,p,0,x,h=>by cases h;simp[ent,psm]
 | y::X,p,k+1,x,h=>by
  have ih:=ent_at X (p+y.2) k x (by simpa using h)
  rw[ent,List.getElem?_cons_succ,ih,List.take_succ_cons,List.take_succ_cons,zem,zem]
  simp only[Option.some.injEq,Prod.mk.injEq,true_and]
  omega
theorem txt_len (l:List UInt8):(Dc.txt l).length=(rl l).length:=by rw[txt_ent,ent_len]
def plc (l:List UInt8) (k:Nat):Nat:=psm ((rl l).take k)
theorem txt_at (l:List UInt8) (k:Nat) (x:Nat × Nat) (h:(rl l)[k]? =some x):(Dc.txt l)[k]? =some ((x.1:Int),plc l k,plc l (k+1)):=by
 rw[txt_ent,ent_at (rl l) 0 k x h]
 simp[plc]
theorem rl_take (l:List UInt8) (k:Nat) (h:k<=(rl l).length):rl (l.take (plc l k))=(rl l).take k:=(rl_cut k l h).1
theorem rl_drop (l:List UInt8) (k:Nat) (h:k<=(rl l).length):rl (l.drop (plc l k))=(rl l).drop k:=(rl_cut k l h).2
end
end Go.Proofs.YtokpjifnlifafaaGreatDoor
