/- DcC: parts of the proof, joined. -/
import Derived.LoopIn
import Derived.LoopNIn
import Derived.OwnWalkIn
import Derived.RangeFuncBound
import Derived.RangeFuncNested
import Derived.Shelf.RegionOpen
import Derived.Lib.SlTrimSet
import Derived.Test.YtbbapnpdfcgjnaaGreatDoorMDcB
open List renaming length_cons->sD, dropWhile_cons->sE, getElem?_append_right->sG, length_drop->sH, getElem?_eq_getElem->sJ, length_take->sK, length_nil->sL, drop_eq_getElem_cons->sM, take_of_length_le->sU, getD->sW, length_pos_iff->sX, length_append->tc, getElem_mem->tn, any_eq_true->tp, length->tq, length_set->tr, mem_range->tu
open Array renaming getElem?_eq_some_iff->sI
open Go renaming World->sN, Calls->sV, Value->tf, wpList_append_own->tj, TypeId->tz
open UInt8 renaming toNat_inj->sO
open Go.Lib renaming decodeN->sP, decodeL_N->ta
open Go.RowKit renaming Below->sQ
open Go.Utf8 renaming decode->sR
open Classical renaming not_not->sS
open Nat renaming le_refl->sT, lt_irrefl->sZ, le_trans->tg, sub_self->ti, le_of_succ_le->tk, zero_add->tA
open Go.World renaming iterPos->sY, putObj->te
open Go.RowKit.Below renaming refl->td, heap_alloc->tm
set_option maxHeartbeats 64000000
namespace Go.Proofs.YtbbapnpdfcgjnaaGreatDoor
namespace Dc
open Go.RowKit Go.Shelf
attribute [local go_sem] Oper.semAt_some
theorem run_next_at {P:Program} (w:sN) (it:Nat) (s:ByteArray) (pos:Nat) (ty:tz) (hit:w.heap[it]? =some (.stringIter s pos)) (h:pos<s.size):
  (Instr.next (.pointer (some ⟨it,0,none⟩)) true ty).run P w= .ok (.tuple #[.bool true,.int .i64 pos,.int .i32 (sR s pos).1]) (w.putObj it (.stringIter s (pos+(sR s pos).2))):=by
 simp[Instr.next,getObj,setObj,Sem.run_bind,Sem.run,hit,Result.andThen,h,goInt,te]
theorem run_next_stop {P:Program} (w:sN) (it:Nat) (s:ByteArray) (pos:Nat) (ty:tz) (hit:w.heap[it]? =some (.stringIter s pos)) (h:¬pos<s.size):
  (Instr.next (.pointer (some ⟨it,0,none⟩)) true ty).run P w= .ok (.tuple #[.bool false]) w:=by
 simp[Instr.next,getObj,Sem.run,hit,h]
end Dc
namespace Dc
open Go.RowKit
def iN (l:List UInt8) (p:Nat):Int × Nat × Int:=
 if pre (l.drop p) [85,43]=true then cdd l p else if pre (l.drop p) [39]=true then qtd l p else (0,p,21)
theorem kK {l q:List UInt8} (h:pre l q=true):q.length<=l.length:=by
 unfold pre at h;have:=congrArg tq (of_decide_eq_true h);rw[sK] at this;omega
theorem zvI (l:List UInt8) (p:Nat) (hp:p+2<=l.length):(cdd l p).2.1<=l.length/\0<=(cdd l p).1/\(cdd l p).1<=1114111/\((cdd l p).2.2=0->p<(cdd l p).2.1)/\0<=(cdd l p).2.2/\(cdd l p).2.2<=84:=by
 have h:=zvq l (p+2);unfold cdd
 split
 ·refine⟨?_,?_,?_,?_,?_,?_⟩<;>(dsimp only;omega)
 ·split
  ·refine⟨?_,?_,?_,?_,?_,?_⟩<;>(dsimp only;omega)
  ·refine⟨?_,?_,?_,?_,?_,?_⟩<;>(dsimp only;omega)
theorem zsC (l:List UInt8) (p:Nat) (hp:p+1<=l.length):(qtd l p).2.1<=l.length/\0<=(qtd l p).1/\(qtd l p).1<=1114111/\((qtd l p).2.2=0->p<(qtd l p).2.1)/\0<=(qtd l p).2.2/\(qtd l p).2.2<=84:=by
 have h:=mo (l.drop (p+1));rw[sH] at h;unfold qtd
 split
 ·refine⟨?_,?_,?_,?_,?_,?_⟩<;>(dsimp only;omega)
 ·rename_i hc
  split
  ·refine⟨?_,?_,?_,?_,?_,?_⟩<;>(dsimp only;omega)
  ·have hne:l.drop (p+1)≠ []:=fun e=>by
    apply hc;left;rw[e];rfl
   have hr:=dec_rune _ hne;have h3:¬p+1+(dec (l.drop (p+1))).2=l.length:=fun e=>hc (.inr (.inl e))
   refine⟨?_,?_,?_,?_,?_,?_⟩<;>(dsimp only;omega)
theorem zaa (l:List UInt8) (p:Nat) (hp:p<=l.length):(iN l p).2.1<=l.length/\0<=(iN l p).1/\(iN l p).1<=1114111/\((iN l p).2.2=0->p<(iN l p).2.1)/\0<=(iN l p).2.2/\(iN l p).2.2<=84:=by
 unfold iN
 split
 ·rename_i h
  have:=kK h;rw[sH] at this
  simp only[sD,sL] at this
  exact zvI l p (by omega)
 ·split
  ·rename_i h
   have:=kK h;rw[sH] at this
   simp only[sD,sL] at this
   exact zsC l p (by omega)
  ·refine⟨?_,?_,?_,?_,?_,?_⟩<;>(dsimp only;omega)
def zes (l:List UInt8) (p:Nat) (x:Int × Nat × Int) (y:Nat->Int × Nat × Int):Rg × Nat × Int:=
 if x.2.2≠0 then ((0,0),x.2.1,x.2.2)
 else if x.2.1=l.length\/l.getD x.2.1 0≠45 then ((x.1,x.1),x.2.1,0)
 else if (y (x.2.1+1)).2.2≠0 then ((0,0),(y (x.2.1+1)).2.1,(y (x.2.1+1)).2.2)
 else if (y (x.2.1+1)).1<x.1 then ((0,0),p,20)
 else ((x.1,(y (x.2.1+1)).1),(y (x.2.1+1)).2.1,0)
def fe (l:List UInt8) (p:Nat):Rg × Nat × Int:=zes l p (iN l p) (iN l)
end Dc
namespace Dc
open Go.RowKit
theorem zgp (l:List UInt8) (p:Nat) (hp:p<=l.length):(fe l p).2.1<=l.length/\((fe l p).2.2=0->p<(fe l p).2.1)/\0<=(fe l p).2.2/\(fe l p).2.2<=84:=by
 obtain⟨b1,b2,b3,b4,b5,b6⟩:=zaa l p hp;unfold fe zes
 split
 ·exact⟨b1,fun h=>b4 h,b5,b6⟩
 ·rename_i h0
  have h0':(iN l p).2.2=0:=sS.1 h0
  split
  ·have:=b4 h0'
   refine⟨?_,?_,?_,?_⟩<;>(dsimp only;omega)
  ·rename_i h1
   have hn:¬(iN l p).2.1=l.length:=fun e=>h1 (.inl e)
   obtain⟨d1,d2,d3,d4,d5,d6⟩:=zaa l ((iN l p).2.1+1) (by omega)
   have hb4:=b4 h0'
   split
   ·exact⟨d1,fun h=>by have:=d4 h;dsimp only;omega,d5,d6⟩
   ·rename_i h2
    have h2':(iN l ((iN l p).2.1+1)).2.2=0:=sS.1 h2;have hd4:=d4 h2'
    split
    ·refine⟨?_,?_,?_,?_⟩<;>(dsimp only;omega)
    ·refine⟨?_,?_,?_,?_⟩<;>(dsimp only;omega)
theorem js {w w':sN} {base:Nat} {e:tz} {size:Nat} {v:tf} {n:Nat} {xs:List tf} (h:w.ownsRow base e size v n xs) (hb:sQ w.heap.size w w'):w'.ownsRow base e size v n xs:=by
 refine⟨h.1,?_⟩
 rcases h.2 with h0 | ⟨g,cap,cur,hv,hbg,hg,hr⟩
 ·exact .inl h0
 ·exact .inr ⟨g,cap,cur,hv,hbg,(hb.block g (sI.1 hg).1).trans hg,hr⟩
def eG:Nat->List UInt8->Nat->List Rg->List Rg × Int × Nat
 | 0,_,_,_=>([],0,0)
 | f+1,l,p,acc=>
  if p=l.length then (nH acc,0,0)
  else if l.getD p 0=32 then eG f l (p+1) acc
  else if (fe l p).2.2≠0 then ([],(fe l p).2.2,(fe l p).2.1)
  else if (fe l p).2.1<l.length/\l.getD (fe l p).2.1 0≠32 then ([],21,(fe l p).2.1)
  else eG f l (fe l p).2.1 (acc++[(fe l p).1])
def kL (l:List UInt8):List Rg × Int × Nat:=eG (l.length+1) l 0 []
def Prs (l:List UInt8) (p:Nat) (acc:List Rg):Prop:=∃f,l.length - p<f/\eG f l p acc=kL l
theorem Prs.start (l:List UInt8):Prs l 0 []:=⟨l.length+1,by omega,rfl⟩
theorem Prs.done {l:List UInt8} {p:Nat} {acc:List Rg} (h:Prs l p acc) (hp:p=l.length):kL l=(nH acc,0,0):=by
 obtain⟨f,h1,h2⟩:=h;obtain⟨f,rfl⟩:∃f',f=f'+1:=⟨f - 1,by omega⟩
 rw[<- h2,eG,if_pos hp]
theorem Prs.blank {l:List UInt8} {p:Nat} {acc:List Rg} (h:Prs l p acc) (hp:p<l.length) (hb:l.getD p 0=32):Prs l (p+1) acc:=by
 obtain⟨f,h1,h2⟩:=h;obtain⟨f,rfl⟩:∃f',f=f'+1:=⟨f - 1,by omega⟩
 rw[eG,if_neg (by omega),if_pos hb] at h2
 exact⟨f,by omega,h2⟩
theorem Prs.wrong {l:List UInt8} {p:Nat} {acc:List Rg} (h:Prs l p acc) (hp:p<l.length) (hb:l.getD p 0≠32) (he:(fe l p).2.2≠0):kL l=([],(fe l p).2.2,(fe l p).2.1):=by
 obtain⟨f,h1,h2⟩:=h;obtain⟨f,rfl⟩:∃f',f=f'+1:=⟨f - 1,by omega⟩
 rw[<- h2,eG,if_neg (by omega),if_neg hb,if_pos he]
theorem Prs.stuck {l:List UInt8} {p:Nat} {acc:List Rg} (h:Prs l p acc) (hp:p<l.length) (hb:l.getD p 0≠32) (he:(fe l p).2.2=0) (hs:(fe l p).2.1<l.length/\l.getD (fe l p).2.1 0≠32):kL l=([],21,(fe l p).2.1):=by
 obtain⟨f,h1,h2⟩:=h;obtain⟨f,rfl⟩:∃f',f=f'+1:=⟨f - 1,by omega⟩
 rw[<- h2,eG,if_neg (by omega),if_neg hb,if_neg (fun e=>e he),if_pos hs]
theorem Prs.more {l:List UInt8} {p:Nat} {acc:List Rg} (h:Prs l p acc) (hp:p<l.length) (hb:l.getD p 0≠32) (he:(fe l p).2.2=0) (hs:¬((fe l p).2.1<l.length/\l.getD (fe l p).2.1 0≠32)):Prs l (fe l p).2.1 (acc++[(fe l p).1]):=by
 obtain⟨f,h1,h2⟩:=h;obtain⟨f,rfl⟩:∃f',f=f'+1:=⟨f - 1,by omega⟩
 have hm:=(zgp l p (by omega)).2.1 he
 rw[eG,if_neg (by omega),if_neg hb,if_neg (fun e=>e he),if_neg hs] at h2
 exact⟨f,by omega,h2⟩
end Dc
namespace Dc
open Go.RowKit
def ltr (b:Nat):Bool:=decide (65<=b/\b<=90) || decide (97<=b/\b<=122)
def lW (i b:Nat):Bool:=ltr b || (decide (0<i)&&(decide (48<=b/\b<=57) || decide (b=95)))
def ql (l:List UInt8):Bool:=decide (1<=l.length)&&decide (l.length<=32)&&(List.range l.length).all fun i=>lW i (l.getD i 0).toNat
theorem j9 (l:List UInt8) (i:Nat) (b:UInt8) (h:l[i]? =some b) (hb:lW i b.toNat=false):ql l=false:=by
 have hi:=(List.getElem?_eq_some_iff.1 h).1;unfold ql;rw[Bool.and_eq_false_iff]
 right
 rw[List.all_eq_false];exact⟨i,tu.2 hi,by simp[sW,h,hb]⟩
theorem zql (l:List UInt8) (h0:1<=l.length) (h1:l.length<=32) (h:∀i b,l[i]? =some b->lW i b.toNat=true):ql l=true:=by
 unfold ql;rw[decide_eq_true h0,decide_eq_true h1]
 simp only[Bool.true_and,List.all_eq_true,tu]
 intro i hi;exact h i _ (by simp[sW,hi])
theorem zhJ (l:List UInt8) (h:l.length=0\/32<l.length):ql l=false:=by
 unfold ql
 rcases h with h | h
 ·rw[decide_eq_false (show ¬1<=l.length by omega)];rfl
 ·rw[decide_eq_false (show ¬l.length<=32 by omega)];simp
theorem nJ (i b:Nat) (h:(65<=b/\b<=90)\/(97<=b/\b<=122)\/(0<i/\48<=b/\b<=57)\/(0<i/\b=95)):lW i b=true:=by
 unfold lW ltr
 rcases h with h | h | h | h
 ·rw[decide_eq_true h];rfl
 ·rw[decide_eq_true h];simp
 ·rw[decide_eq_true h.1,decide_eq_true h.2];simp
 ·rw[decide_eq_true h.1,decide_eq_true h.2];simp
theorem eI (i b:Nat) (h:¬((65<=b/\b<=90)\/(97<=b/\b<=122)\/(0<i/\48<=b/\b<=57)\/(0<i/\b=95))):lW i b=false:=by
 unfold lW ltr;rw[decide_eq_false (show ¬(65<=b/\b<=90) by omega),decide_eq_false (show ¬(97<=b/\b<=122) by omega)]
 by_cases h0:0<i
 ·rw[decide_eq_false (show ¬(48<=b/\b<=57) by omega),decide_eq_false (show ¬b=95 by omega)];simp
 ·rw[decide_eq_false h0];rfl
end Dc
namespace Dc
def ss (l:List UInt8):List UInt8:=Lib.trimS l [32,9]
def cE (l:List UInt8):List UInt8:=ss (l.take (ff 35 l))
def rnm (l:List UInt8):List UInt8:=ss (l.drop (ff 59 l+1))
def rsp (l:List UInt8):List UInt8:=(l.take (ff 59 l)).map tbl
def rgT (c:Nat) (g:Rg):Tr:=(g.1.toNat,g.2.toNat,c)
def kE:List Tr->List Rg->Nat->Option (List Tr)
 | S,[],_=>some S
 | S,g::G,c=>(gv S (rgT c g)).bind fun S'=>kE S' G c
def qj (U:List (List UInt8)) (S:List Tr) (l:List UInt8):Int × List (List UInt8) × List Tr:=
 if cE l=[] then (0,U,S)
 else if ff 59 (cE l)=(cE l).length then (42,U,S)
 else if ql (rnm (cE l))=false\/rnm (cE l)=oth then (40,U,S)
 else if (kL (rsp (cE l))).2.1≠0 then ((kL (rsp (cE l))).2.1,U,S)
 else if (gq (rnm (cE l)) U).2=64 then (6,U,S)
 else match kE S (kL (rsp (cE l))).1 (gq (rnm (cE l)) U).2 with
  | none=>(41,U,S)
  | some S'=>(0,(gq (rnm (cE l)) U).1,S')
theorem zgz (p:UInt8->Bool):∀l:List UInt8,(l.dropWhile p).length<=l.length
 | []=>by simp
 | b::l=>by
  have ih:=zgz p l;rw[sE]
  split
  ·simp;omega
  ·simp
theorem zhh (l:List UInt8):(ss l).length<=l.length:=by
 unfold ss Lib.trimS Lib.trimLeftS Lib.trimRightS;refine tg (zgz _ _) ?_;rw[List.length_reverse];refine tg (zgz _ _) ?_
 simp
theorem zcn (l:List UInt8):(cE l).length<=l.length:=tg (zhh _) (by simp;omega)
theorem zpV (l:List UInt8):(rsp l).length<=l.length:=by unfold rsp;simp;omega
theorem zhC:∀(f:Nat) (l:List UInt8) (p:Nat) (acc:List Rg),nf (eG f l p acc).1
 | 0,l,p,acc=>by unfold eG;exact trivial
 | f+1,l,p,acc=>by
  unfold eG
  repeat' split
  all_goals first
   | exact trivial
   | exact dU _
   | exact zhC f l _ _
theorem zsH (l:List UInt8):nf (kL l).1:=zhC _ _ _ _
theorem lV (G:List Rg) (h:nf G) (g:Rg) (hg:g∈G):0<=g.1/\g.1<=g.2/\g.2<=1114111:=by
 obtain⟨j,hj⟩:=List.getElem?_of_mem hg;have h5:=zmf h hj;exact⟨h5.1,h5.2.1,h5.2.2⟩
end Dc
namespace Dc
open Go.RowKit
abbrev qD:=Int × Nat × Nat
def nxt (e:Nat):List (Nat × Int)->Nat
 | []=>e
 | y::_=>y.1
def cls (e:Nat):List (Nat × Int)->List qD
 | []=>[]
 | x::t=>(x.2,x.1,nxt e t)::cls e t
theorem dK (e:Nat):∀xs,(cls e xs).length=xs.length
 | []=>rfl
 | x::t=>by rw[cls,sD,sD,dK e t]
theorem fT (e:Nat) (y:Nat × Int):∀xs,cls e (xs++[y])=cls y.1 xs++[(y.2,y.1,e)]
 | []=>rfl
 | [x]=>rfl
 | x::z::t=>by
  have ih:=fT e y (z::t);rw[List.cons_append,cls,ih]
  rfl
def txt (l:List UInt8):List qD:=cls l.length (plr l 0)
def tpc (x:qD):List tf:=[.int .i32 x.1,.int .i64 x.2.1,.int .i64 x.2.2]
def dA (l:List qD):List tf:=l.flatMap tpc
theorem ziU (l:List qD) (g:qD):dA (l++[g])=dA l++tpc g:=by simp[dA]
theorem zbM:∀l:List qD,(dA l).length=l.length * 3
 | []=>rfl
 | g::l=>by
  show(tpc g++dA l).length=_
  rw[tc,zbM l,sD]
  show 3+_=_
  omega
theorem zhe (g:qD):∀u∈tpc g,u.oneCell'=true:=by intro u hu;simp[tpc] at hu;rcases hu with rfl | rfl | rfl<;>rfl
theorem zbN:∀(l:List qD) (k:Nat) (g:qD),l[k]? =some g->(dA l)[k * 3]? =some (.int .i32 g.1)/\(dA l)[k * 3+1]? =some (.int .i64 g.2.1)/\(dA l)[k * 3+2]? =some (.int .i64 g.2.2)
 | [],_,_,h=>by cases h
 | x::l,0,g,h=>by cases h;exact⟨rfl,rfl,rfl⟩
 | x::l,k+1,g,h=>by
  have ih:=zbN l k g h;have e1:(k+1) * 3=k * 3+3:=by omega
  show(tpc x++dA l)[(k+1) * 3]? =_/\(tpc x++dA l)[(k+1) * 3+1]? =_/\(tpc x++dA l)[(k+1) * 3+2]? =_
  rw[e1,sG (by simp[tpc]),sG (by simp[tpc]),sG (by simp[tpc])]
  simpa[tpc] using ih
theorem zbL:∀(l:List qD) (i:Nat) (a:Int) (b c d:Nat),l[i]? =some (a,b,d)->(dA l).set (i * 3+2) (.int .i64 c)=dA (l.set i (a,b,c))
 | [],_,_,_,_,_,h=>by cases h
 | x::l,0,a,b,c,d,h=>by cases h;rfl
 | x::l,i+1,a,b,c,d,h=>by
  have ih:=zbL l i a b c d h;have e1:(i+1) * 3=i * 3+3:=by omega
  show(tpc x++dA l).set ((i+1) * 3+2) _=tpc x++dA (l.set i (a,b,c))
  rw[<- ih,e1]
  rfl
def RdT (w:sN) (ao:Option Addr) (l:List qD):Prop:=
 ∀(k:Nat) (x:qD),l[k]? =some x->∃g,ao=some ⟨g,0,none⟩/\g<w.heap.size/\w.cell? ⟨g,k * 3,none⟩=some (.int .i32 x.1)/\w.cell? ⟨g,k * 3+1,none⟩=some (.int .i64 x.2.1)/\w.cell? ⟨g,k * 3+2,none⟩=some (.int .i64 x.2.2)
theorem RdT.below {w w':sN} {ao:Option Addr} {l:List qD} (h:RdT w ao l) (hb:sQ w.heap.size w w'):RdT w' ao l:=fun k x hk=>by
 obtain⟨g,h1,h2,h3,h4,h5⟩:=h k x hk;exact⟨g,h1,Nat.lt_of_lt_of_le h2 hb.size,(hb.cell (p:=⟨g,k * 3,none⟩) h2).trans h3,(hb.cell (p:=⟨g,k * 3+1,none⟩) h2).trans h4,(hb.cell (p:=⟨g,k * 3+2,none⟩) h2).trans h5⟩
theorem j6 {w:sN} {B:Nat} {v:tf} {l:List qD} (h:w.ownsRow B 77 3 v l.length (dA l)):∃ao cap,v= .slice ao l.length cap/\(0<l.length->∃g,ao=some ⟨g,0,none⟩/\B<=g/\g<w.heap.size)/\RdT w ao l:=by
 rcases h.2 with ⟨h1,h2⟩ | ⟨g,cap,cur,h1,h2,h3,h4,h5,h6,h7⟩
 ·have hl:l=[]:=List.length_eq_zero_iff.1 h2
  subst hl;exact⟨none,0,h1,fun h=>by simp at h,fun k x hk=>by cases hk⟩
 ·have hg:=(sI.1 h3).1
  refine⟨some ⟨g,0,none⟩,cap,h1,fun _=>⟨g,rfl,h2,hg⟩,fun k x hk=>⟨g,rfl,hg,?_⟩⟩
  obtain⟨e1,e2,e3⟩:=zbN l k x hk;have hc:∀j u,(dA l)[j]? =some u->w.cell? ⟨g,j,none⟩=some u:=fun j u hj=>by
   have:=h.cells (g:=g) (by rw[h1];rfl) j u hj
   rw[show(⟨g,0,none⟩:Addr).add j=⟨g,j,none⟩ by unfold Addr.add;split<;>simp_all] at this
   exact this
  exact⟨hc _ _ e1,hc _ _ e2,hc _ _ e3⟩
theorem zcl {w:sN} {B g n cap:Nat} {l:List qD} (h:w.ownsRow B 77 3 (.slice (some ⟨g,0,none⟩) n cap) l.length (dA l)) (j:Nat):w.frozen? ⟨g,j,none⟩=false:=by
 rcases h.2 with ⟨h1,_⟩ | ⟨g',cap',cur,h1,_,h3,_⟩
 ·cases h1
 ·cases h1
  exact frozen_of_row w g j cur 77 h3
theorem zlx {w:sN} {B g n cap:Nat} {l:List qD} (h:w.ownsRow B 77 3 (.slice (some ⟨g,0,none⟩) n cap) l.length (dA l)) (i:Nat) (a:Int) (b c d:Nat) (hi:l[i]? =some (a,b,d)):
  (w.setCell ⟨g,i * 3+2,none⟩ (.int .i64 c)).ownsRow B 77 3 (.slice (some ⟨g,0,none⟩) n cap) (l.set i (a,b,c)).length (dA (l.set i (a,b,c))):=by
 rcases h.2 with ⟨h1,_⟩ | ⟨g',cap',cur,h1,h2,h3,h4,h5,h6,h7⟩
 ·cases h1
 ·cases h1
  have s1:=Lib.heap_setCell_same (i:=i * 3+2) h3 (.int .i64 c);rw[tr];refine⟨?_,Or.inr ⟨g,cap,_,rfl,h2,s1,h4,h5,by simp[h6],?_⟩⟩
  ·rw[zbM,tr]
  ·rw[<- zbL l i a b c d hi,<- h7]
   simp[List.take_set]
theorem zja (P:List qD) (x y:qD):(P++[x]).set P.length y=P++[y]:=by
 rw[List.set_append_right _ _ (sT _),ti];rfl
theorem zjd {w w':sN} {B:Nat} {e:tz} {size:Nat} {v:tf} {n:Nat} {xs:List tf} {k:Nat} (h:w.ownsRow B e size v n xs) (hg:w.grownBy w' (some k)) (hk:∀j,v.ownBlock=some j->j≠k):w'.ownsRow B e size v n xs:=by
 refine⟨h.1,?_⟩
 rcases h.2 with h0 | ⟨g,cap,cur,hv,hb,hgg,hr⟩
 ·exact Or.inl h0
 ·exact Or.inr ⟨g,cap,cur,hv,hb,(hg.block g (sI.1 hgg).1 (fun e=>by injection e with e;exact hk g (by rw[hv];rfl) e)).trans hgg,hr⟩
theorem zsX (w:sN) (g:qD) (T:tz):∀j u,(tpc g)[j]? =some u->(w.alloc (.cells #[.int .i32 g.1,.int .i64 g.2.1,.int .i64 g.2.2] T)).cell? ((⟨w.heap.size,0,none⟩:Addr).add j)=some u:=fun j u hj=>by
 rw[show(⟨w.heap.size,0,none⟩:Addr).add j=⟨w.heap.size,j,none⟩ by unfold Addr.add;split<;>simp_all]
 rw[cell_of_row _ w.heap.size j #[.int .i32 g.1,.int .i64 g.2.1,.int .i64 g.2.2] T (0,0) (show(w.heap.push _)[w.heap.size]? =_ by simp)]
 rw[<- hj]
 simp[tpc]
theorem Tryz.infoRRune:(Tryz.prog.info? 77).map (fun i=>(i.zero,i.size,i.bytes))=some (some (.agg #[.int .i32 0,.int .i64 0,.int .i64 0]),3,24):=by kernel_rfl
set_option maxRecDepth 100000 in
theorem zfu (l:List UInt8) (w:sN) (hl:l.length<=1000000):
  sV Tryz.prog 60 #[.string ⟨l.toArray⟩] w fun e w'=>∃v,e= .returned v/\w'.ownsRow w.heap.size 77 3 v (txt l).length (dA (txt l))/\sQ w.heap.size w w':=by
 obtain⟨i0,hi,hz0,hz1,hz2⟩:=info_parts Tryz.infoRRune;have HSZ:=hid (show(⟨l.toArray⟩:ByteArray).size=l.length by show l.toArray.size=_;simp)
 have hit0:=sN.iter_heap w ⟨l.toArray⟩ 0;have HB0:=hid ((td w.heap.size w).alloc (sT _) (.stringIter ⟨l.toArray⟩ 0));have HIT0:=hid hit0;clear hit0;go_enter Tryz.func60,Tryz.ntmps60;go_wp2;go_loopw [3] (fun v wr=>∃(t:Nat) (xs:List (Nat × Int)),Hid (plr l 0=xs++plr l t)/\Hid (wr.heap[w.heap.size]? =some (.stringIter ⟨l.toArray⟩ t))/\Hid (wr.ownsRow (w.heap.size+1) 77 3 v (cls l.length xs).length (dA (cls l.length xs)))/\Hid (sQ w.heap.size w wr)) (fun _ wr=>l.length - wr.iterPos w.heap.size)
 case atStart=>exact⟨0,[],by simp[Hid],HIT0,sN.ownsRow_nil _ _ _ _,HB0⟩
 case round=>
  obtain⟨t,xs,HP,HI,HO,HB⟩:=hrel;have hbs:=HB.out.size;have hin:w.heap.size<wr.heap.size:=(sI.1 HI.out).1
  by_cases hlt:t<l.length
  ·have hnx:=run_next_at (P:=Tryz.prog) wr w.heap.size ⟨l.toArray⟩ t 0 HI.out (by rw[HSZ.out];exact hlt)
   have d1:=Lib.width_pos ⟨l.toArray⟩ t;have hst:=fG l t hlt;obtain⟨nn,hnn⟩:∃nn,nn=(sR ⟨l.toArray⟩ t).2:=⟨_,rfl⟩;obtain⟨rr,hrr⟩:∃rr:Int,rr=((sR ⟨l.toArray⟩ t).1:Int):=⟨_,rfl⟩;rw[<- hnn] at hnx hst d1;rw[<- hrr] at hnx hst;have HP2:=hid (show plr l 0=(xs++[(t,rr)])++plr l (t+nn) by rw[HP.out,hst,List.append_assoc];rfl)
   obtain⟨w1,hw1⟩:∃w1,w1=wr.putObj w.heap.size (.stringIter ⟨l.toArray⟩ (t+nn)):=⟨_,rfl⟩;rw[<- hw1] at hnx;have HI1:=hid (show w1.heap[w.heap.size]? =some (.stringIter ⟨l.toArray⟩ (t+nn)) by rw[hw1];exact sN.putObj_heap_same hin)
   have HB1:=hid (show sQ w.heap.size w w1 by rw[hw1];exact HB.out.trans ⟨rfl,rfl,rfl,by simp[te],fun j hj=>sN.putObj_heap_other (by omega)⟩)
   have HO1:=hid (show w1.ownsRow (w.heap.size+1) 77 3 u3 (cls l.length xs).length (dA (cls l.length xs)) by rw[hw1];exact zjd HO.out (grownBy_putObj' wr _ _) (fun j hj=>by have:=(HO.out.lt j hj).1;omega))
   have hw1s:wr.heap.size<=w1.heap.size:=by rw[hw1];simp[te]
   have hmes:l.length - wr.iterPos w.heap.size=l.length - t:=by unfold sY;rw[HI.out]
   have HM:=hid hmes;have hcl:=dK l.length xs;have hxl:xs.length<l.length:=by have h:=zhB l l.length 0 (by omega);rw[HP2.out] at h;simp at h;omega
   clear hmes hnn hrr hst hw1 HP HI HB HO
   rcases List.eq_nil_or_concat xs with rfl | ⟨Q,z,rfl⟩
   ·obtain⟨oo,oc,hu6,_,_⟩:=j6 HO1.out
    subst hu6;have HOD:=hid (show w1.ownsRow (w.heap.size+1) 77 3 (.slice oo 0 oc) 0 [] from HO1.out)
    clear HO1;go_wp2_with (at_builtin;refine tj _ rfl _ _ 74 rfl (w.heap.size+1) 77 i0 (.agg #[.int .i32 0,.int .i64 0,.int .i64 0]) 3 24 Tryz.underlying74 hi hz0 hz1 hz2 rfl (by decide) (.slice oo 0 oc) 0 [] rfl (HOD.out.alloc _) ⟨w1.heap.size,0,none⟩ 1 1 (tpc (rr,t,l.length)) rfl rfl ?c1 ?c2 ?c3 ?c4 ?c5 ?_)
    case c1=>exact zsX w1 (rr,t,l.length) 77
    case c2=>exact zhe _
    case c3=>unfold maxLen;omega
    case c4=>omega
    case c5=>simp;omega
    intro v2 w2 o2 gr2 _;have HO2:=hid (show w2.ownsRow (w.heap.size+1) 77 3 v2 (cls l.length ([]++[(t,rr)])).length (dA (cls l.length ([]++[(t,rr)]))) from o2)
    have HB2:=hid ((HB1.out.alloc HB1.out.size (.cells #[.int .i32 rr,.int .i64 t,.int .i64 l.length] 77)).grown gr2 (by simp;omega) (fun j hj=>tk (HOD.out.lt j hj).1))
    have HI2:=hid (show w2.heap[w.heap.size]? =some (.stringIter ⟨l.toArray⟩ (t+nn)) from(gr2.block w.heap.size (by simp;omega) (fun e=>by have:=(HOD.out.lt _ e.symm).1;omega)).trans ((tm w1 _ _ (by omega)).trans HI1.out))
    clear o2 gr2;go_wp2;go_roundw
    case rel=>exact⟨t+nn,[]++[(t,rr)],HP2,HI2,HO2,HB2⟩
    case measure=>
     rw[HM.out];unfold sY;rw[HI2.out]
     simp only[]
     omega
   ·obtain⟨oo,oc,hu6,hog,hrt⟩:=j6 HO1.out
    obtain⟨g,rfl,hgB,hgl⟩:=hog (by rw[dK];simp)
    subst hu6;rw[List.concat_eq_append] at *;obtain⟨_,hg',_,_,_,c2⟩:=hrt Q.length (z.2,z.1,l.length) (by rw[fT,sG (by rw[dK];exact sT _),dK,ti];rfl)
    injection hg' with hg'
    injection hg' with hg' _ _
    subst hg';have f2:=zcl HO1.out (Q.length * 3+2);have HST:=hid (show(w1.setCell ⟨g,Q.length * 3+2,none⟩ (.int .i64 t)).ownsRow (w.heap.size+1) 77 3 (.slice (some ⟨g,0,none⟩) (cls l.length (Q++[z])).length oc) (cls t (Q++[z])).length (dA (cls t (Q++[z]))) by
     have h:=zlx HO1.out Q.length z.2 z.1 t l.length (by rw[fT,sG (by rw[dK];exact sT _),dK,ti];rfl)
     have e:(cls l.length (Q++[z])).set Q.length (z.2,z.1,t)=cls t (Q++[z]):=by
      rw[fT,fT];have:=zja (cls z.1 Q) (z.2,z.1,l.length) (z.2,z.1,t);rw[dK] at this;exact this
     rw[e] at h;exact h)
    obtain⟨n,hn⟩:∃n,n=Q.length:=⟨_,rfl⟩;have hcl2:(cls l.length (Q++[z])).length=n+1:=by rw[dK,hn];simp
    have hcl3:(cls t (Q++[z])).length=n+1:=by rw[dK,hn];simp
    rw[hcl2,hcl3,<- hn] at HST;rw[<- hn] at c2 f2
    dsimp only at c2
    have hn9:n<l.length:=by rw[hn];simp at hxl;omega
    rw[hcl2];have HI2:=hid (show(w1.setCell ⟨g,n * 3+2,none⟩ (.int .i64 t)).heap[w.heap.size]? =some (.stringIter ⟨l.toArray⟩ (t+nn)) from(sQ.heap_setCell _ _ _ _ (show w.heap.size≠g by omega)).trans HI1.out)
    have HB2:=hid (show sQ w.heap.size w (w1.setCell ⟨g,n * 3+2,none⟩ (.int .i64 t)) from HB1.out.setCell (p:=⟨g,n * 3+2,none⟩) (show w.heap.size<=g by omega) _)
    have HW2:=hid (show(w1.setCell ⟨g,n * 3+2,none⟩ (.int .i64 t)).heap.size=w1.heap.size by simp)
    have t0:decide ((0:Int)<(n:Int)+1)=true:=decide_eq_true (by omega)
    have esub:((n:Int)+1) - 1=(n:Int):=by omega
    have ewr:IntKind.i64.wrap (n:Int)=(n:Int):=by rw[IntKind.wrap_i64];omega
    have i1:(0:Int)<=(n:Int):=by omega
    have i2:(n:Int)<(n:Int)+1:=by omega
    have HCL:=hid (show cls l.length (Q++[z]++[(t,rr)])=cls t (Q++[z])++[(rr,t,l.length)] from fT _ _ _)
    have HC3:=hid hcl3;clear hrt hog hcl hcl2 HO1 HB1 HI1 hn hxl hcl3;go_wp2_with (at_builtin;refine tj _ rfl _ _ 74 rfl (w.heap.size+1) 77 i0 (.agg #[.int .i32 0,.int .i64 0,.int .i64 0]) 3 24 Tryz.underlying74 hi hz0 hz1 hz2 rfl (by decide) (.slice (some ⟨g,0,none⟩) (n+1) oc) (n+1) (dA (cls t (Q++[z]))) rfl (HST.out.alloc _) ⟨w1.heap.size,0,none⟩ 1 1 (tpc (rr,t,l.length)) rfl rfl ?c1 ?c2 ?c3 ?c4 ?c5 ?_)
    case c1=>exact fun _ _ h=>h
    case c2=>exact zhe _
    case c3=>unfold maxLen;omega
    case c4=>omega
    case c5=>omega
    intro v2 w2 o2 gr2 _;have HO2:=hid (show w2.ownsRow (w.heap.size+1) 77 3 v2 (cls l.length (Q++[z]++[(t,rr)])).length (dA (cls l.length (Q++[z]++[(t,rr)]))) by rw[HCL.out,ziU,tc,HC3.out];exact o2)
    have HB3:=hid ((HB2.out.alloc (by rw[HW2.out];omega) (.cells #[.int .i32 rr,.int .i64 t,.int .i64 l.length] 77)).grown gr2 (by simp;omega) (fun j hj=>tk (HST.out.lt j hj).1))
    have HI3:=hid (show w2.heap[w.heap.size]? =some (.stringIter ⟨l.toArray⟩ (t+nn)) from(gr2.block w.heap.size (by simp;omega) (fun e=>by have:=(HST.out.lt _ e.symm).1;omega)).trans ((tm _ _ _ (by rw[HW2.out];omega)).trans HI2.out))
    clear o2 gr2;go_wp2;go_roundw
    case rel=>exact⟨t+nn,Q++[z]++[(t,rr)],HP2,HI3,HO2,HB3⟩
    case measure=>
     rw[HM.out];unfold sY;rw[HI3.out]
     simp only[]
     omega
  ·have hnx:=run_next_stop (P:=Tryz.prog) wr w.heap.size ⟨l.toArray⟩ t 0 HI.out (by rw[HSZ.out];exact hlt)
   have HE:=hid (show plr l 0=xs by rw[HP.out,gD l t hlt,List.append_nil])
   go_wp2;go_ret;exact⟨_,rfl,by unfold txt;rw[HE.out];exact aU HO.out (by omega),HB.out⟩
theorem iQ (l:List UInt8) (w:sN) (hl:l.length<=1000000):
  sV Tryz.prog 60 #[.string ⟨l.toArray⟩] w fun e w'=>∃xo xc,e= .returned (.slice xo (txt l).length xc)/\RdT w' xo (txt l)/\sQ w.heap.size w w':=
 (zfu l w hl).mono fun _ _ ⟨_,h1,h2,h3⟩=>by
  obtain⟨xo,xc,e,_,hr⟩:=j6 h2;subst e;exact⟨xo,xc,h1,hr,h3⟩
end Dc
namespace Dc
open Go.RowKit
theorem getD_take (l:List UInt8) (n i:Nat):((l.take n).getD i 0).toNat=if i<n then (l.getD i 0).toNat else 0:=by
 by_cases h:i<n<;>simp[sW,List.getElem?_take,h]
theorem decodeN_cut (N n b0 b1 b2 b3:Nat) (h1:1<=n) (h:(sP N b0 b1 b2 b3).2<=n):
  sP (min n N) b0 (if 1<n then b1 else 0) (if 2<n then b2 else 0) (if 3<n then b3 else 0)=sP N b0 b1 b2 b3:=by
 have c:n=1\/n=2\/n=3\/4<=n:=by omega
 rcases c with rfl | rfl | rfl | c
 ·simp only[sZ,if_false,Nat.reduceLT]
  unfold sP at *
  revert h
  repeat' split
  all_goals first | (intro h;dsimp only at h;exfalso;omega) | (intro _;rfl)
 ·simp only[sZ,if_false,if_true,Nat.reduceLT]
  unfold sP at *
  revert h
  repeat' split
  all_goals first | (intro h;dsimp only at h;exfalso;omega) | (intro _;rfl)
 ·simp only[sZ,if_false,if_true,Nat.reduceLT]
  unfold sP at *
  revert h
  repeat' split
  all_goals first | (intro h;dsimp only at h;exfalso;omega) | (intro _;rfl)
 ·rw[if_pos (by omega),if_pos (by omega),if_pos (by omega)]
  unfold sP;have e1:(1<min n N)=(1<N):=propext ⟨fun h=>by omega,fun h=>by omega⟩
  have e2:(2<min n N)=(2<N):=propext ⟨fun h=>by omega,fun h=>by omega⟩
  have e3:(3<min n N)=(3<N):=propext ⟨fun h=>by omega,fun h=>by omega⟩
  simp only[e1,e2,e3]
theorem dec_take (l:List UInt8) (h:l≠ []) (n:Nat) (hn:(dec l).2<=n):dec (l.take n)=dec l:=by
 have h1:=dec_ge l h;have hp:0<l.length:=sX.2 h;have hne:l.take n≠ []:=fun e=>by have:=congrArg tq e;rw[sK] at this;simp only[sL] at this;omega
 rw[dec_eqL _ hne,dec_eqL l h,ta,ta,sK];have hn1:1<=n:=by omega
 rw[dec_eqL l h,ta] at hn
 simp only[getD_take]
 rw[if_pos (by omega:0<n)]
 exact decodeN_cut _ _ _ _ _ _ (by omega) hn
theorem rK (l:List UInt8) (n:Nat) (hn:4<=n):dec (l.take n)=dec l:=by
 by_cases h:l=[]
 ·subst h;simp
 ·exact dec_take l h n (by have:=dec_le4 l;omega)
theorem zoB (l:List UInt8) (h:l≠ []):sR ⟨l.toArray⟩ 0=dec l:=by rw[dec_eqL l h];rfl
theorem zpK:txt []=[]:=rfl
theorem ziT (l:List UInt8) (h:l≠ []):(txt l)[0]? =some (((dec l).1:Int),0,(dec l).2)/\0<(txt l).length:=by
 have hp:0<l.length:=sX.2 h;have h1:=dec_ge l h;have h2:=dec_le l h;unfold txt;rw[fG l 0 hp,zoB l h,cls];refine⟨?_,by simp⟩
 have hn:nxt l.length (plr l (0+(dec l).2))=(dec l).2:=by
  rw[tA]
  by_cases c:(dec l).2<l.length
  ·rw[fG l _ c];rfl
  ·rw[gD l _ c];show l.length=_;omega
 rw[hn];rfl
theorem ziS (l:List UInt8) (h:l≠ []):Lib.validD (l.take (dec l).2)= !(decide ((dec l).1=65533)&&decide ((dec l).2=1)):=by
 have h1:=dec_ge l h;have h2:=dec_le l h;have hne:l.take (dec l).2≠ []:=fun e=>by have:=congrArg tq e;rw[sK] at this;simp only[sL] at this;omega
 have hd:Lib.decodeL (l.take (dec l).2)=dec l:=by rw[<- dec_eqL _ hne,dec_take l h _ (sT _)]
 rw[Lib.validD_step _ hne,hd];have e:(l.take (dec l).2).drop (dec l).2=[]:=List.drop_of_length_le (by rw[sK];omega)
 rw[e,Lib.validD_nil]
 by_cases c1:(dec l).1=65533<;>by_cases c2:(dec l).2=1<;>simp[c1,c2]
theorem rz:∀(t:List UInt8) (a:Nat) (c:UInt8),ku a (t++[c])=ku a t * 16+hxV c
 | [],_,_=>rfl
 | x::t,a,c=>by
  show ku (a * 16+hxV x) (t++[c])=ku (a * 16+hxV x) t * 16+hxV c
  exact rz t _ c
def dgv (c:UInt8):Nat:=if dW c=true then hxV c else 0
def ic (l:List UInt8) (p:Nat):Int × Nat × Bool:=
 if pre (l.drop p) [39]=true/\(dec (l.drop (p+1))).2≠0/\p+1+(dec (l.drop (p+1))).2<l.length/\l.getD (p+1+(dec (l.drop (p+1))).2) 0=39 then ((((dec (l.drop (p+1))).1:Nat):Int),(dec (l.drop (p+1))).2,true)
 else (0,0,false)
def ia (l:List UInt8) (p:Nat):Int × Nat × Int × Nat:=
 if (iN l p).2.2=0 then ((iN l p).1,(iN l p).2.1,0,0) else (0,0,(iN l p).2.2,(iN l p).2.1)
theorem iP {l:List UInt8} {p:Nat} (h:pre (l.drop p) [85,43]=true) (h1:gj l (p+2)<4\/6<gj l (p+2)):ia l p=(0,0,21,p):=by
 unfold ia iN cdd;rw[if_pos h,if_pos h1];rfl
theorem qT {l:List UInt8} {p:Nat} (h:pre (l.drop p) [85,43]=true) (h1:¬(gj l (p+2)<4\/6<gj l (p+2))) (h2:1114111<ku 0 ((l.drop (p+2)).take (gj l (p+2)))):ia l p=(0,0,22,p):=by
 unfold ia iN cdd;rw[if_pos h,if_neg h1,if_pos h2];rfl
theorem qS {l:List UInt8} {p:Nat} (h:pre (l.drop p) [85,43]=true) (h1:¬(gj l (p+2)<4\/6<gj l (p+2))) (h2:¬1114111<ku 0 ((l.drop (p+2)).take (gj l (p+2)))):ia l p=(((ku 0 ((l.drop (p+2)).take (gj l (p+2))):Nat):Int),p+2+gj l (p+2),0,0):=by
 unfold ia iN cdd;rw[if_pos h,if_neg h1,if_neg h2];rfl
theorem zlv {l:List UInt8} {p:Nat} (h:pre (l.drop p) [85,43]=false):
  ia l p=if (ic l p).2.2=false then (0,0,21,p) else if (ic l p).1=65533/\(ic l p).2.1=1 then (0,0,23,p+1) else ((ic l p).1,p+(ic l p).2.1+2,0,0):=by
 have hs:iN l p=if pre (l.drop p) [39]=true then qtd l p else (0,p,21):=by unfold iN;rw[if_neg (by rw[h];decide)]
 unfold ia;rw[hs];clear hs
 cases hq:pre (l.drop p) [39] with
 | false=>
  have e:ic l p=(0,0,false):=by unfold ic;rw[if_neg (by rw[hq];simp)]
  rw[e];rfl
 | true=>
  simp only[if_true]
  have hin:=mo (l.drop (p+1));rw[sH] at hin;have hpl:=kK hq;rw[sH] at hpl
  simp only[sD,sL] at hpl
  by_cases c:(dec (l.drop (p+1))).2=0\/p+1+(dec (l.drop (p+1))).2=l.length\/l.getD (p+1+(dec (l.drop (p+1))).2) 0≠39
  ·have e:ic l p=(0,0,false):=by
    unfold ic;rw[if_neg];rintro ⟨_,a,b,d⟩
    rcases c with c | c | c
    ·exact a c
    ·omega
    ·exact c d
   have e2:qtd l p=(0,p,21):=by unfold qtd;rw[if_pos c]
   rw[e,e2];rfl
  ·have hne:l.drop (p+1)≠ []:=fun e=>c (.inl (by rw[e];rfl))
   have c1:(dec (l.drop (p+1))).2≠0:=fun e=>c (.inl e)
   have c2:¬p+1+(dec (l.drop (p+1))).2=l.length:=fun e=>c (.inr (.inl e))
   have c3:l.getD (p+1+(dec (l.drop (p+1))).2) 0=39:=sS.1 fun e=>c (.inr (.inr e))
   have e:ic l p=((((dec (l.drop (p+1))).1:Nat):Int),(dec (l.drop (p+1))).2,true):=by
    unfold ic;rw[if_pos ⟨hq,c1,by omega,c3⟩]
   have hv:=ziS _ hne;rw[e];unfold qtd;rw[if_neg c,hv]
   generalize (dec (l.drop (p+1))).2=n at *
   generalize (dec (l.drop (p+1))).1=r at *
   by_cases d1:r=65533
   ·by_cases d2:n=1
    ·subst d1 d2
     rfl
    ·subst d1
     simp[d2]
     omega
   ·have f1:decide (r=65533)=false:=decide_eq_false d1
    have f2:¬(r:Int)=65533:=by omega
    simp[f1,f2]
    omega
end Dc
namespace Dc
open Go.RowKit
theorem zkw (c:UInt8) (w:sN):
  sV Tryz.prog 181 #[.int .u8 (c.toNat:Int)] w fun e w'=>e= .returned (.tuple #[.int .i64 (dgv c:Nat),.bool (dW c)])/\w'=w:=by
 have hc:c.toNat<256:=c.toNat_lt
 by_cases h1:48<=c.toNat/\c.toNat<=57
 ·have hi:dW c=true:=(kV c).2 (.inl h1)
  have HD:=hid (show((dgv c:Nat):Int)=(c.toNat:Int) - 48 by unfold dgv;rw[if_pos hi];unfold hxV;rw[if_pos h1.2];omega)
  have HI:=hid hi;clear hi;obtain⟨a1,a2⟩:=h1
  generalize c.toNat=m at *
  go_enter Tryz.func181,Tryz.ntmps181;go_wp2;go_ret2;exact⟨by rw[HD.out,HI.out];go_num,rfl⟩
 ·by_cases h2:65<=c.toNat/\c.toNat<=70
  ·have hi:dW c=true:=(kV c).2 (.inr h2)
   have HD:=hid (show((dgv c:Nat):Int)=(c.toNat:Int) - 65+10 by unfold dgv;rw[if_pos hi];unfold hxV;rw[if_neg (by omega)];omega)
   have HI:=hid hi;clear hi;obtain⟨a1,a2⟩:=h2;have a3:¬(c.toNat:Int)<=57:=by omega
   have a4:(48:Int)<=(c.toNat:Int):=by omega
   clear h1
   generalize c.toNat=m at *
   go_enter Tryz.func181,Tryz.ntmps181;go_wp2;go_ret2;exact⟨by rw[HD.out,HI.out];go_num,rfl⟩
  ·have hi:dW c=false:=by
    cases h:dW c with
    | false=>rfl
    | true=>exact absurd ((kV c).1 h) (by rintro (h | h);exact h1 h;exact h2 h)
   have HD:=hid (show dgv c=0 by unfold dgv;rw[if_neg (by rw[hi];decide)])
   have HI:=hid hi;clear hi
   generalize c.toNat=m at *
   go_enter Tryz.func181,Tryz.ntmps181;go_wp2
   all_goals go_ret2
   all_goals exact⟨by rw[HD.out,HI.out];rfl,rfl⟩
theorem first_any (l:List UInt8) (w:sN) (hl:l.length<=1000000):
  sV Tryz.prog 179 #[.string ⟨l.toArray⟩] w fun e w'=>e= .returned (.tuple #[.int .i32 ((dec l).1:Nat),.int .i64 ((dec l).2:Nat)])/\sQ w.heap.size w w':=by
 have HR:=hid (iQ l w hl)
 by_cases h:l=[]
 ·subst h
  rw[zpK] at HR;go_enter Tryz.func179,Tryz.ntmps179;go_wp2_with fail;refine HR.out.mono ?_;rintro e w1 ⟨xo,xc,rfl,_,hb⟩;have HB:=hid hb;clear hb;go_wp2;go_ret2;exact⟨rfl,HB.out⟩
 ·obtain⟨f1,f2⟩:=ziT l h
  have HF:=hid f1;obtain⟨m,hm⟩:∃m,m=(txt l).length:=⟨_,rfl⟩;rw[<- hm] at f2 HR;have HM:=hid hm;clear f1 hm h;have t1:((m:Int)==0)=false:=beq_eq_false_iff_ne.2 (by omega)
  have t2:(0:Int)<(m:Int):=by omega
  go_enter Tryz.func179,Tryz.ntmps179;go_wp2_with fail;refine HR.out.mono ?_;rintro e w1 ⟨xo,xc,rfl,hr,hb⟩;have HB:=hid hb;obtain⟨g,rfl,_,c0,c1,c2⟩:=hr 0 _ HF.out;rw[Nat.zero_mul] at c0 c1 c2;rw[tA] at c1 c2
  dsimp only at c0 c1 c2
  obtain⟨r,her⟩:∃r,r=(dec l).1:=⟨_,rfl⟩;obtain⟨k,hek⟩:∃k,k=(dec l).2:=⟨_,rfl⟩;rw[<- her] at c0;rw[<- hek] at c2;have HER:=hid her;have HEK:=hid hek;clear hb hr her hek;go_wp2_with fail;go_region;go_wp2;go_ret2;exact⟨by rw[<- HER.out,<- HEK.out];rfl,HB.out.drew⟩
theorem rE (s:ByteArray) (l:List UInt8) (r:Int) (k:Nat) (w:sN) (hs:s=⟨l.toArray⟩) (hl:l.length<=1000000) (hr:r=((dec l).1:Nat)) (hk:k=(dec l).2):
  sV Tryz.prog 179 #[.string s] w fun e w'=>e= .returned (.tuple #[.int .i32 r,.int .i64 (k:Nat)])/\sQ w.heap.size w w':=by
 subst hs hr hk;exact first_any l w hl
def qdv (x:Int × Nat × Bool):tf:=.tuple #[.int .i32 x.1,.int .i64 (x.2.1:Nat),.bool x.2.2]
theorem zan {l:List UInt8} {p:Nat} (h:p<l.length):pre (l.drop p) [39]=decide (l[p]=39):=by
 have e:(l.drop p).take 1=[l[p]]:=by rw[sM h];rfl
 show decide ((l.drop p).take 1=[39])=_
 rw[e];exact Bool.eq_iff_iff.2 (by rw[decide_eq_true_iff,decide_eq_true_iff];exact⟨fun h=>by injection h,fun h=>by rw[h]⟩)
theorem mB (l:List UInt8) (p:Nat) (w:sN) (hp:p<=l.length) (hl:l.length<=100000):
  sV Tryz.prog 160 #[.string ⟨l.toArray⟩,.int .i64 p] w fun e w'=>e= .returned (qdv (ic l p))/\sQ w.heap.size w w':=by
 have HSZ:=hid (show(⟨l.toArray⟩:ByteArray).size=l.length by show l.toArray.size=_;simp)
 by_cases c0:p<l.length
 ·have hq:=zan c0
  have hszp:p<(⟨l.toArray⟩:ByteArray).size:=by rw[HSZ.out];exact c0
  have hb:(⟨l.toArray⟩:ByteArray)[p]'hszp=l[p]:=rfl;obtain⟨c,hc⟩:∃c,c=l[p]:=⟨_,rfl⟩;rw[<- hc] at hq hb
  by_cases c1:c=39
  ·subst c1
   rw[decide_eq_true rfl] at hq;have hin:=mo (l.drop (p+1));rw[sH] at hin;obtain⟨n,hn⟩:∃n,n=(dec (l.drop (p+1))).2:=⟨_,rfl⟩;obtain⟨r,hr⟩:∃r:Int,r=((dec (l.drop (p+1))).1:Nat):=⟨_,rfl⟩;have HQ:=hid (show ic l p=if n≠0/\p+1+n<l.length/\l.getD (p+1+n) 0=39 then (r,n,true) else (0,0,false) by
    unfold ic;rw[hq,<- hn,<- hr];simp only[true_and])
   rw[<- hn] at hin;have HF1:=hid (show ¬l.length<p+6->∀W,sV Tryz.prog 179 #[.string ((⟨l.toArray⟩:ByteArray).extract (p+1) (p+6))] W fun e w'=>e= .returned (.tuple #[.int .i32 r,.int .i64 (n:Nat)])/\sQ W.heap.size W w' from fun _ W=>
    rE _ ((l.drop (p+1)).take 5) r n W (ext_mid l (p+1) 5) (by rw[sK];omega) (by rw[rK _ 5 (by omega)];exact hr) (by rw[rK _ 5 (by omega)];exact hn))
   have HF2:=hid (show ∀W,sV Tryz.prog 179 #[.string ((⟨l.toArray⟩:ByteArray).extract (p+1) l.length)] W fun e w'=>e= .returned (.tuple #[.int .i32 r,.int .i64 (n:Nat)])/\sQ W.heap.size W w' from fun W=>
    rE _ (l.drop (p+1)) r n W (ext_drop l (p+1)) (by rw[sH];omega) hr hn)
   clear hn hr hq hc;have key:∀(w1:sN),sQ w.heap.size w w1->True:=fun _ _=>trivial
   clear key
   by_cases c2:l.length<p+6
   ·have c2':((l.length:Int)<(p:Int)+6):=by omega
    go_enter Tryz.func160,Tryz.ntmps160;go_wp2_with fail;refine(HF2.out _).mono ?_;rintro e w1 ⟨rfl,hb1⟩;have HB1:=hid hb1;clear hb1 HF1 HF2
    by_cases d1:n=0
    ·have HC:=hid (show ic l p=(0,0,false) by rw[HQ.out,if_neg (by simp[d1])])
     subst d1;go_wp2;go_ret3;exact⟨by rw[HC.out];rfl,HB1.out⟩
    ·have d1':((n:Int)==0)=false:=beq_eq_false_iff_ne.2 (by omega)
     by_cases d2:p+1+n<l.length
     ·have hszn:p+1+n<(⟨l.toArray⟩:ByteArray).size:=by rw[HSZ.out];exact d2
      have hbn:(⟨l.toArray⟩:ByteArray)[p+1+n]'hszn=l[p+1+n]:=rfl;have hgn:l.getD (p+1+n) 0=l[p+1+n]:=by simp[sW,sJ d2]
      rw[hgn] at HQ;have d2':¬(l.length:Int)<=(p:Int)+1+n:=by omega
      generalize l[p+1+n]=d at *
      by_cases d3:d=39
      ·subst d3
       have HC:=hid (show ic l p=(r,n,true) by rw[HQ.out,if_pos ⟨d1,d2,rfl⟩])
       clear HQ;go_wp2;go_ret3;exact⟨by rw[HC.out];rfl,HB1.out⟩
      ·have HC:=hid (show ic l p=(0,0,false) by rw[HQ.out,if_neg (by simp[d3])])
       have d3':((d.toNat:Int) != 39)=true:=bne_iff_ne.2 (fun e=>d3 (sO.1 (by show d.toNat=39;omega)))
       clear HQ d3;go_wp2;go_ret3;exact⟨by rw[HC.out];rfl,HB1.out⟩
     ·have HC:=hid (show ic l p=(0,0,false) by rw[HQ.out,if_neg (by simp[d2])])
      have d2':(l.length:Int)<=(p:Int)+1+n:=by omega
      go_wp2;go_ret3;exact⟨by rw[HC.out];rfl,HB1.out⟩
   ·have c2':¬((l.length:Int)<(p:Int)+6):=by omega
    have HF3:=hid (HF1.out c2);go_enter Tryz.func160,Tryz.ntmps160;go_wp2_with fail;refine(HF3.out _).mono ?_;rintro e w1 ⟨rfl,hb1⟩;have HB1:=hid hb1;clear hb1 HF1 HF2 HF3
    by_cases d1:n=0
    ·have HC:=hid (show ic l p=(0,0,false) by rw[HQ.out,if_neg (by simp[d1])])
     subst d1;go_wp2;go_ret3;exact⟨by rw[HC.out];rfl,HB1.out⟩
    ·have d1':((n:Int)==0)=false:=beq_eq_false_iff_ne.2 (by omega)
     by_cases d2:p+1+n<l.length
     ·have hszn:p+1+n<(⟨l.toArray⟩:ByteArray).size:=by rw[HSZ.out];exact d2
      have hbn:(⟨l.toArray⟩:ByteArray)[p+1+n]'hszn=l[p+1+n]:=rfl;have hgn:l.getD (p+1+n) 0=l[p+1+n]:=by simp[sW,sJ d2]
      rw[hgn] at HQ;have d2':¬(l.length:Int)<=(p:Int)+1+n:=by omega
      generalize l[p+1+n]=d at *
      by_cases d3:d=39
      ·subst d3
       have HC:=hid (show ic l p=(r,n,true) by rw[HQ.out,if_pos ⟨d1,d2,rfl⟩])
       clear HQ;go_wp2;go_ret3;exact⟨by rw[HC.out];rfl,HB1.out⟩
      ·have HC:=hid (show ic l p=(0,0,false) by rw[HQ.out,if_neg (by simp[d3])])
       have d3':((d.toNat:Int) != 39)=true:=bne_iff_ne.2 (fun e=>d3 (sO.1 (by show d.toNat=39;omega)))
       clear HQ d3;go_wp2;go_ret3;exact⟨by rw[HC.out];rfl,HB1.out⟩
     ·have HC:=hid (show ic l p=(0,0,false) by rw[HQ.out,if_neg (by simp[d2])])
      have d2':(l.length:Int)<=(p:Int)+1+n:=by omega
      go_wp2;go_ret3;exact⟨by rw[HC.out];rfl,HB1.out⟩
  ·rw[decide_eq_false c1] at hq
   have HC:=hid (show ic l p=(0,0,false) by unfold ic;rw[if_neg (by rw[hq];simp)])
   have c1':((c.toNat:Int) != 39)=true:=bne_iff_ne.2 (fun e=>c1 (sO.1 (by show c.toNat=39;omega)))
   clear hq hc c1;go_enter Tryz.func160,Tryz.ntmps160;go_wp2;go_ret3;exact⟨by rw[HC.out];rfl,td _ _⟩
 ·have HC:=hid (show ic l p=(0,0,false) by
   unfold ic;rw[if_neg];rintro ⟨h,_⟩;have:=kK h;rw[sH] at this
   simp only[sD,sL] at this
   omega)
  have c0':(l.length:Int)<=(p:Int):=by omega
  go_enter Tryz.func160,Tryz.ntmps160;go_wp2;go_ret3;exact⟨by rw[HC.out];rfl,td _ _⟩
def rsv (x:Int × Nat × Int × Nat):tf:=.tuple #[.int .i32 x.1,.int .i64 (x.2.1:Nat),.int .i64 x.2.2.1,.int .i64 (x.2.2.2:Nat)]
theorem zeS (c:UInt8) (v:Nat) (b:Bool) (w:sN) (hv:v=dgv c) (hb:b=dW c):
  sV Tryz.prog 181 #[.int .u8 (c.toNat:Int)] w fun e w'=>e= .returned (.tuple #[.int .i64 (v:Nat),.bool b])/\w'=w:=by
 subst hv hb;exact zkw c w
theorem kJ {l:List UInt8} {p:Nat} (h:p+1<l.length):pre (l.drop p) [85,43]=decide (l[p]=85/\l[p+1]=43):=by
 have e:(l.drop p).take 2=[l[p],l[p+1]]:=by rw[sM (by omega:p<l.length),sM h];rfl
 show decide ((l.drop p).take 2=[85,43])=_
 rw[e];exact Bool.eq_iff_iff.2 (by rw[decide_eq_true_iff,decide_eq_true_iff];exact⟨fun h=>by injection h with h1 h2;injection h2 with h2;exact⟨h1,h2⟩,fun h=>by rw[h.1,h.2]⟩)
theorem aE {fn:Func} {t u v x:Tmp} (h:fn.results=#[.tmp t,.tmp u,.tmp v,.tmp x]) (tmps:Array tf) (P:Program) (w:sN):
  (results fn tmps).run P w= .ok (.tuple #[tmps.getD t undef,tmps.getD u undef,tmps.getD v undef,tmps.getD x undef]) w:=by
 simp[results,h]
theorem zfD (l:List UInt8) (p:Nat) (r:Int) (n:Nat) (b:Bool) (w:sN) (hp:p<=l.length) (hl:l.length<=100000) (h:ic l p=(r,n,b)):
  sV Tryz.prog 160 #[.string ⟨l.toArray⟩,.int .i64 p] w fun e w'=>e= .returned (.tuple #[.int .i32 r,.int .i64 (n:Nat),.bool b])/\sQ w.heap.size w w':=by
 have:=mB l p w hp hl;rw[h] at this;exact this
end Dc
namespace Dc
def sh1 (x:Int × Nat × Int):Int × Nat × Int:=(x.1,x.2.1+1,x.2.2)
theorem pA (b:UInt8) (l:List UInt8) (p:Nat):(b::l).getD (p+1) 0=l.getD p 0:=rfl
theorem zoI (b:UInt8) (l:List UInt8) (p:Nat):cdd (b::l) (p+1)=sh1 (cdd l p):=by
 have e1:gj (b::l) (p+1+2)=gj l (p+2):=rfl;have e2:(b::l).drop (p+1+2)=l.drop (p+2):=rfl;unfold cdd;rw[e1,e2]
 split
 ·rfl
 ·split
  ·rfl
  ·unfold sh1
   refine Prod.ext rfl (Prod.ext ?_ rfl)
   show p+1+2+_=p+2+_+1
   omega
theorem zlN (b:UInt8) (l:List UInt8) (p:Nat):qtd (b::l) (p+1)=sh1 (qtd l p):=by
 have e2:(b::l).drop (p+1+1)=l.drop (p+1):=rfl;unfold qtd;rw[e2];obtain⟨n,hn⟩:∃n,n=(dec (l.drop (p+1))).2:=⟨_,rfl⟩;rw[<- hn];have e3:(b::l).getD (p+1+1+n) 0=l.getD (p+1+n) 0:=by
  rw[show p+1+1+n=(p+1+n)+1 by omega]
  rfl
 have e4:(p+1+1+n=(b::l).length)=(p+1+n=l.length):=by
  rw[sD];exact propext ⟨fun h=>by omega,fun h=>by omega⟩
 simp only[e3,e4]
 split
 ·rfl
 ·split
  ·rfl
  ·unfold sh1
   refine Prod.ext rfl (Prod.ext ?_ rfl)
   show p+1+1+n+1=p+1+n+1+1
   omega
theorem zbZ (b:UInt8) (l:List UInt8) (p:Nat):iN (b::l) (p+1)=sh1 (iN l p):=by
 have e1:(b::l).drop (p+1)=l.drop p:=rfl;unfold iN;rw[e1]
 split
 ·exact zoI b l p
 ·split
  ·exact zlN b l p
  ·rfl
theorem znD (b:UInt8) (l:List UInt8) (p:Nat):fe (b::l) (p+1)=((fe l p).1,(fe l p).2.1+1,(fe l p).2.2):=by
 unfold fe zes;rw[zbZ];obtain⟨x,hx⟩:∃x,x=iN l p:=⟨_,rfl⟩;rw[<- hx];have e1:(sh1 x).2.1=x.2.1+1:=rfl;have e2:(sh1 x).1=x.1:=rfl;have e3:(sh1 x).2.2=x.2.2:=rfl;rw[e1,e2,e3,zbZ b l (x.2.1+1)];obtain⟨y,hy⟩:∃y,y=iN l (x.2.1+1):=⟨_,rfl⟩;rw[<- hy];have f1:(sh1 y).2.1=y.2.1+1:=rfl;have f2:(sh1 y).1=y.1:=rfl;have f3:(sh1 y).2.2=y.2.2:=rfl;rw[f1,f2,f3];have e4:(x.2.1+1=(b::l).length)=(x.2.1=l.length):=by
  rw[sD];exact propext ⟨fun h=>by omega,fun h=>by omega⟩
 simp only[e4,pA]
 split
 ·rfl
 ·split
  ·rfl
  ·split
   ·rfl
   ·split
    ·rfl
    ·rfl
theorem lS (b:UInt8) (l:List UInt8):∀(f p:Nat) (acc:List Rg),(eG f (b::l) (p+1) acc).1=(eG f l p acc).1/\(eG f (b::l) (p+1) acc).2.1=(eG f l p acc).2.1
 | 0,_,_=>⟨rfl,rfl⟩
 | f+1,p,acc=>by
  have e4:(p+1=(b::l).length)=(p=l.length):=by
   rw[sD];exact propext ⟨fun h=>by omega,fun h=>by omega⟩
  unfold eG
  simp only[e4,pA,znD]
  obtain⟨x,hx⟩:∃x,x=fe l p:=⟨_,rfl⟩;rw[<- hx];have e5:(x.2.1+1<(b::l).length)=(x.2.1<l.length):=by
   rw[sD];exact propext ⟨fun h=>by omega,fun h=>by omega⟩
  simp only[e5]
  split
  ·exact⟨rfl,rfl⟩
  ·split
   ·exact lS b l f (p+1) acc
   ·split
    ·exact⟨rfl,rfl⟩
    ·split
     ·exact⟨rfl,rfl⟩
     ·exact lS b l f _ _
theorem qX (l:List UInt8):(kL (32::l)).1=(kL l).1/\(kL (32::l)).2.1=(kL l).2.1:=by
 have e:kL (32::l)=eG (l.length+1) (32::l) (0+1) []:=by
  show eG (l.length+1+1) (32::l) 0 []=_
  conv=>lhs;unfold eG
  rw[if_neg (by simp),if_pos (show(32::l).getD 0 0=32 from rfl)]
 rw[e];exact lS 32 l _ 0 []
end Dc
namespace Dc
open Go.RowKit
def kv (b:UInt8):Bool:=([32,9]:List UInt8).contains b
def rtr (l:List UInt8):List UInt8:=(l.reverse.dropWhile kv).reverse
def rtm (l:List UInt8):List UInt8:=rtr (l.dropWhile kv)
theorem oq (l:List UInt8):ss l=(rtr l).dropWhile kv:=rfl
theorem zci (b:UInt8) (r:List UInt8):rtr (b::r)=if rtr r=[] then (if kv b then [] else [b]) else b::rtr r:=by
 unfold rtr;rw[List.reverse_cons,List.dropWhile_append]
 by_cases h:r.reverse.dropWhile kv=[]
 ·rw[h]
  simp only[List.isEmpty_nil,List.reverse_nil,if_true]
  rw[sE]
  split<;>simp
 ·have h2:(r.reverse.dropWhile kv).isEmpty=false:=by
   cases h5:r.reverse.dropWhile kv with
   | nil=>exact absurd h5 h
   | cons=>rfl
  rw[h2,if_neg (by decide),if_neg (by simpa using h)]
  simp
theorem zht:∀l:List UInt8,rtm l=ss l
 | []=>rfl
 | b::r=>by
  rw[oq];unfold rtm
  by_cases hb:kv b=true
  ·have ih:=zht r
   rw[oq] at ih;unfold rtm at ih;rw[sE,if_pos hb,ih,zci,if_pos hb]
   split
   ·rename_i h;rw[h]
   ·rw[sE,if_pos hb]
  ·rw[sE,if_neg hb,zci,if_neg hb]
   split
   ·rw[sE,if_neg hb]
   ·rw[sE,if_neg hb]
theorem fD (l:List UInt8) (b:UInt8):rtr (l++[b])=if kv b then rtr l else l++[b]:=by
 unfold rtr;rw[List.reverse_append]
 show((b::l.reverse).dropWhile kv).reverse=_
 rw[sE]
 split<;>simp
set_option maxRecDepth 100000 in
theorem zkC (b:UInt8) (w:sN):sV Tryz.prog 161 #[.int .u8 (b.toNat:Int)] w fun e w'=>e= .returned (.bool (kv b))/\w'=w:=by
 by_cases h1:b=32
 ·subst h1
  go_enter Tryz.func161,Tryz.ntmps161;go_wp2;go_ret;exact⟨rfl,rfl⟩
 ·have h1':((b.toNat:Int)==32)=false:=beq_eq_false_iff_ne.2 (fun e=>h1 (sO.1 (show b.toNat=32 by omega)))
  by_cases h2:b=9
  ·subst h2
   go_enter Tryz.func161,Tryz.ntmps161;go_wp2;go_ret;exact⟨rfl,rfl⟩
  ·have h2':((b.toNat:Int)==9)=false:=beq_eq_false_iff_ne.2 (fun e=>h2 (sO.1 (show b.toNat=9 by omega)))
   have HV:=hid (show kv b=false by unfold kv;simp[h1,h2])
   go_enter Tryz.func161,Tryz.ntmps161;go_wp2;go_ret;exact⟨by rw[HV.out];rfl,rfl⟩
end Dc
namespace Dc
open Go.RowKit
def dgU (d:Nat):UInt8:=UInt8.ofNat (if d<10 then 48+d else 55+d)
def hxL:Nat->Nat->List UInt8
 | 0,_=>[]
 | k+1,n=>hxL k (n / 16)++[dgU (n % 16)]
def wdt (n:Nat):Nat:=if n<65536 then 4 else if n<1048576 then 5 else 6
def hex (n:Nat):List UInt8:=hxL (wdt n) n
end Dc
namespace Dc
open Go.RowKit
def ovl (g h:Rg):Bool:=decide (g.1<=h.2)&&decide (h.1<=g.2)
def mtR (l m:List Rg):Bool:=l.any fun g=>m.any fun h=>ovl g h
theorem rV {α:Type} (p:α->Bool) (l:List α) (k:Nat) (hk:k<l.length):(l.take (k+1)).any p=((l.take k).any p || p l[k]):=by
 rw[List.take_succ_eq_append_getElem hk,List.any_append]
 simp
theorem zcQ (ao bo:Option Addr) (ac bc:Nat) (l m:List Rg) (w:sN) (ha:RdR w ao l) (hb:RdR w bo m) (hl:l.length<=1000000000000) (hml:m.length<=1000000000000):
  sV Tryz.prog 138 #[.slice ao l.length ac,.slice bo m.length bc] w fun e w'=>e= .returned (.bool (mtR l m))/\sQ w.heap.size w w':=by
 have HA:=hid ha;have HB:=hid hb;clear ha hb;go_enter Tryz.func138,Tryz.ntmps138;go_wp2;go_loopw [5,6] (fun x _ wr=>∃i:Nat,i<=l.length/\x= .int .i64 i/\Hid (((l.take i).any fun g=>m.any fun h=>ovl g h)=false)/\sQ w.heap.size w wr) (fun x _ _=>l.length - (intOf x).toNat)
 case atStart=>exact⟨0,by omega,rfl,rfl,td _ _⟩
 case round=>
  obtain⟨i,hi,rfl,HE,hBr⟩:=hrel
  by_cases hlt:i<l.length
  ·have HT1:=hid (rV (fun g=>m.any fun h=>ovl g h) l i hlt)
   have HM1:=hid (tn hlt);have HG:=hid (show ∀W,sQ w.heap.size w W->∃a,ao=some a/\a.block<W.heap.size/\W.cell? (a.add (i * 2))=some (.int .i32 l[i].1)/\W.cell? ⟨(a.add (i * 2)).block,(a.add (i * 2)).off+1,none⟩=some (.int .i32 l[i].2) from fun W hW=>HA.out.below hW i l[i] (sJ hlt))
   generalize l[i]=g at HT1 HM1 HG
   obtain⟨g0,g1⟩:=g
   dsimp only at HG
   obtain⟨wo,hwo⟩:∃wo,wo=wr:=⟨_,rfl⟩;rw[<- hwo] at hBr⊢;clear hwo;have HBo:=hid hBr;clear hBr;go_wp2;go_loopw [6] (fun y wr=>∃k:Nat,k<=m.length/\y= .int .i64 k/\Hid (((m.take k).any fun h=>ovl (g0,g1) h)=false)/\sQ w.heap.size w wr) (fun y _=>m.length - (intOf y).toNat)
   case atStart=>exact⟨0,by omega,rfl,rfl,HBo.out⟩
   case round=>
    obtain⟨k,hk,rfl,HE2,hBr⟩:=hrel
    by_cases hkt:k<m.length
    ·have HT2:=hid (rV (fun h=>ovl (g0,g1) h) m k hkt)
     have HM2:=hid (tn hkt);obtain⟨a,rfl,ha,a0,a1⟩:=HG.out wr hBr;obtain⟨b,rfl,hb,b0,b1⟩:=HB.out.below hBr k m[k] (sJ hkt)
     generalize m[k]=h at HT2 HM2 b0 b1
     obtain⟨h0,h1⟩:=h
     dsimp only at b0 b1 HT2
     by_cases q0:g0<=h1
     ·have d0:decide (g0<=h1)=true:=decide_eq_true q0
      by_cases q1:h0<=g1
      ·have d1:decide (h0<=g1)=true:=decide_eq_true q1
       have HZ:=hid (show mtR l m=true by
        unfold mtR;exact tp.2 ⟨_,HM1.out,tp.2 ⟨_,HM2.out,by unfold ovl;simp[q0,q1]⟩⟩)
       go_wp2_with fail;go_region
       all_goals
        go_wp2;go_ret;exact⟨by rw[HZ.out];rfl,hBr.drew⟩
      ·have d1:decide (h0<=g1)=false:=decide_eq_false q1
       have q1':g1<h0:=by omega
       have HZ:=hid (show((m.take (k+1)).any fun h=>ovl (g0,g1) h)=false by rw[HT2.out,HE2.out];unfold ovl;simp[q0];omega)
       go_wp2_with fail;go_region
       all_goals
        go_wp2;go_roundw
        case rel=>exact⟨k+1,by omega,by go_num,HZ,hBr.drew⟩
        case measure=>simp[intOf];omega
     ·have d0:decide (g0<=h1)=false:=decide_eq_false q0
      have q0':h1<g0:=by omega
      have HZ:=hid (show((m.take (k+1)).any fun h=>ovl (g0,g1) h)=false by rw[HT2.out,HE2.out];unfold ovl;simp;omega)
      go_wp2_with fail;go_region
      all_goals
       go_wp2;go_roundw
       case rel=>exact⟨k+1,by omega,by go_num,HZ,hBr.drew⟩
       case measure=>simp[intOf];omega
    ·have HZ:=hid (show((l.take (i+1)).any fun g=>m.any fun h=>ovl g h)=false by
      rw[HT1.out,HE.out];have h5:=HE2.out;rw[sU (by omega)] at h5
      rw[h5];rfl)
     go_wp2;go_roundw
     case rel=>exact⟨i+1,by omega,by go_num,HZ,hBr⟩
     case measure=>simp[intOf];omega
  ·have HZ:=hid (show mtR l m=false by
    have h5:=HE.out;rw[sU (by omega)] at h5
    exact h5)
   go_wp2;go_ret;exact⟨by rw[HZ.out];rfl,hBr⟩
end Dc
end Go.Proofs.YtbbapnpdfcgjnaaGreatDoor
