/- DcC: parts of the proof, joined. -/
import Derived.LoopIn
import Derived.LoopNIn
import Derived.OwnWalkIn
import Derived.RangeFuncBound
import Derived.RangeFuncNested
import Derived.Shelf.RegionOpen
import Derived.Lib.SlTrimSet
import Derived.Test.YtbbapnpdfcgjnaaGreatDoorWDcB
open List renaming length_cons->sD, dropWhile_cons->sE, getElem?_append_right->sG, length_drop->sH, getElem?_eq_getElem->sJ, length_take->sK, length_nil->sL, drop_eq_getElem_cons->sM, take_of_length_le->sU, getD->sW, length_pos_iff->sX, length_append->td, getElem_mem->tq, any_eq_true->tr, length->tu, length_set->tw, mem_range->tA
open Array renaming getElem?_eq_some_iff->sI
open Go renaming World->sN, Calls->sV, Value->tg, wpList_append_own->tk, TypeId->tC
open UInt8 renaming toNat_inj->sO
open Go.Lib renaming decodeN->sP, decodeL_N->ta
open Go.RowKit renaming Below->sQ
open Go.Utf8 renaming decode->sR
open Classical renaming not_not->sS
open Nat renaming le_refl->sT, lt_irrefl->sZ, le_trans->ti, sub_self->tj, le_of_succ_le->tn, zero_add->tD
open Go.World renaming iterPos->sY, putObj->tf
open Go.RowKit.Below renaming refl->te, heap_alloc->tp
set_option maxHeartbeats 64000000
namespace Go.Proofs.YtbbapnpdfcgjnaaGreatDoor
namespace Dc
open Go.RowKit Go.Shelf
attribute [local go_sem] Oper.semAt_some
theorem zdU{P:Program}(w:sN)(it:Nat)(s:ByteArray)(pos:Nat)(ty:tC)(hit:w.heap[it]?=some (.stringIter s pos))(h:pos<s.size):
  (Instr.next (.pointer (some ⟨it,0,none⟩)) true ty).run P w=.ok (.tuple #[.bool true,.int .i64 pos,.int .i32 (sR s pos).1]) (w.putObj it (.stringIter s (pos+(sR s pos).2))):=by
 simp[Instr.next,getObj,setObj,Sem.run_bind,Sem.run,hit,Result.andThen,h,goInt,tf]
theorem rB{P:Program}(w:sN)(it:Nat)(s:ByteArray)(pos:Nat)(ty:tC)(hit:w.heap[it]?=some (.stringIter s pos))(h:¬pos<s.size):
  (Instr.next (.pointer (some ⟨it,0,none⟩)) true ty).run P w=.ok (.tuple #[.bool false]) w:=by
 simp[Instr.next,getObj,Sem.run,hit,h]
end Dc
namespace Dc
open Go.RowKit
def jd(l:List UInt8)(p:Nat):Int×Nat×Int:=
 if pre (l.drop p) [85,43]=true then cdd l p else if pre (l.drop p) [39]=true then qtd l p else (0,p,21)
theorem lw{l q:List UInt8}(h:pre l q=true):q.length<=l.length:=by unfold pre at h;have:=congrArg tu (of_decide_eq_true h);rw[sK]at this;omega
theorem zvl(l:List UInt8)(p:Nat)(hp:p+2<=l.length):(cdd l p).2.1<=l.length/\0<=(cdd l p).1/\(cdd l p).1<=1114111/\((cdd l p).2.2=0->p<(cdd l p).2.1)/\0<=(cdd l p).2.2/\(cdd l p).2.2<=84:=by
 have h:=zuW l (p+2);unfold cdd;split
 ·refine⟨?_,?_,?_,?_,?_,?_⟩<;>(dsimp only;omega)
 ·split
  ·refine⟨?_,?_,?_,?_,?_,?_⟩<;>(dsimp only;omega)
  ·refine⟨?_,?_,?_,?_,?_,?_⟩<;>(dsimp only;omega)
theorem zuv(l:List UInt8)(p:Nat)(hp:p+1<=l.length):(qtd l p).2.1<=l.length/\0<=(qtd l p).1/\(qtd l p).1<=1114111/\((qtd l p).2.2=0->p<(qtd l p).2.1)/\0<=(qtd l p).2.2/\(qtd l p).2.2<=84:=by
 have h:=mW (l.drop (p+1));rw[sH]at h;unfold qtd;split
 ·refine⟨?_,?_,?_,?_,?_,?_⟩<;>(dsimp only;omega)
 ·rename_i hc;split
  ·refine⟨?_,?_,?_,?_,?_,?_⟩<;>(dsimp only;omega)
  ·have hne:l.drop (p+1)≠ []:=fun e=>by apply hc;left;rw[e];rfl
   have hr:=dec_rune _ hne;have h3:¬p+1+(dec (l.drop (p+1))).2=l.length:=fun e=>hc (.inr (.inl e));refine⟨?_,?_,?_,?_,?_,?_⟩<;>(dsimp only;omega)
theorem zbm(l:List UInt8)(p:Nat)(hp:p<=l.length):(jd l p).2.1<=l.length/\0<=(jd l p).1/\(jd l p).1<=1114111/\((jd l p).2.2=0->p<(jd l p).2.1)/\0<=(jd l p).2.2/\(jd l p).2.2<=84:=by
 unfold jd;split
 ·rename_i h;have:=lw h;rw[sH]at this;simp only[sD,sL]at this;exact zvl l p (by omega)
 ·split
  ·rename_i h;have:=lw h;rw[sH]at this;simp only[sD,sL]at this;exact zuv l p (by omega)
  ·refine⟨?_,?_,?_,?_,?_,?_⟩<;>(dsimp only;omega)
def zeM(l:List UInt8)(p:Nat)(x:Int×Nat×Int)(y:Nat->Int×Nat×Int):Rg×Nat×Int:=
 if x.2.2≠0 then ((0,0),x.2.1,x.2.2)
 else if x.2.1=l.length\/l.getD x.2.1 0≠45 then ((x.1,x.1),x.2.1,0)
 else if (y (x.2.1+1)).2.2≠0 then ((0,0),(y (x.2.1+1)).2.1,(y (x.2.1+1)).2.2)
 else if (y (x.2.1+1)).1<x.1 then ((0,0),p,20)
 else ((x.1,(y (x.2.1+1)).1),(y (x.2.1+1)).2.1,0)
def fg(l:List UInt8)(p:Nat):Rg×Nat×Int:=zeM l p (jd l p) (jd l)
end Dc
namespace Dc
open Go.RowKit
theorem zgY(l:List UInt8)(p:Nat)(hp:p<=l.length):(fg l p).2.1<=l.length/\((fg l p).2.2=0->p<(fg l p).2.1)/\0<=(fg l p).2.2/\(fg l p).2.2<=84:=by
 obtain⟨b1,b2,b3,b4,b5,b6⟩:=zbm l p hp;unfold fg zeM;split
 ·exact⟨b1,fun h=>b4 h,b5,b6⟩
 ·rename_i h0;have h0':(jd l p).2.2=0:=sS.1 h0;split
  ·have:=b4 h0';refine⟨?_,?_,?_,?_⟩<;>(dsimp only;omega)
  ·rename_i h1;have hn:¬(jd l p).2.1=l.length:=fun e=>h1 (.inl e);obtain⟨d1,d2,d3,d4,d5,d6⟩:=zbm l ((jd l p).2.1+1) (by omega);have hb4:=b4 h0';split
   ·exact⟨d1,fun h=>by have:=d4 h;dsimp only;omega,d5,d6⟩
   ·rename_i h2;have h2':(jd l ((jd l p).2.1+1)).2.2=0:=sS.1 h2;have hd4:=d4 h2';split
    ·refine⟨?_,?_,?_,?_⟩<;>(dsimp only;omega)
    ·refine⟨?_,?_,?_,?_⟩<;>(dsimp only;omega)
theorem j5{w w':sN}{base:Nat}{e:tC}{size:Nat}{v:tg}{n:Nat}{xs:List tg}(h:w.ownsRow base e size v n xs)(hb:sQ w.heap.size w w'):w'.ownsRow base e size v n xs:=by
 refine⟨h.1,?_⟩;rcases h.2 with h0|⟨g,cap,cur,hv,hbg,hg,hr⟩
 ·exact .inl h0
 ·exact .inr ⟨g,cap,cur,hv,hbg,(hb.block g (sI.1 hg).1).trans hg,hr⟩
def eK:Nat->List UInt8->Nat->List Rg->List Rg×Int×Nat
 |0,_,_,_=>([],0,0)
 |f+1,l,p,acc=>
  if p=l.length then (oE acc,0,0)
  else if l.getD p 0=32 then eK f l (p+1) acc
  else if (fg l p).2.2≠0 then ([],(fg l p).2.2,(fg l p).2.1)
  else if (fg l p).2.1<l.length/\l.getD (fg l p).2.1 0≠32 then ([],21,(fg l p).2.1)
  else eK f l (fg l p).2.1 (acc++[(fg l p).1])
def lB(l:List UInt8):List Rg×Int×Nat:=eK (l.length+1) l 0 []
def Prs(l:List UInt8)(p:Nat)(acc:List Rg):Prop:=∃f,l.length-p<f/\eK f l p acc=lB l
theorem Prs.start(l:List UInt8):Prs l 0 []:=⟨l.length+1,by omega,rfl⟩
theorem Prs.done{l:List UInt8}{p:Nat}{acc:List Rg}(h:Prs l p acc)(hp:p=l.length):lB l=(oE acc,0,0):=by obtain⟨f,h1,h2⟩:=h;obtain⟨f,rfl⟩:∃f',f=f'+1:=⟨f-1,by omega⟩;rw[<-h2,eK,if_pos hp]
theorem Prs.blank{l:List UInt8}{p:Nat}{acc:List Rg}(h:Prs l p acc)(hp:p<l.length)(hb:l.getD p 0=32):Prs l (p+1) acc:=by obtain⟨f,h1,h2⟩:=h;obtain⟨f,rfl⟩:∃f',f=f'+1:=⟨f-1,by omega⟩;rw[eK,if_neg (by omega),if_pos hb]at h2;exact⟨f,by omega,h2⟩
theorem Prs.wrong{l:List UInt8}{p:Nat}{acc:List Rg}(h:Prs l p acc)(hp:p<l.length)(hb:l.getD p 0≠32)(he:(fg l p).2.2≠0):lB l=([],(fg l p).2.2,(fg l p).2.1):=by obtain⟨f,h1,h2⟩:=h;obtain⟨f,rfl⟩:∃f',f=f'+1:=⟨f-1,by omega⟩;rw[<-h2,eK,if_neg (by omega),if_neg hb,if_pos he]
theorem Prs.stuck{l:List UInt8}{p:Nat}{acc:List Rg}(h:Prs l p acc)(hp:p<l.length)(hb:l.getD p 0≠32)(he:(fg l p).2.2=0)(hs:(fg l p).2.1<l.length/\l.getD (fg l p).2.1 0≠32):lB l=([],21,(fg l p).2.1):=by obtain⟨f,h1,h2⟩:=h;obtain⟨f,rfl⟩:∃f',f=f'+1:=⟨f-1,by omega⟩;rw[<-h2,eK,if_neg (by omega),if_neg hb,if_neg (fun e=>e he),if_pos hs]
theorem Prs.more{l:List UInt8}{p:Nat}{acc:List Rg}(h:Prs l p acc)(hp:p<l.length)(hb:l.getD p 0≠32)(he:(fg l p).2.2=0)(hs:¬((fg l p).2.1<l.length/\l.getD (fg l p).2.1 0≠32)):Prs l (fg l p).2.1 (acc++[(fg l p).1]):=by obtain⟨f,h1,h2⟩:=h;obtain⟨f,rfl⟩:∃f',f=f'+1:=⟨f-1,by omega⟩;have hm:=(zgY l p (by omega)).2.1 he;rw[eK,if_neg (by omega),if_neg hb,if_neg (fun e=>e he),if_neg hs]at h2;exact⟨f,by omega,h2⟩
end Dc
namespace Dc
open Go.RowKit
def ltr(b:Nat):Bool:=decide (65<=b/\b<=90)||decide (97<=b/\b<=122)
def mH(i b:Nat):Bool:=ltr b||(decide (0<i)&&(decide (48<=b/\b<=57)||decide (b=95)))
def rF(l:List UInt8):Bool:=decide (1<=l.length)&&decide (l.length<=32)&&(List.range l.length).all fun i=>mH i (l.getD i 0).toNat
theorem kA(l:List UInt8)(i:Nat)(b:UInt8)(h:l[i]?=some b)(hb:mH i b.toNat=false):rF l=false:=by have hi:=(List.getElem?_eq_some_iff.1 h).1;unfold rF;rw[Bool.and_eq_false_iff];right;rw[List.all_eq_false];exact⟨i,tA.2 hi,by simp[sW,h,hb]⟩
theorem zqQ(l:List UInt8)(h0:1<=l.length)(h1:l.length<=32)(h:∀i b,l[i]?=some b->mH i b.toNat=true):rF l=true:=by unfold rF;rw[decide_eq_true h0,decide_eq_true h1];simp only[Bool.true_and,List.all_eq_true,tA];intro i hi;exact h i _ (by simp[sW,hi])
theorem ziF(l:List UInt8)(h:l.length=0\/32<l.length):rF l=false:=by
 unfold rF;rcases h with h|h
 ·rw[decide_eq_false (show ¬1<=l.length by omega)];rfl
 ·rw[decide_eq_false (show ¬l.length<=32 by omega)];simp
theorem oG(i b:Nat)(h:(65<=b/\b<=90)\/(97<=b/\b<=122)\/(0<i/\48<=b/\b<=57)\/(0<i/\b=95)):mH i b=true:=by
 unfold mH ltr;rcases h with h|h|h|h
 ·rw[decide_eq_true h];rfl
 ·rw[decide_eq_true h];simp
 ·rw[decide_eq_true h.1,decide_eq_true h.2];simp
 ·rw[decide_eq_true h.1,decide_eq_true h.2];simp
theorem eM(i b:Nat)(h:¬((65<=b/\b<=90)\/(97<=b/\b<=122)\/(0<i/\48<=b/\b<=57)\/(0<i/\b=95))):mH i b=false:=by
 unfold mH ltr;rw[decide_eq_false (show ¬(65<=b/\b<=90) by omega),decide_eq_false (show ¬(97<=b/\b<=122) by omega)];by_cases h0:0<i
 ·rw[decide_eq_false (show ¬(48<=b/\b<=57) by omega),decide_eq_false (show ¬b=95 by omega)];simp
 ·rw[decide_eq_false h0];rfl
end Dc
namespace Dc
def tls(l:List UInt8):List UInt8:=Lib.trimS l [32,9]
def cE(l:List UInt8):List UInt8:=tls (l.take (fi 35 l))
def rnm(l:List UInt8):List UInt8:=tls (l.drop (fi 59 l+1))
def rsp(l:List UInt8):List UInt8:=(l.take (fi 59 l)).map tbl
def rgT(c:Nat)(g:Rg):Tr:=(g.1.toNat,g.2.toNat,c)
def kY:List Tr->List Rg->Nat->Option (List Tr)
 |S,[],_=>some S
 |S,g::G,c=>(gG S (rgT c g)).bind fun S'=>kY S' G c
def rC(U:List (List UInt8))(S:List Tr)(l:List UInt8):Int×List (List UInt8)×List Tr:=
 if cE l=[]then (0,U,S)
 else if fi 59 (cE l)=(cE l).length then (42,U,S)
 else if rF (rnm (cE l))=false\/rnm (cE l)=oth then (40,U,S)
 else if (lB (rsp (cE l))).2.1≠0 then ((lB (rsp (cE l))).2.1,U,S)
 else if (gz (rnm (cE l)) U).2=64 then (6,U,S)
 else match kY S (lB (rsp (cE l))).1 (gz (rnm (cE l)) U).2 with
  |none=>(41,U,S)
  |some S'=>(0,(gz (rnm (cE l)) U).1,S')
theorem zhi(p:UInt8->Bool):∀l:List UInt8,(l.dropWhile p).length<=l.length
 |[]=>by simp
 |b::l=>by
  have ih:=zhi p l;rw[sE];split
  ·simp;omega
  ·simp
theorem zhW(l:List UInt8):(tls l).length<=l.length:=by unfold tls Lib.trimS Lib.trimLeftS Lib.trimRightS;refine ti (zhi _ _) ?_;rw[List.length_reverse];refine ti (zhi _ _) ?_;simp
theorem zec(l:List UInt8):(cE l).length<=l.length:=ti (zhW _) (by simp;omega)
theorem zqC(l:List UInt8):(rsp l).length<=l.length:=by unfold rsp;simp;omega
theorem ziw:∀(f:Nat)(l:List UInt8)(p:Nat)(acc:List Rg),nf (eK f l p acc).1
 |0,l,p,acc=>by unfold eK;exact trivial
 |f+1,l,p,acc=>by
  unfold eK
  repeat' split
  all_goals first
   |exact trivial
   |exact d8 _
   |exact ziw f l _ _
theorem zuB(l:List UInt8):nf (lB l).1:=ziw _ _ _ _
theorem mG(G:List Rg)(h:nf G)(g:Rg)(hg:g∈G):0<=g.1/\g.1<=g.2/\g.2<=1114111:=by obtain⟨j,hj⟩:=List.getElem?_of_mem hg;have h5:=znF h hj;exact⟨h5.1,h5.2.1,h5.2.2⟩
end Dc
namespace Dc
open Go.RowKit
abbrev rK:=Int×Nat×Nat
def nxt(e:Nat):List (Nat×Int)->Nat
 |[]=>e
 |y::_=>y.1
def cls(e:Nat):List (Nat×Int)->List rK
 |[]=>[]
 |x::t=>(x.2,x.1,nxt e t)::cls e t
theorem dB(e:Nat):∀xs,(cls e xs).length=xs.length
 |[]=>rfl
 |x::t=>by rw[cls,sD,sD,dB e t]
theorem gi(e:Nat)(y:Nat×Int):∀xs,cls e (xs++[y])=cls y.1 xs++[(y.2,y.1,e)]
 |[]=>rfl
 |[x]=>rfl
 |x::z::t=>by have ih:=gi e y (z::t);rw[List.cons_append,cls,ih];rfl
def txt(l:List UInt8):List rK:=cls l.length (plr l 0)
def tpc(x:rK):List tg:=[.int .i32 x.1,.int .i64 x.2.1,.int .i64 x.2.2]
def dH(l:List rK):List tg:=l.flatMap tpc
theorem zkq(l:List rK)(g:rK):dH (l++[g])=dH l++tpc g:=by simp[dH]
theorem zdB:∀l:List rK,(dH l).length=l.length*3
 |[]=>rfl
 |g::l=>by show(tpc g++dH l).length=_;rw[td,zdB l,sD];show 3+_=_;omega
theorem zhS(g:rK):∀u∈tpc g,u.oneCell'=true:=by intro u hu;simp[tpc]at hu;rcases hu with rfl|rfl|rfl<;>rfl
theorem zdC:∀(l:List rK)(k:Nat)(g:rK),l[k]?=some g->(dH l)[k*3]?=some (.int .i32 g.1)/\(dH l)[k*3+1]?=some (.int .i64 g.2.1)/\(dH l)[k*3+2]?=some (.int .i64 g.2.2)
 |[],_,_,h=>by cases h
 |x::l,0,g,h=>by cases h;exact⟨rfl,rfl,rfl⟩
 |x::l,k+1,g,h=>by
  have ih:=zdC l k g h;have e1:(k+1)*3=k*3+3:=by omega
  show(tpc x++dH l)[(k+1)*3]?=_/\(tpc x++dH l)[(k+1)*3+1]?=_/\(tpc x++dH l)[(k+1)*3+2]?=_;rw[e1,sG (by simp[tpc]),sG (by simp[tpc]),sG (by simp[tpc])];simpa[tpc]using ih
theorem zdA:∀(l:List rK)(i:Nat)(a:Int)(b c d:Nat),l[i]?=some (a,b,d)->(dH l).set (i*3+2) (.int .i64 c)=dH (l.set i (a,b,c))
 |[],_,_,_,_,_,h=>by cases h
 |x::l,0,a,b,c,d,h=>by cases h;rfl
 |x::l,i+1,a,b,c,d,h=>by
  have ih:=zdA l i a b c d h;have e1:(i+1)*3=i*3+3:=by omega
  show(tpc x++dH l).set ((i+1)*3+2) _=tpc x++dH (l.set i (a,b,c));rw[<-ih,e1];rfl
def RdT(w:sN)(ao:Option Addr)(l:List rK):Prop:=
 ∀(k:Nat)(x:rK),l[k]?=some x->∃g,ao=some ⟨g,0,none⟩/\g<w.heap.size/\w.cell? ⟨g,k*3,none⟩=some (.int .i32 x.1)/\w.cell? ⟨g,k*3+1,none⟩=some (.int .i64 x.2.1)/\w.cell? ⟨g,k*3+2,none⟩=some (.int .i64 x.2.2)
theorem RdT.below{w w':sN}{ao:Option Addr}{l:List rK}(h:RdT w ao l)(hb:sQ w.heap.size w w'):RdT w' ao l:=fun k x hk=>by obtain⟨g,h1,h2,h3,h4,h5⟩:=h k x hk;exact⟨g,h1,Nat.lt_of_lt_of_le h2 hb.size,(hb.cell (p:=⟨g,k*3,none⟩) h2).trans h3,(hb.cell (p:=⟨g,k*3+1,none⟩) h2).trans h4,(hb.cell (p:=⟨g,k*3+2,none⟩) h2).trans h5⟩
theorem kv{w:sN}{B:Nat}{v:tg}{l:List rK}(h:w.ownsRow B 77 3 v l.length (dH l)):∃ao cap,v=.slice ao l.length cap/\(0<l.length->∃g,ao=some ⟨g,0,none⟩/\B<=g/\g<w.heap.size)/\RdT w ao l:=by
 rcases h.2 with ⟨h1,h2⟩|⟨g,cap,cur,h1,h2,h3,h4,h5,h6,h7⟩
 ·have hl:l=[]:=List.length_eq_zero_iff.1 h2;subst hl;exact⟨none,0,h1,fun h=>by simp at h,fun k x hk=>by cases hk⟩
 ·have hg:=(sI.1 h3).1;refine⟨some ⟨g,0,none⟩,cap,h1,fun _=>⟨g,rfl,h2,hg⟩,fun k x hk=>⟨g,rfl,hg,?_⟩⟩;obtain⟨e1,e2,e3⟩:=zdC l k x hk;have hc:∀j u,(dH l)[j]?=some u->w.cell? ⟨g,j,none⟩=some u:=fun j u hj=>by have:=h.cells (g:=g) (by rw[h1];rfl) j u hj;rw[show(⟨g,0,none⟩:Addr).add j=⟨g,j,none⟩ by unfold Addr.add;split<;>simp_all]at this;exact this
  exact⟨hc _ _ e1,hc _ _ e2,hc _ _ e3⟩
theorem zea{w:sN}{B g n cap:Nat}{l:List rK}(h:w.ownsRow B 77 3 (.slice (some ⟨g,0,none⟩) n cap) l.length (dH l))(j:Nat):w.frozen? ⟨g,j,none⟩=false:=by
 rcases h.2 with ⟨h1,_⟩|⟨g',cap',cur,h1,_,h3,_⟩
 ·cases h1
 ·cases h1;exact frozen_of_row w g j cur 77 h3
theorem znb{w:sN}{B g n cap:Nat}{l:List rK}(h:w.ownsRow B 77 3 (.slice (some ⟨g,0,none⟩) n cap) l.length (dH l))(i:Nat)(a:Int)(b c d:Nat)(hi:l[i]?=some (a,b,d)):
  (w.setCell ⟨g,i*3+2,none⟩ (.int .i64 c)).ownsRow B 77 3 (.slice (some ⟨g,0,none⟩) n cap) (l.set i (a,b,c)).length (dH (l.set i (a,b,c))):=by
 rcases h.2 with ⟨h1,_⟩|⟨g',cap',cur,h1,h2,h3,h4,h5,h6,h7⟩
 ·cases h1
 ·cases h1;have s1:=Lib.heap_setCell_same (i:=i*3+2) h3 (.int .i64 c);rw[tw];refine⟨?_,Or.inr ⟨g,cap,_,rfl,h2,s1,h4,h5,by simp[h6],?_⟩⟩
  ·rw[zdB,tw]
  ·rw[<-zdA l i a b c d hi,<-h7];simp[List.take_set]
theorem zkv(P:List rK)(x y:rK):(P++[x]).set P.length y=P++[y]:=by rw[List.set_append_right _ _ (sT _),tj];rfl
theorem zkx{w w':sN}{B:Nat}{e:tC}{size:Nat}{v:tg}{n:Nat}{xs:List tg}{k:Nat}(h:w.ownsRow B e size v n xs)(hg:w.grownBy w' (some k))(hk:∀j,v.ownBlock=some j->j≠k):w'.ownsRow B e size v n xs:=by
 refine⟨h.1,?_⟩;rcases h.2 with h0|⟨g,cap,cur,hv,hb,hgg,hr⟩
 ·exact Or.inl h0
 ·exact Or.inr ⟨g,cap,cur,hv,hb,(hg.block g (sI.1 hgg).1 (fun e=>by injection e with e;exact hk g (by rw[hv];rfl) e)).trans hgg,hr⟩
theorem zuL(w:sN)(g:rK)(T:tC):∀j u,(tpc g)[j]?=some u->(w.alloc (.cells #[.int .i32 g.1,.int .i64 g.2.1,.int .i64 g.2.2] T)).cell? ((⟨w.heap.size,0,none⟩:Addr).add j)=some u:=fun j u hj=>by rw[show(⟨w.heap.size,0,none⟩:Addr).add j=⟨w.heap.size,j,none⟩ by unfold Addr.add;split<;>simp_all];rw[cell_of_row _ w.heap.size j #[.int .i32 g.1,.int .i64 g.2.1,.int .i64 g.2.2] T (0,0) (show(w.heap.push _)[w.heap.size]?=_ by simp)];rw[<-hj];simp[tpc]
theorem Tryz.infoRRune:(Tryz.prog.info? 77).map (fun i=>(i.zero,i.size,i.bytes))=some (some (.agg #[.int .i32 0,.int .i64 0,.int .i64 0]),3,24):=by kernel_rfl
set_option maxRecDepth 100000 in
theorem zgo(l:List UInt8)(w:sN)(hl:l.length<=1000000):
  sV Tryz.prog 60 #[.string ⟨l.toArray⟩] w fun e w'=>∃v,e=.returned v/\w'.ownsRow w.heap.size 77 3 v (txt l).length (dH (txt l))/\sQ w.heap.size w w':=by
 obtain⟨i0,hi,hz0,hz1,hz2⟩:=info_parts Tryz.infoRRune;have HSZ:ae ((⟨l.toArray⟩:ByteArray).size=l.length):=aa (by show l.toArray.size=_;simp);have hit0:=sN.iter_heap w ⟨l.toArray⟩ 0;have HB0:=aa ((te w.heap.size w).alloc (sT _) (.stringIter ⟨l.toArray⟩ 0));have HIT0:=aa hit0;clear hit0;go_enter Tryz.func60,Tryz.ntmps60;go_wp2;go_loopw [3] (fun v wr=>∃(t:Nat)(xs:List (Nat×Int)),ae (plr l 0=xs++plr l t)/\ae (wr.heap[w.heap.size]?=some (.stringIter ⟨l.toArray⟩ t))/\ae (wr.ownsRow (w.heap.size+1) 77 3 v (cls l.length xs).length (dH (cls l.length xs)))/\ae (sQ w.heap.size w wr)) (fun _ wr=>l.length-wr.iterPos w.heap.size)
 case atStart=>exact⟨0,[],by simp[ae],HIT0,sN.ownsRow_nil _ _ _ _,HB0⟩
 case round=>
  obtain⟨t,xs,HP,HI,HO,HB⟩:=hrel;have hbs:=HB.o.size;have hin:w.heap.size<wr.heap.size:=(sI.1 HI.o).1;by_cases hlt:t<l.length
  ·have hnx:=zdU (P:=Tryz.prog) wr w.heap.size ⟨l.toArray⟩ t 0 HI.o (by rw[HSZ.o];exact hlt);have d1:=Lib.width_pos ⟨l.toArray⟩ t;have hst:=fT l t hlt;obtain⟨nn,hnn⟩:=aj ((sR ⟨l.toArray⟩ t).2);obtain⟨rr,hrr⟩:∃rr:Int,rr=((sR ⟨l.toArray⟩ t).1:Int):=⟨_,rfl⟩;rw[<-hnn]at hnx hst d1;rw[<-hrr]at hnx hst;have HP2:ae (plr l 0=(xs++[(t,rr)])++plr l (t+nn)):=aa (by rw[HP.o,hst,List.append_assoc];rfl);obtain⟨w1,hw1⟩:=aj (wr.putObj w.heap.size (.stringIter ⟨l.toArray⟩ (t+nn)));rw[<-hw1]at hnx;have HI1:ae (w1.heap[w.heap.size]?=some (.stringIter ⟨l.toArray⟩ (t+nn))):=aa (by rw[hw1];exact sN.putObj_heap_same hin);have HB1:ae (sQ w.heap.size w w1):=aa (by rw[hw1];exact HB.o.trans ⟨rfl,rfl,rfl,by simp[tf],fun j hj=>sN.putObj_heap_other (by omega)⟩);have HO1:ae (w1.ownsRow (w.heap.size+1) 77 3 u3 (cls l.length xs).length (dH (cls l.length xs))):=aa (by rw[hw1];exact zkx HO.o (grownBy_putObj' wr _ _) (fun j hj=>by have:=(HO.o.lt j hj).1;omega));have hw1s:wr.heap.size<=w1.heap.size:=by rw[hw1];simp[tf]
   have hmes:l.length-wr.iterPos w.heap.size=l.length-t:=by unfold sY;rw[HI.o]
   have HM:=aa hmes;have hcl:=dB l.length xs;have hxl:xs.length<l.length:=by have h:=zbB l l.length 0 (by omega);rw[HP2.o]at h;simp at h;omega
   clear hmes hnn hrr hst hw1 HP HI HB HO;rcases List.eq_nil_or_concat xs with rfl|⟨Q,z,rfl⟩
   ·obtain⟨oo,oc,hu6,_,_⟩:=kv HO1.o;subst hu6;have HOD:ae (w1.ownsRow (w.heap.size+1) 77 3 (.slice oo 0 oc) 0 []):=aa HO1.o;clear HO1;go_wp2_with (at_builtin;refine tk _ rfl _ _ 74 rfl (w.heap.size+1) 77 i0 (.agg #[.int .i32 0,.int .i64 0,.int .i64 0]) 3 24 Tryz.underlying74 hi hz0 hz1 hz2 rfl (by decide) (.slice oo 0 oc) 0 [] rfl (HOD.o.alloc _) ⟨w1.heap.size,0,none⟩ 1 1 (tpc (rr,t,l.length)) rfl rfl ?c1 ?c2 ?c3 ?c4 ?c5 ?_)
    case c1=>exact zuL w1 (rr,t,l.length) 77
    case c2=>exact zhS _
    case c3=>unfold maxLen;omega
    case c4=>omega
    case c5=>simp;omega
    intro v2 w2 o2 gr2 _;have HO2:ae (w2.ownsRow (w.heap.size+1) 77 3 v2 (cls l.length ([]++[(t,rr)])).length (dH (cls l.length ([]++[(t,rr)])))):=aa o2;have HB2:=aa ((HB1.o.alloc HB1.o.size (.cells #[.int .i32 rr,.int .i64 t,.int .i64 l.length] 77)).grown gr2 (by simp;omega) (fun j hj=>tn (HOD.o.lt j hj).1));have HI2:ae (w2.heap[w.heap.size]?=some (.stringIter ⟨l.toArray⟩ (t+nn))):=aa ((gr2.block w.heap.size (by simp;omega) (fun e=>by have:=(HOD.o.lt _ e.symm).1;omega)).trans ((tp w1 _ _ (by omega)).trans HI1.o));clear o2 gr2;go_wp2;go_roundw
    case rel=>exact⟨t+nn,[]++[(t,rr)],HP2,HI2,HO2,HB2⟩
    case measure=>rw[HM.o];unfold sY;rw[HI2.o];simp only[];omega
   ·obtain⟨oo,oc,hu6,hog,hrt⟩:=kv HO1.o;obtain⟨g,rfl,hgB,hgl⟩:=hog (by rw[dB];simp);subst hu6;rw[List.concat_eq_append]at*;obtain⟨_,hg',_,_,_,c2⟩:=hrt Q.length (z.2,z.1,l.length) (by rw[gi,sG (by rw[dB];exact sT _),dB,tj];rfl);injection hg' with hg';injection hg' with hg' _ _;subst hg';have f2:=zea HO1.o (Q.length*3+2);have HST:=aa (show(w1.setCell ⟨g,Q.length*3+2,none⟩ (.int .i64 t)).ownsRow (w.heap.size+1) 77 3 (.slice (some ⟨g,0,none⟩) (cls l.length (Q++[z])).length oc) (cls t (Q++[z])).length (dH (cls t (Q++[z]))) by
     have h:=znb HO1.o Q.length z.2 z.1 t l.length (by rw[gi,sG (by rw[dB];exact sT _),dB,tj];rfl);have e:(cls l.length (Q++[z])).set Q.length (z.2,z.1,t)=cls t (Q++[z]):=by rw[gi,gi];have:=zkv (cls z.1 Q) (z.2,z.1,l.length) (z.2,z.1,t);rw[dB]at this;exact this
     rw[e]at h;exact h)
    obtain⟨n,hn⟩:=aj Q.length;have hcl2:(cls l.length (Q++[z])).length=n+1:=by rw[dB,hn];simp
    have hcl3:(cls t (Q++[z])).length=n+1:=by rw[dB,hn];simp
    rw[hcl2,hcl3,<-hn]at HST;rw[<-hn]at c2 f2;dsimp only at c2;have hn9:n<l.length:=by rw[hn];simp at hxl;omega
    rw[hcl2];have HI2:ae ((w1.setCell ⟨g,n*3+2,none⟩ (.int .i64 t)).heap[w.heap.size]?=some (.stringIter ⟨l.toArray⟩ (t+nn))):=aa ((sQ.heap_setCell _ _ _ _ (show w.heap.size≠g by omega)).trans HI1.o);have HB2:ae (sQ w.heap.size w (w1.setCell ⟨g,n*3+2,none⟩ (.int .i64 t))):=aa (HB1.o.setCell (p:=⟨g,n*3+2,none⟩) (show w.heap.size<=g by omega) _);have HW2:ae ((w1.setCell ⟨g,n*3+2,none⟩ (.int .i64 t)).heap.size=w1.heap.size):=aa (by simp);have t0:decide ((0:Int)<(n:Int)+1)=true:=decide_eq_true (by omega);have esub:((n:Int)+1)-1=(n:Int):=by omega
    have ewr:IntKind.i64.wrap (n:Int)=(n:Int):=by rw[IntKind.wrap_i64];omega
    have i1:(0:Int)<=(n:Int):=by omega
    have i2:(n:Int)<(n:Int)+1:=by omega
    have HCL:ae (cls l.length (Q++[z]++[(t,rr)])=cls t (Q++[z])++[(rr,t,l.length)]):=aa (gi _ _ _);have HC3:=aa hcl3;clear hrt hog hcl hcl2 HO1 HB1 HI1 hn hxl hcl3;go_wp2_with (at_builtin;refine tk _ rfl _ _ 74 rfl (w.heap.size+1) 77 i0 (.agg #[.int .i32 0,.int .i64 0,.int .i64 0]) 3 24 Tryz.underlying74 hi hz0 hz1 hz2 rfl (by decide) (.slice (some ⟨g,0,none⟩) (n+1) oc) (n+1) (dH (cls t (Q++[z]))) rfl (HST.o.alloc _) ⟨w1.heap.size,0,none⟩ 1 1 (tpc (rr,t,l.length)) rfl rfl ?c1 ?c2 ?c3 ?c4 ?c5 ?_)
    case c1=>exact fun _ _ h=>h
    case c2=>exact zhS _
    case c3=>unfold maxLen;omega
    case c4=>omega
    case c5=>omega
    intro v2 w2 o2 gr2 _;have HO2:ae (w2.ownsRow (w.heap.size+1) 77 3 v2 (cls l.length (Q++[z]++[(t,rr)])).length (dH (cls l.length (Q++[z]++[(t,rr)])))):=aa (by rw[HCL.o,zkq,td,HC3.o];exact o2);have HB3:=aa ((HB2.o.alloc (by rw[HW2.o];omega) (.cells #[.int .i32 rr,.int .i64 t,.int .i64 l.length] 77)).grown gr2 (by simp;omega) (fun j hj=>tn (HST.o.lt j hj).1));have HI3:ae (w2.heap[w.heap.size]?=some (.stringIter ⟨l.toArray⟩ (t+nn))):=aa ((gr2.block w.heap.size (by simp;omega) (fun e=>by have:=(HST.o.lt _ e.symm).1;omega)).trans ((tp _ _ _ (by rw[HW2.o];omega)).trans HI2.o));clear o2 gr2;go_wp2;go_roundw
    case rel=>exact⟨t+nn,Q++[z]++[(t,rr)],HP2,HI3,HO2,HB3⟩
    case measure=>rw[HM.o];unfold sY;rw[HI3.o];simp only[];omega
  ·have hnx:=rB (P:=Tryz.prog) wr w.heap.size ⟨l.toArray⟩ t 0 HI.o (by rw[HSZ.o];exact hlt);have HE:ae (plr l 0=xs):=aa (by rw[HP.o,gK l t hlt,List.append_nil]);go_wp2;go_ret;exact⟨_,rfl,by unfold txt;rw[HE.o];exact aZ HO.o (by omega),HB.o⟩
theorem jg(l:List UInt8)(w:sN)(hl:l.length<=1000000):
  sV Tryz.prog 60 #[.string ⟨l.toArray⟩] w fun e w'=>∃xo xc,e=.returned (.slice xo (txt l).length xc)/\RdT w' xo (txt l)/\sQ w.heap.size w w':=
 (zgo l w hl).mono fun _ _ ⟨_,h1,h2,h3⟩=>by obtain⟨xo,xc,e,_,hr⟩:=kv h2;subst e;exact⟨xo,xc,h1,hr,h3⟩
end Dc
namespace Dc
open Go.RowKit
theorem getD_take(l:List UInt8)(n i:Nat):((l.take n).getD i 0).toNat=if i<n then (l.getD i 0).toNat else 0:=by by_cases h:i<n<;>simp[sW,List.getElem?_take,h]
theorem decodeN_cut(N n b0 b1 b2 b3:Nat)(h1:1<=n)(h:(sP N b0 b1 b2 b3).2<=n):
  sP (min n N) b0 (if 1<n then b1 else 0) (if 2<n then b2 else 0) (if 3<n then b3 else 0)=sP N b0 b1 b2 b3:=by
 have c:n=1\/n=2\/n=3\/4<=n:=by omega
 rcases c with rfl|rfl|rfl|c
 ·simp only[sZ,if_false,Nat.reduceLT];unfold sP at*;revert h
  repeat' split
  all_goals first|(intro h;dsimp only at h;exfalso;omega)|(intro _;rfl)
 ·simp only[sZ,if_false,if_true,Nat.reduceLT];unfold sP at*;revert h
  repeat' split
  all_goals first|(intro h;dsimp only at h;exfalso;omega)|(intro _;rfl)
 ·simp only[sZ,if_false,if_true,Nat.reduceLT];unfold sP at*;revert h
  repeat' split
  all_goals first|(intro h;dsimp only at h;exfalso;omega)|(intro _;rfl)
 ·rw[if_pos (by omega),if_pos (by omega),if_pos (by omega)];unfold sP;have e1:(1<min n N)=(1<N):=propext ⟨fun h=>by omega,fun h=>by omega⟩;have e2:(2<min n N)=(2<N):=propext ⟨fun h=>by omega,fun h=>by omega⟩;have e3:(3<min n N)=(3<N):=propext ⟨fun h=>by omega,fun h=>by omega⟩;simp only[e1,e2,e3]
theorem dec_take(l:List UInt8)(h:l≠ [])(n:Nat)(hn:(dec l).2<=n):dec (l.take n)=dec l:=by
 have h1:=dec_ge l h;have hp:0<l.length:=sX.2 h;have hne:l.take n≠ []:=fun e=>by have:=congrArg tu e;rw[sK]at this;simp only[sL]at this;omega
 rw[dec_eqL _ hne,dec_eqL l h,ta,ta,sK];have hn1:1<=n:=by omega
 rw[dec_eqL l h,ta]at hn;simp only[getD_take];rw[if_pos (by omega:0<n)];exact decodeN_cut _ _ _ _ _ _ (by omega) hn
theorem zaJ(l:List UInt8)(n:Nat)(hn:4<=n):dec (l.take n)=dec l:=by
 by_cases h:l=[]
 ·subst h;simp
 ·exact dec_take l h n (by have:=dec_le4 l;omega)
theorem zpc(l:List UInt8)(h:l≠ []):sR ⟨l.toArray⟩ 0=dec l:=by rw[dec_eqL l h];rfl
theorem zqp:txt []=[]:=rfl
theorem zkp(l:List UInt8)(h:l≠ []):(txt l)[0]?=some (((dec l).1:Int),0,(dec l).2)/\0<(txt l).length:=by
 have hp:0<l.length:=sX.2 h;have h1:=dec_ge l h;have h2:=dec_le l h;unfold txt;rw[fT l 0 hp,zpc l h,cls];refine⟨?_,by simp⟩;have hn:nxt l.length (plr l (0+(dec l).2))=(dec l).2:=by
  rw[tD];by_cases c:(dec l).2<l.length
  ·rw[fT l _ c];rfl
  ·rw[gK l _ c];show l.length=_;omega
 rw[hn];rfl
theorem zko(l:List UInt8)(h:l≠ []):Lib.validD (l.take (dec l).2)= !(decide ((dec l).1=65533)&&decide ((dec l).2=1)):=by
 have h1:=dec_ge l h;have h2:=dec_le l h;have hne:l.take (dec l).2≠ []:=fun e=>by have:=congrArg tu e;rw[sK]at this;simp only[sL]at this;omega
 have hd:Lib.decodeL (l.take (dec l).2)=dec l:=by rw[<-dec_eqL _ hne,dec_take l h _ (sT _)]
 rw[Lib.validD_step _ hne,hd];have e:(l.take (dec l).2).drop (dec l).2=[]:=List.drop_of_length_le (by rw[sK];omega);rw[e,Lib.validD_nil];by_cases c1:(dec l).1=65533<;>by_cases c2:(dec l).2=1<;>simp[c1,c2]
theorem zay:∀(t:List UInt8)(a:Nat)(c:UInt8),iJ a (t++[c])=iJ a t*16+hxV c
 |[],_,_=>rfl
 |x::t,a,c=>by show iJ (a*16+hxV x) (t++[c])=iJ (a*16+hxV x) t*16+hxV c;exact zay t _ c
def dgv(c:UInt8):Nat:=if eh c=true then hxV c else 0
def iB(l:List UInt8)(p:Nat):Int×Nat×Bool:=
 if pre (l.drop p) [39]=true/\(dec (l.drop (p+1))).2≠0/\p+1+(dec (l.drop (p+1))).2<l.length/\l.getD (p+1+(dec (l.drop (p+1))).2) 0=39 then ((((dec (l.drop (p+1))).1:Nat):Int),(dec (l.drop (p+1))).2,true)
 else (0,0,false)
def iz(l:List UInt8)(p:Nat):Int×Nat×Int×Nat:=
 if (jd l p).2.2=0 then ((jd l p).1,(jd l p).2.1,0,0)else (0,0,(jd l p).2.2,(jd l p).2.1)
theorem jf{l:List UInt8}{p:Nat}(h:pre (l.drop p) [85,43]=true)(h1:gy l (p+2)<4\/6<gy l (p+2)):iz l p=(0,0,21,p):=by unfold iz jd cdd;rw[if_pos h,if_pos h1];rfl
theorem zai{l:List UInt8}{p:Nat}(h:pre (l.drop p) [85,43]=true)(h1:¬(gy l (p+2)<4\/6<gy l (p+2)))(h2:1114111<iJ 0 ((l.drop (p+2)).take (gy l (p+2)))):iz l p=(0,0,22,p):=by unfold iz jd cdd;rw[if_pos h,if_neg h1,if_pos h2];rfl
theorem zah{l:List UInt8}{p:Nat}(h:pre (l.drop p) [85,43]=true)(h1:¬(gy l (p+2)<4\/6<gy l (p+2)))(h2:¬1114111<iJ 0 ((l.drop (p+2)).take (gy l (p+2)))):iz l p=(((iJ 0 ((l.drop (p+2)).take (gy l (p+2))):Nat):Int),p+2+gy l (p+2),0,0):=by unfold iz jd cdd;rw[if_pos h,if_neg h1,if_neg h2];rfl
theorem zna{l:List UInt8}{p:Nat}(h:pre (l.drop p) [85,43]=false):
  iz l p=if (iB l p).2.2=false then (0,0,21,p)else if (iB l p).1=65533/\(iB l p).2.1=1 then (0,0,23,p+1)else ((iB l p).1,p+(iB l p).2.1+2,0,0):=by
 have hs:jd l p=if pre (l.drop p) [39]=true then qtd l p else (0,p,21):=by unfold jd;rw[if_neg (by rw[h];decide)]
 unfold iz;rw[hs];clear hs;cases hq:pre (l.drop p) [39]with
 |false=>
  have e:iB l p=(0,0,false):=by unfold iB;rw[if_neg (by rw[hq];simp)]
  rw[e];rfl
 |true=>
  simp only[if_true];have hin:=mW (l.drop (p+1));rw[sH]at hin;have hpl:=lw hq;rw[sH]at hpl;simp only[sD,sL]at hpl;by_cases c:(dec (l.drop (p+1))).2=0\/p+1+(dec (l.drop (p+1))).2=l.length\/l.getD (p+1+(dec (l.drop (p+1))).2) 0≠39
  ·have e:iB l p=(0,0,false):=by
    unfold iB;rw[if_neg];rintro ⟨_,a,b,d⟩;rcases c with c|c|c
    ·exact a c
    ·omega
    ·exact c d
   have e2:qtd l p=(0,p,21):=by unfold qtd;rw[if_pos c]
   rw[e,e2];rfl
  ·have hne:l.drop (p+1)≠ []:=fun e=>c (.inl (by rw[e];rfl));have c1:(dec (l.drop (p+1))).2≠0:=fun e=>c (.inl e);have c2:¬p+1+(dec (l.drop (p+1))).2=l.length:=fun e=>c (.inr (.inl e));have c3:l.getD (p+1+(dec (l.drop (p+1))).2) 0=39:=sS.1 fun e=>c (.inr (.inr e));have e:iB l p=((((dec (l.drop (p+1))).1:Nat):Int),(dec (l.drop (p+1))).2,true):=by unfold iB;rw[if_pos ⟨hq,c1,by omega,c3⟩]
   have hv:=zko _ hne;rw[e];unfold qtd;rw[if_neg c,hv];generalize (dec (l.drop (p+1))).2=n at*;generalize (dec (l.drop (p+1))).1=r at*;by_cases d1:r=65533
   ·by_cases d2:n=1
    ·subst d1 d2;rfl
    ·subst d1;simp[d2];omega
   ·have f1:decide (r=65533)=false:=decide_eq_false d1;have f2:¬(r:Int)=65533:=by omega
    simp[f1,f2];omega
end Dc
namespace Dc
open Go.RowKit
theorem zld(c:UInt8)(w:sN):
  sV Tryz.prog 181 #[.int .u8 (c.toNat:Int)] w fun e w'=>e=.returned (.tuple #[.int .i64 (dgv c:Nat),.bool (eh c)])/\w'=w:=by
 have hc:c.toNat<256:=c.toNat_lt;by_cases h1:48<=c.toNat/\c.toNat<=57
 ·have hi:eh c=true:=(lL c).2 (.inl h1);have HD:ae (((dgv c:Nat):Int)=(c.toNat:Int)-48):=aa (by unfold dgv;rw[if_pos hi];unfold hxV;rw[if_pos h1.2];omega);have HI:=aa hi;clear hi;obtain⟨a1,a2⟩:=h1;generalize c.toNat=m at*;go_enter Tryz.func181,Tryz.ntmps181;go_wp2;go_ret2;exact⟨by rw[HD.o,HI.o];go_num,rfl⟩
 ·by_cases h2:65<=c.toNat/\c.toNat<=70
  ·have hi:eh c=true:=(lL c).2 (.inr h2);have HD:ae (((dgv c:Nat):Int)=(c.toNat:Int)-65+10):=aa (by unfold dgv;rw[if_pos hi];unfold hxV;rw[if_neg (by omega)];omega);have HI:=aa hi;clear hi;obtain⟨a1,a2⟩:=h2;have a3:¬(c.toNat:Int)<=57:=by omega
   have a4:(48:Int)<=(c.toNat:Int):=by omega
   clear h1;generalize c.toNat=m at*;go_enter Tryz.func181,Tryz.ntmps181;go_wp2;go_ret2;exact⟨by rw[HD.o,HI.o];go_num,rfl⟩
  ·have hi:eh c=false:=by
    cases h:eh c with
    |false=>rfl
    |true=>exact absurd ((lL c).1 h) (by rintro (h|h);exact h1 h;exact h2 h)
   have HD:ae (dgv c=0):=aa (by unfold dgv;rw[if_neg (by rw[hi];decide)]);have HI:=aa hi;clear hi;generalize c.toNat=m at*;go_enter Tryz.func181,Tryz.ntmps181;go_wp2
   all_goals go_ret2
   all_goals exact⟨by rw[HD.o,HI.o];rfl,rfl⟩
theorem zkY(l:List UInt8)(w:sN)(hl:l.length<=1000000):
  sV Tryz.prog 179 #[.string ⟨l.toArray⟩] w fun e w'=>e=.returned (.tuple #[.int .i32 ((dec l).1:Nat),.int .i64 ((dec l).2:Nat)])/\sQ w.heap.size w w':=by
 have HR:=aa (jg l w hl);by_cases h:l=[]
 ·subst h;rw[zqp]at HR;go_enter Tryz.func179,Tryz.ntmps179;go_wp2_with fail;refine HR.o.mono ?_;rintro e w1 ⟨xo,xc,rfl,_,hb⟩;have HB:=aa hb;clear hb;go_wp2;go_ret2;exact⟨rfl,HB.o⟩
 ·obtain⟨f1,f2⟩:=zkp l h;have HF:=aa f1;obtain⟨m,hm⟩:=aj ((txt l).length);rw[<-hm]at f2 HR;have HM:=aa hm;clear f1 hm h;have t1:((m:Int)==0)=false:=beq_eq_false_iff_ne.2 (by omega);have t2:(0:Int)<(m:Int):=by omega
  go_enter Tryz.func179,Tryz.ntmps179;go_wp2_with fail;refine HR.o.mono ?_;rintro e w1 ⟨xo,xc,rfl,hr,hb⟩;have HB:=aa hb;obtain⟨g,rfl,_,c0,c1,c2⟩:=hr 0 _ HF.o;rw[Nat.zero_mul]at c0 c1 c2;rw[tD]at c1 c2;dsimp only at c0 c1 c2;obtain⟨r,her⟩:=aj ((dec l).1);obtain⟨k,hek⟩:=aj ((dec l).2);rw[<-her]at c0;rw[<-hek]at c2;have HER:=aa her;have HEK:=aa hek;clear hb hr her hek;go_wp2_with fail;go_region;go_wp2;go_ret2;exact⟨by rw[<-HER.o,<-HEK.o];rfl,HB.o.drew⟩
theorem zaD(s:ByteArray)(l:List UInt8)(r:Int)(k:Nat)(w:sN)(hs:s=⟨l.toArray⟩)(hl:l.length<=1000000)(hr:r=((dec l).1:Nat))(hk:k=(dec l).2):
  sV Tryz.prog 179 #[.string s] w fun e w'=>e=.returned (.tuple #[.int .i32 r,.int .i64 (k:Nat)])/\sQ w.heap.size w w':=by
 subst hs hr hk;exact zkY l w hl
def qdv(x:Int×Nat×Bool):tg:=.tuple #[.int .i32 x.1,.int .i64 (x.2.1:Nat),.bool x.2.2]
theorem zby{l:List UInt8}{p:Nat}(h:p<l.length):pre (l.drop p) [39]=decide (l[p]=39):=by
 have e:(l.drop p).take 1=[l[p]]:=by rw[sM h];rfl
 show decide ((l.drop p).take 1=[39])=_;rw[e];exact Bool.eq_iff_iff.2 (by rw[decide_eq_true_iff,decide_eq_true_iff];exact⟨fun h=>by injection h,fun h=>by rw[h]⟩)
theorem nA(l:List UInt8)(p:Nat)(w:sN)(hp:p<=l.length)(hl:l.length<=100000):
  sV Tryz.prog 160 #[.string ⟨l.toArray⟩,.int .i64 p] w fun e w'=>e=.returned (qdv (iB l p))/\sQ w.heap.size w w':=by
 have HSZ:ae ((⟨l.toArray⟩:ByteArray).size=l.length):=aa (by show l.toArray.size=_;simp);by_cases c0:p<l.length
 ·have hq:=zby c0;have hszp:p<(⟨l.toArray⟩:ByteArray).size:=by rw[HSZ.o];exact c0
  have hb:(⟨l.toArray⟩:ByteArray)[p]'hszp=l[p]:=rfl;obtain⟨c,hc⟩:=aj (l[p]);rw[<-hc]at hq hb;by_cases c1:c=39
  ·subst c1;rw[decide_eq_true rfl]at hq;have hin:=mW (l.drop (p+1));rw[sH]at hin;obtain⟨n,hn⟩:=aj ((dec (l.drop (p+1))).2);obtain⟨r,hr⟩:∃r:Int,r=((dec (l.drop (p+1))).1:Nat):=⟨_,rfl⟩;have HQ:=aa (show iB l p=if n≠0/\p+1+n<l.length/\l.getD (p+1+n) 0=39 then (r,n,true)else (0,0,false) by unfold iB;rw[hq,<-hn,<-hr];simp only[true_and]);rw[<-hn]at hin;have HF1:ae (¬l.length<p+6->∀W,sV Tryz.prog 179 #[.string ((⟨l.toArray⟩:ByteArray).extract (p+1) (p+6))] W fun e w'=>e=.returned (.tuple #[.int .i32 r,.int .i64 (n:Nat)])/\sQ W.heap.size W w'):=aa (fun _ W=>zaD _ ((l.drop (p+1)).take 5) r n W (zci l (p+1) 5) (by rw[sK];omega) (by rw[zaJ _ 5 (by omega)];exact hr) (by rw[zaJ _ 5 (by omega)];exact hn));have HF2:ae (∀W,sV Tryz.prog 179 #[.string ((⟨l.toArray⟩:ByteArray).extract (p+1) l.length)] W fun e w'=>e=.returned (.tuple #[.int .i32 r,.int .i64 (n:Nat)])/\sQ W.heap.size W w'):=aa (fun W=>zaD _ (l.drop (p+1)) r n W (ext_drop l (p+1)) (by rw[sH];omega) hr hn);clear hn hr hq hc;have key:∀(w1:sN),sQ w.heap.size w w1->True:=fun _ _=>trivial;clear key;by_cases c2:l.length<p+6
   ·have c2':((l.length:Int)<(p:Int)+6):=by omega
    go_enter Tryz.func160,Tryz.ntmps160;go_wp2_with fail;refine(HF2.o _).mono ?_;rintro e w1 ⟨rfl,hb1⟩;have HB1:=aa hb1;clear hb1 HF1 HF2;by_cases d1:n=0
    ·have HC:ae (iB l p=(0,0,false)):=aa (by rw[HQ.o,if_neg (by simp[d1])]);subst d1;go_wp2;go_ret3;exact⟨by rw[HC.o];rfl,HB1.o⟩
    ·have d1':((n:Int)==0)=false:=beq_eq_false_iff_ne.2 (by omega);by_cases d2:p+1+n<l.length
     ·have hszn:p+1+n<(⟨l.toArray⟩:ByteArray).size:=by rw[HSZ.o];exact d2
      have hbn:(⟨l.toArray⟩:ByteArray)[p+1+n]'hszn=l[p+1+n]:=rfl;have hgn:l.getD (p+1+n) 0=l[p+1+n]:=by simp[sW,sJ d2]
      rw[hgn]at HQ;have d2':¬(l.length:Int)<=(p:Int)+1+n:=by omega
      generalize l[p+1+n]=d at*;by_cases d3:d=39
      ·subst d3;have HC:ae (iB l p=(r,n,true)):=aa (by rw[HQ.o,if_pos ⟨d1,d2,rfl⟩]);clear HQ;go_wp2;go_ret3;exact⟨by rw[HC.o];rfl,HB1.o⟩
      ·have HC:ae (iB l p=(0,0,false)):=aa (by rw[HQ.o,if_neg (by simp[d3])]);have d3':((d.toNat:Int) != 39)=true:=bne_iff_ne.2 (fun e=>d3 (sO.1 (by show d.toNat=39;omega)));clear HQ d3;go_wp2;go_ret3;exact⟨by rw[HC.o];rfl,HB1.o⟩
     ·have HC:ae (iB l p=(0,0,false)):=aa (by rw[HQ.o,if_neg (by simp[d2])]);have d2':(l.length:Int)<=(p:Int)+1+n:=by omega
      go_wp2;go_ret3;exact⟨by rw[HC.o];rfl,HB1.o⟩
   ·have c2':¬((l.length:Int)<(p:Int)+6):=by omega
    have HF3:=aa (HF1.o c2);go_enter Tryz.func160,Tryz.ntmps160;go_wp2_with fail;refine(HF3.o _).mono ?_;rintro e w1 ⟨rfl,hb1⟩;have HB1:=aa hb1;clear hb1 HF1 HF2 HF3;by_cases d1:n=0
    ·have HC:ae (iB l p=(0,0,false)):=aa (by rw[HQ.o,if_neg (by simp[d1])]);subst d1;go_wp2;go_ret3;exact⟨by rw[HC.o];rfl,HB1.o⟩
    ·have d1':((n:Int)==0)=false:=beq_eq_false_iff_ne.2 (by omega);by_cases d2:p+1+n<l.length
     ·have hszn:p+1+n<(⟨l.toArray⟩:ByteArray).size:=by rw[HSZ.o];exact d2
      have hbn:(⟨l.toArray⟩:ByteArray)[p+1+n]'hszn=l[p+1+n]:=rfl;have hgn:l.getD (p+1+n) 0=l[p+1+n]:=by simp[sW,sJ d2]
      rw[hgn]at HQ;have d2':¬(l.length:Int)<=(p:Int)+1+n:=by omega
      generalize l[p+1+n]=d at*;by_cases d3:d=39
      ·subst d3;have HC:ae (iB l p=(r,n,true)):=aa (by rw[HQ.o,if_pos ⟨d1,d2,rfl⟩]);clear HQ;go_wp2;go_ret3;exact⟨by rw[HC.o];rfl,HB1.o⟩
      ·have HC:ae (iB l p=(0,0,false)):=aa (by rw[HQ.o,if_neg (by simp[d3])]);have d3':((d.toNat:Int) != 39)=true:=bne_iff_ne.2 (fun e=>d3 (sO.1 (by show d.toNat=39;omega)));clear HQ d3;go_wp2;go_ret3;exact⟨by rw[HC.o];rfl,HB1.o⟩
     ·have HC:ae (iB l p=(0,0,false)):=aa (by rw[HQ.o,if_neg (by simp[d2])]);have d2':(l.length:Int)<=(p:Int)+1+n:=by omega
      go_wp2;go_ret3;exact⟨by rw[HC.o];rfl,HB1.o⟩
  ·rw[decide_eq_false c1]at hq;have HC:ae (iB l p=(0,0,false)):=aa (by unfold iB;rw[if_neg (by rw[hq];simp)]);have c1':((c.toNat:Int) != 39)=true:=bne_iff_ne.2 (fun e=>c1 (sO.1 (by show c.toNat=39;omega)));clear hq hc c1;go_enter Tryz.func160,Tryz.ntmps160;go_wp2;go_ret3;exact⟨by rw[HC.o];rfl,te _ _⟩
 ·have HC:=aa (show iB l p=(0,0,false) by unfold iB;rw[if_neg];rintro ⟨h,_⟩;have:=lw h;rw[sH]at this;simp only[sD,sL]at this;omega);have c0':(l.length:Int)<=(p:Int):=by omega
  go_enter Tryz.func160,Tryz.ntmps160;go_wp2;go_ret3;exact⟨by rw[HC.o];rfl,te _ _⟩
def rsv(x:Int×Nat×Int×Nat):tg:=.tuple #[.int .i32 x.1,.int .i64 (x.2.1:Nat),.int .i64 x.2.2.1,.int .i64 (x.2.2.2:Nat)]
theorem zfl(c:UInt8)(v:Nat)(b:Bool)(w:sN)(hv:v=dgv c)(hb:b=eh c):
  sV Tryz.prog 181 #[.int .u8 (c.toNat:Int)] w fun e w'=>e=.returned (.tuple #[.int .i64 (v:Nat),.bool b])/\w'=w:=by
 subst hv hb;exact zld c w
theorem lu{l:List UInt8}{p:Nat}(h:p+1<l.length):pre (l.drop p) [85,43]=decide (l[p]=85/\l[p+1]=43):=by
 have e:(l.drop p).take 2=[l[p],l[p+1]]:=by rw[sM (by omega:p<l.length),sM h];rfl
 show decide ((l.drop p).take 2=[85,43])=_;rw[e];exact Bool.eq_iff_iff.2 (by rw[decide_eq_true_iff,decide_eq_true_iff];exact⟨fun h=>by injection h with h1 h2;injection h2 with h2;exact⟨h1,h2⟩,fun h=>by rw[h.1,h.2]⟩)
theorem aC{fn:Func}{t u v x:Tmp}(h:fn.results=#[.tmp t,.tmp u,.tmp v,.tmp x])(tmps:Array tg)(P:Program)(w:sN):
  (results fn tmps).run P w=.ok (.tuple #[tmps.getD t undef,tmps.getD u undef,tmps.getD v undef,tmps.getD x undef]) w:=by
 simp[results,h]
theorem zgz(l:List UInt8)(p:Nat)(r:Int)(n:Nat)(b:Bool)(w:sN)(hp:p<=l.length)(hl:l.length<=100000)(h:iB l p=(r,n,b)):
  sV Tryz.prog 160 #[.string ⟨l.toArray⟩,.int .i64 p] w fun e w'=>e=.returned (.tuple #[.int .i32 r,.int .i64 (n:Nat),.bool b])/\sQ w.heap.size w w':=by
 have:=nA l p w hp hl;rw[h]at this;exact this
end Dc
namespace Dc
def sh1(x:Int×Nat×Int):Int×Nat×Int:=(x.1,x.2.1+1,x.2.2)
theorem qs(b:UInt8)(l:List UInt8)(p:Nat):(b::l).getD (p+1) 0=l.getD p 0:=rfl
theorem zpl(b:UInt8)(l:List UInt8)(p:Nat):cdd (b::l) (p+1)=sh1 (cdd l p):=by
 have e1:gy (b::l) (p+1+2)=gy l (p+2):=rfl;have e2:(b::l).drop (p+1+2)=l.drop (p+2):=rfl;unfold cdd;rw[e1,e2];split
 ·rfl
 ·split
  ·rfl
  ·unfold sh1;refine Prod.ext rfl (Prod.ext ?_ rfl);show p+1+2+_=p+2+_+1;omega
theorem znp(b:UInt8)(l:List UInt8)(p:Nat):qtd (b::l) (p+1)=sh1 (qtd l p):=by
 have e2:(b::l).drop (p+1+1)=l.drop (p+1):=rfl;unfold qtd;rw[e2];obtain⟨n,hn⟩:=aj ((dec (l.drop (p+1))).2);rw[<-hn];have e3:(b::l).getD (p+1+1+n) 0=l.getD (p+1+n) 0:=by rw[show p+1+1+n=(p+1+n)+1 by omega];rfl
 have e4:(p+1+1+n=(b::l).length)=(p+1+n=l.length):=by rw[sD];exact propext ⟨fun h=>by omega,fun h=>by omega⟩
 simp only[e3,e4];split
 ·rfl
 ·split
  ·rfl
  ·unfold sh1;refine Prod.ext rfl (Prod.ext ?_ rfl);show p+1+1+n+1=p+1+n+1+1;omega
theorem zdN(b:UInt8)(l:List UInt8)(p:Nat):jd (b::l) (p+1)=sh1 (jd l p):=by
 have e1:(b::l).drop (p+1)=l.drop p:=rfl;unfold jd;rw[e1];split
 ·exact zpl b l p
 ·split
  ·exact znp b l p
  ·rfl
theorem znY(b:UInt8)(l:List UInt8)(p:Nat):fg (b::l) (p+1)=((fg l p).1,(fg l p).2.1+1,(fg l p).2.2):=by
 unfold fg zeM;rw[zdN];obtain⟨x,hx⟩:=aj (jd l p);rw[<-hx];have e1:(sh1 x).2.1=x.2.1+1:=rfl;have e2:(sh1 x).1=x.1:=rfl;have e3:(sh1 x).2.2=x.2.2:=rfl;rw[e1,e2,e3,zdN b l (x.2.1+1)];obtain⟨y,hy⟩:=aj (jd l (x.2.1+1));rw[<-hy];have f1:(sh1 y).2.1=y.2.1+1:=rfl;have f2:(sh1 y).1=y.1:=rfl;have f3:(sh1 y).2.2=y.2.2:=rfl;rw[f1,f2,f3];have e4:(x.2.1+1=(b::l).length)=(x.2.1=l.length):=by rw[sD];exact propext ⟨fun h=>by omega,fun h=>by omega⟩
 simp only[e4,qs];split
 ·rfl
 ·split
  ·rfl
  ·split
   ·rfl
   ·split
    ·rfl
    ·rfl
theorem mE(b:UInt8)(l:List UInt8):∀(f p:Nat)(acc:List Rg),(eK f (b::l) (p+1) acc).1=(eK f l p acc).1/\(eK f (b::l) (p+1) acc).2.1=(eK f l p acc).2.1
 |0,_,_=>⟨rfl,rfl⟩
 |f+1,p,acc=>by
  have e4:(p+1=(b::l).length)=(p=l.length):=by rw[sD];exact propext ⟨fun h=>by omega,fun h=>by omega⟩
  unfold eK;simp only[e4,qs,znY];obtain⟨x,hx⟩:=aj (fg l p);rw[<-hx];have e5:(x.2.1+1<(b::l).length)=(x.2.1<l.length):=by rw[sD];exact propext ⟨fun h=>by omega,fun h=>by omega⟩
  simp only[e5];split
  ·exact⟨rfl,rfl⟩
  ·split
   ·exact mE b l f (p+1) acc
   ·split
    ·exact⟨rfl,rfl⟩
    ·split
     ·exact⟨rfl,rfl⟩
     ·exact mE b l f _ _
theorem zam(l:List UInt8):(lB (32::l)).1=(lB l).1/\(lB (32::l)).2.1=(lB l).2.1:=by
 have e:lB (32::l)=eK (l.length+1) (32::l) (0+1) []:=by
  show eK (l.length+1+1) (32::l) 0 []=_
  conv=>lhs;unfold eK
  rw[if_neg (by simp),if_pos (show(32::l).getD 0 0=32 from rfl)]
 rw[e];exact mE 32 l _ 0 []
end Dc
namespace Dc
open Go.RowKit
def blk(b:UInt8):Bool:=([32,9]:List UInt8).contains b
def rtr(l:List UInt8):List UInt8:=(l.reverse.dropWhile blk).reverse
def rtm(l:List UInt8):List UInt8:=rtr (l.dropWhile blk)
theorem pz(l:List UInt8):tls l=(rtr l).dropWhile blk:=rfl
theorem zdW(b:UInt8)(r:List UInt8):rtr (b::r)=if rtr r=[]then (if blk b then []else [b])else b::rtr r:=by
 unfold rtr;rw[List.reverse_cons,List.dropWhile_append];by_cases h:r.reverse.dropWhile blk=[]
 ·rw[h];simp only[List.isEmpty_nil,List.reverse_nil,if_true];rw[sE];split<;>simp
 ·have h2:(r.reverse.dropWhile blk).isEmpty=false:=by
   cases h5:r.reverse.dropWhile blk with
   |nil=>exact absurd h5 h
   |cons=>rfl
  rw[h2,if_neg (by decide),if_neg (by simpa using h)];simp
theorem zin:∀l:List UInt8,rtm l=tls l
 |[]=>rfl
 |b::r=>by
  rw[pz];unfold rtm;by_cases hb:blk b=true
  ·have ih:=zin r;rw[pz]at ih;unfold rtm at ih;rw[sE,if_pos hb,ih,zdW,if_pos hb];split
   ·rename_i h;rw[h]
   ·rw[sE,if_pos hb]
  ·rw[sE,if_neg hb,zdW,if_neg hb];split
   ·rw[sE,if_neg hb]
   ·rw[sE,if_neg hb]
theorem fQ(l:List UInt8)(b:UInt8):rtr (l++[b])=if blk b then rtr l else l++[b]:=by unfold rtr;rw[List.reverse_append];show((b::l.reverse).dropWhile blk).reverse=_;rw[sE];split<;>simp
set_option maxRecDepth 100000 in
theorem zlj(b:UInt8)(w:sN):sV Tryz.prog 161 #[.int .u8 (b.toNat:Int)] w fun e w'=>e=.returned (.bool (blk b))/\w'=w:=by
 by_cases h1:b=32
 ·subst h1;go_enter Tryz.func161,Tryz.ntmps161;go_wp2;go_ret;exact⟨rfl,rfl⟩
 ·have h1':((b.toNat:Int)==32)=false:=beq_eq_false_iff_ne.2 (fun e=>h1 (sO.1 (show b.toNat=32 by omega)));by_cases h2:b=9
  ·subst h2;go_enter Tryz.func161,Tryz.ntmps161;go_wp2;go_ret;exact⟨rfl,rfl⟩
  ·have h2':((b.toNat:Int)==9)=false:=beq_eq_false_iff_ne.2 (fun e=>h2 (sO.1 (show b.toNat=9 by omega)));have HV:ae (blk b=false):=aa (by unfold blk;simp[h1,h2]);go_enter Tryz.func161,Tryz.ntmps161;go_wp2;go_ret;exact⟨by rw[HV.o];rfl,rfl⟩
end Dc
namespace Dc
open Go.RowKit
def dgU(d:Nat):UInt8:=UInt8.ofNat (if d<10 then 48+d else 55+d)
def hxL:Nat->Nat->List UInt8
 |0,_=>[]
 |k+1,n=>hxL k (n / 16)++[dgU (n%16)]
def wdt(n:Nat):Nat:=if n<65536 then 4 else if n<1048576 then 5 else 6
def hex(n:Nat):List UInt8:=hxL (wdt n) n
end Dc
namespace Dc
open Go.RowKit
def ovl(g h:Rg):Bool:=decide (g.1<=h.2)&&decide (h.1<=g.2)
def mtR(l m:List Rg):Bool:=l.any fun g=>m.any fun h=>ovl g h
theorem zaN{α:Type}(p:α->Bool)(l:List α)(k:Nat)(hk:k<l.length):(l.take (k+1)).any p=((l.take k).any p||p l[k]):=by rw[List.take_succ_eq_append_getElem hk,List.any_append];simp
theorem zeD(ao bo:Option Addr)(ac bc:Nat)(l m:List Rg)(w:sN)(ha:RdR w ao l)(hb:RdR w bo m)(hl:l.length<=1000000000000)(hml:m.length<=1000000000000):
  sV Tryz.prog 138 #[.slice ao l.length ac,.slice bo m.length bc] w fun e w'=>e=.returned (.bool (mtR l m))/\sQ w.heap.size w w':=by
 have HA:=aa ha;have HB:=aa hb;clear ha hb;go_enter Tryz.func138,Tryz.ntmps138;go_wp2;go_loopw [5,6] (fun x _ wr=>∃i:Nat,i<=l.length/\x=.int .i64 i/\ae (((l.take i).any fun g=>m.any fun h=>ovl g h)=false)/\sQ w.heap.size w wr) (fun x _ _=>l.length-(intOf x).toNat)
 case atStart=>exact⟨0,by omega,rfl,rfl,te _ _⟩
 case round=>
  obtain⟨i,hi,rfl,HE,hBr⟩:=hrel;by_cases hlt:i<l.length
  ·have HT1:=aa (zaN (fun g=>m.any fun h=>ovl g h) l i hlt);have HM1:=aa (tq hlt);have HG:ae (∀W,sQ w.heap.size w W->∃a,ao=some a/\a.block<W.heap.size/\W.cell? (a.add (i*2))=some (.int .i32 l[i].1)/\W.cell? ⟨(a.add (i*2)).block,(a.add (i*2)).off+1,none⟩=some (.int .i32 l[i].2)):=aa (fun W hW=>HA.o.below hW i l[i] (sJ hlt));generalize l[i]=g at HT1 HM1 HG;obtain⟨g0,g1⟩:=g;dsimp only at HG;obtain⟨wo,hwo⟩:=aj wr;rw[<-hwo]at hBr⊢;clear hwo;have HBo:=aa hBr;clear hBr;go_wp2;go_loopw [6] (fun y wr=>∃k:Nat,k<=m.length/\y=.int .i64 k/\ae (((m.take k).any fun h=>ovl (g0,g1) h)=false)/\sQ w.heap.size w wr) (fun y _=>m.length-(intOf y).toNat)
   case atStart=>exact⟨0,by omega,rfl,rfl,HBo.o⟩
   case round=>
    obtain⟨k,hk,rfl,HE2,hBr⟩:=hrel;by_cases hkt:k<m.length
    ·have HT2:=aa (zaN (fun h=>ovl (g0,g1) h) m k hkt);have HM2:=aa (tq hkt);obtain⟨a,rfl,ha,a0,a1⟩:=HG.o wr hBr;obtain⟨b,rfl,hb,b0,b1⟩:=HB.o.below hBr k m[k] (sJ hkt);generalize m[k]=h at HT2 HM2 b0 b1;obtain⟨h0,h1⟩:=h;dsimp only at b0 b1 HT2;by_cases q0:g0<=h1
     ·have d0:decide (g0<=h1)=true:=decide_eq_true q0;by_cases q1:h0<=g1
      ·have d1:decide (h0<=g1)=true:=decide_eq_true q1;have HZ:=aa (show mtR l m=true by unfold mtR;exact tr.2 ⟨_,HM1.o,tr.2 ⟨_,HM2.o,by unfold ovl;simp[q0,q1]⟩⟩);go_wp2_with fail;go_region
       all_goals
        go_wp2;go_ret;exact⟨by rw[HZ.o];rfl,hBr.drew⟩
      ·have d1:decide (h0<=g1)=false:=decide_eq_false q1;have q1':g1<h0:=by omega
       have HZ:ae (((m.take (k+1)).any fun h=>ovl (g0,g1) h)=false):=aa (by rw[HT2.o,HE2.o];unfold ovl;simp[q0];omega);go_wp2_with fail;go_region
       all_goals
        go_wp2;go_roundw
        case rel=>exact⟨k+1,by omega,by go_num,HZ,hBr.drew⟩
        case measure=>simp[intOf];omega
     ·have d0:decide (g0<=h1)=false:=decide_eq_false q0;have q0':h1<g0:=by omega
      have HZ:ae (((m.take (k+1)).any fun h=>ovl (g0,g1) h)=false):=aa (by rw[HT2.o,HE2.o];unfold ovl;simp;omega);go_wp2_with fail;go_region
      all_goals
       go_wp2;go_roundw
       case rel=>exact⟨k+1,by omega,by go_num,HZ,hBr.drew⟩
       case measure=>simp[intOf];omega
    ·have HZ:=aa (show((l.take (i+1)).any fun g=>m.any fun h=>ovl g h)=false by rw[HT1.o,HE.o];have h5:=HE2.o;rw[sU (by omega)]at h5;rw[h5];rfl);go_wp2;go_roundw
     case rel=>exact⟨i+1,by omega,by go_num,HZ,hBr⟩
     case measure=>simp[intOf];omega
  ·have HZ:=aa (show mtR l m=false by have h5:=HE.o;rw[sU (by omega)]at h5;exact h5);go_wp2;go_ret;exact⟨by rw[HZ.o];rfl,hBr⟩
end Dc
end Go.Proofs.YtbbapnpdfcgjnaaGreatDoor
