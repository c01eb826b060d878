/- LiMath, LiLoc: parts of the proof, joined. -/
import Derived.Test.YtbbapnpdfcgjnaaGreatDoorEPtEv
open Bool renaming and_eq_true->sR, or_eq_true->sT, or_true->tA, false_or->tC, true_and->tD
open List renaming getD_eq_getElem?_getD->sS, headD_cons->sU, mem_singleton->sW, getElem?_eq_some_iff->sX, all_eq_true->sY, not_mem_nil->sZ, dropWhile_cons_of_neg->ta, mem_cons->tc, mem_of_getElem?->td, getElem?_eq_getElem->tf, mem_range->tj, range->tk, dropWhile_cons_of_pos->tn, drop_eq_getElem_cons->tq, cons_append->tr, dropWhile_sublist->tt, reverse_append->tu, all_cons->tw, tail_cons->tB
open Nat renaming add_sub_cancel->sV, eq_or_lt_of_le->te, eq_zero_or_pos->tg, le_refl->ti, mod_two_eq_zero_or_one->tp, lt_or_ge->tz, le_trans->tE, add_zero->tF
set_option maxHeartbeats 64000000
namespace Go.Proofs.YtbbapnpdfcgjnaaGreatDoor
section
open Go.RowKit
namespace Li
open Pt
def cq(c:List Int)(k:Nat):List Int:=(c.take k).reverse
theorem zoT(c:List Int):cq c 0=[]:=rfl
theorem jW{c:List Int}{k:Nat}(h:k<c.length):cq c (k+1)=c.getD k 0::cq c k:=by
 unfold cq;rw[List.take_succ_eq_append_getElem h,tu,sS,tf h]
 rfl
def stp(c:List Int)(f:Int->Bool):Nat->Nat
 |0=>0
 |k+1=>if f (c.getD k 0)then stp c f k else k+1
theorem stp_le(c:List Int)(f:Int->Bool):∀k,stp c f k<=k
 |0=>ti _
 |k+1=>by
  unfold stp;have:=stp_le c f k
  split<;>omega
theorem j6(c:List Int)(f:Int->Bool):∀k,k<=c.length->(cq c k).dropWhile f=cq c (stp c f k)
 |0,_=>rfl
 |k+1,h=>by
  rw[jW (by omega)]
  unfold stp
  cases hf:f (c.getD k 0)with
  |true=>rw[tn hf,if_pos rfl];exact j6 c f k (by omega)
  |false=>rw[ta (by rw[hf];simp),if_neg (by simp),jW (by omega)]
theorem lV(c:List Int)(f:Int->Bool):∀k m,stp c f k<=m->m<k->f (c.getD m 0)=true
 |0,m,_,h=>by omega
 |k+1,m,h1,h2=>by
  unfold stp at h1
  split at h1
  ·rename_i hf
   rcases te (Nat.le_of_lt_succ h2)with e|e
   ·exact e ▸ hf
   ·exact lV c f k m h1 e
  ·omega
theorem zab(c:List Int)(f:Int->Bool):∀k,0<stp c f k->f (c.getD (stp c f k-1) 0)=false
 |0,h=>by unfold stp at h;omega
 |k+1,h=>by
  unfold stp at h⊢
  split
  ·rename_i hf
   rw[if_pos hf]at h;exact zab c f k h
  ·rename_i hf
   rw[sV]
   simpa using hf
theorem zac{c:List Int}{f:Int->Bool}{j k:Nat}(hj:j<=k)(h1:∀m,j<=m->m<k->f (c.getD m 0)=true)(h2:j=0\/f (c.getD (j-1) 0)=false):stp c f k=j:=by
 rcases Nat.lt_trichotomy (stp c f k) j with h|h|h
 ·rcases h2 with h2|h2
  ·omega
  ·have:=lV c f k (j-1) (by omega) (by omega)
   rw[h2]at this
   cases this
 ·exact h
 ·have h3:=zab c f k (by omega)
  have h4:=stp_le c f k;rw[h1 _ (by omega) (by omega)]at h3
  cases h3
theorem qh{c:List Int}{k:Nat}(hk:k<=c.length){z:Int}(hz:z≠ -1):(cq c k).headD (-1)=z ↔ 0<k/\c.getD (k-1) 0=z:=by
 cases k with
 |zero=>rw[zoT];exact⟨fun h=>absurd h.symm hz,fun h=>by omega⟩
 |succ k=>rw[jW (by omega),sU,sV];exact⟨fun h=>⟨by omega,h⟩,fun h=>h.2⟩
def cz(z:Int):Bool:=z==8
theorem zgG(z:Int):cz z=true ↔ z∈([8]:List Int):=by
 unfold cz;rw[beq_iff_eq,sW]
theorem dJ{c:List Int}{i:Nat}(h:i<c.length):c[i]?=some (c.getD i 0):=by
 rw[sS,tf h];rfl
def Rw(c:List Int)(i k:Nat):Prop:=i<=k/\∀m,i<=m->m<k->∃z,c[m]?=some z/\z∈([8]:List Int)
theorem j7(c:List Int)(i k:Nat):cr (aQ c (.mk 1 [8] [])) i k ↔ Rw c i k:=zbY c [8] [] i k
theorem zqf{c:List Int}{i k:Nat}(hk:k<=c.length):Rw c i k ↔ i<=k/\∀m,i<=m->m<k->cz (c.getD m 0)=true:=by
 unfold Rw;refine and_congr_right fun _=>forall_congr' fun m=>forall_congr' fun _=>forall_congr' fun hm=>?_
 rw[zgG,dJ (by omega)]
 exact⟨fun⟨z,h1,h2⟩=>by cases h1;exact h2,fun h=>⟨_,rfl,h⟩⟩
def EnR(c T:List Int)(k:Nat):Prop:=∃i,(∃z,c[i]?=some z/\z∈T)/\Rw c (i+1) k
theorem enr{c T:List Int}(hT:∀z∈T,cz z=false/\z≠ -1){k:Nat}(hk:k<=c.length):EnR c T k ↔ ((cq c k).dropWhile cz).headD (-1)∈T:=by
 have hle:=stp_le c cz k;rw[j6 c _ k hk]
 constructor
 ·rintro ⟨i,⟨z,h1,h2⟩,h3⟩
  have hil:=(sX.1 h1).1;obtain⟨h4,h5⟩:=(zqf hk).1 h3;have hz:c.getD i 0=z:=by rw[sS,h1];rfl
  have e:=zac (f:=cz) h4 h5 (.inr (by rw[sV,hz];exact(hT z h2).1))
  rw[e,jW hil,sU,hz];exact h2
 ·intro h
  obtain⟨z,hz⟩:=am ((cq c (stp c cz k)).headD (-1));rw[<- hz]at h;obtain⟨h1,h2⟩:=(qh (by omega) (hT z h).2).1 hz.symm
  refine⟨stp c cz k-1,⟨z,?_,h⟩,?_⟩
  ·rw[dJ (by omega),h2]
  ·rw[show stp c cz k-1+1=stp c cz k by omega]
   exact(zqf hk).2 ⟨hle,fun m h3 h4=>lV c _ k m h3 h4⟩
theorem zxK(c T:List Int)(k:Nat):En c (.mk 2 [] [(.mk 1 T []),(.mk 4 [] [(.mk 1 [8] [])])]) k ↔ EnR c T k:=by
 unfold En EnR
 simp only[zaQ,gI,gJ,zen,j7,mq]
 constructor
 ·rintro ⟨i,_,_,⟨rfl,z,h1,h2⟩,_,h3,rfl⟩
  exact⟨i,⟨z,h1,h2⟩,h3⟩
 ·rintro ⟨i,⟨z,h1,h2⟩,h3⟩
  have:=h3.1;exact⟨i,by omega,i+1,⟨rfl,z,h1,h2⟩,k,h3,rfl⟩
theorem en_1{c T:List Int}{k:Nat}(hk:0<k):En c (.mk 1 T []) k ↔ ∃z,c[k-1]?=some z/\z∈T:=by
 unfold En
 simp only[mq]
 constructor
 ·rintro ⟨i,_,rfl,h⟩
  exact h
 ·intro h
  exact⟨k-1,by omega,by omega,h⟩
theorem en_0(c:List Int)(k:Nat):En c (.mk 0 [] []) k:=⟨k,ti _,(zxu _ _ _).2 rfl⟩
theorem sw_0(c:List Int){k:Nat}(hk:k<=c.length):Sw c (.mk 0 [] []) k:=⟨k,ti _,hk,(zxu _ _ _).2 rfl⟩
theorem sw_1{c T:List Int}{k:Nat}:Sw c (.mk 1 T []) k ↔ ∃z,c[k]?=some z/\z∈T:=by
 unfold Sw
 simp only[mq]
 constructor
 ·rintro ⟨_,_,_,rfl,h⟩
  exact h
 ·rintro ⟨z,h1,h2⟩
  have:=(sX.1 h1).1;exact⟨k+1,by omega,by omega,rfl,z,h1,h2⟩
def rgc(z:Int):Bool:=z==25||cz z
def ip:List Int->Bool->Bool
 |[],o=>o
 |z::l,o=>if z==25 then ip l (!o)else if cz z then ip l o else o
def cnt(c:List Int)(i:Nat):Nat->Nat
 |0=>0
 |k+1=>if i<=k then (cnt c i k+if c.getD k 0==25 then 1 else 0)else 0
theorem qa{c:List Int}{i k:Nat}(h:i<=k):cnt c i (k+1)=cnt c i k+if c.getD k 0==25 then 1 else 0:=by
 conv=>lhs;unfold cnt
 rw[if_pos h]
theorem qd(c:List Int)(i:Nat):cnt c i i=0:=by
 cases i with
 |zero=>rfl
 |succ k=>unfold cnt;rw[if_neg (by omega)]
theorem ft(c:List Int){i j:Nat}(hij:i<=j):∀k,j<=k->cnt c i k=cnt c i j+cnt c j k
 |0,h=>by
  obtain rfl:j=0:=by omega
  rfl
 |k+1,h=>by
  rcases te h with e|e
  ·rw[<- e,qd];rfl
  ·rw[qa (by omega),qa (by omega:j<=k),ft c hij k (by omega)]
   omega
theorem qb{c:List Int}{i:Nat}:∀k,Rw c i k->cnt c i k=0
 |0,_=>rfl
 |k+1,h=>by
  rcases te h.1 with e|e
  ·rw[<- e,qd]
  ·rw[qa (by omega),qb k ⟨by omega,fun m h1 h2=>h.2 m h1 (by omega)⟩]
   obtain⟨z,h1,h2⟩:=h.2 k (by omega) (by omega)
   have hz:c.getD k 0=z:=by rw[sS,h1];rfl
   rw[hz];have:(z==25)=false:=by
    rw[beq_eq_false_iff_ne];rintro rfl
    revert h2
    decide
   rw[this];rfl
theorem zbp{c:List Int}{i:Nat}(h:c[i]?=some 25):cnt c i (i+1)=1:=by
 rw[qa (ti _),qd];have hz:c.getD i 0=25:=by rw[sS,h];rfl
 rw[hz];rfl
def Rg(c:List Int)(i k:Nat):Prop:=i<=k/\∀m,i<=m->m<k->∃z,c[m]?=some z/\rgc z=true
theorem Rg.nil(c:List Int)(i:Nat):Rg c i i:=⟨ti _,fun m h1 h2=>by omega⟩
theorem Rg.trans{c:List Int}{i j k:Nat}(h:Rg c i j)(h2:Rg c j k):Rg c i k:=⟨tE h.1 h2.1,fun m h3 h4=>by
 rcases tz m j with e|e
 ·exact h.2 m h3 e
 ·exact h2.2 m e h4⟩
theorem Rw.rg{c:List Int}{i k:Nat}(h:Rw c i k):Rg c i k:=⟨h.1,fun m h1 h2=>by
 obtain⟨z,h3,h4⟩:=h.2 m h1 h2;exact⟨z,h3,by unfold rgc;rw[(zgG z).2 h4,tA]⟩⟩
theorem Rg.one{c:List Int}{i:Nat}(h:c[i]?=some 25):Rg c i (i+1):=⟨by omega,fun m h1 h2=>by
 obtain rfl:m=i:=by omega
 exact⟨25,h,by decide⟩⟩
def mT:az:=.mk 2 [] [(.mk 1 [25] []),(.mk 4 [] [(.mk 1 [8] [])]),(.mk 1 [25] []),(.mk 4 [] [(.mk 1 [8] [])])]
theorem zhT(c:List Int)(i k:Nat):aQ c mT i k ↔ c[i]?=some 25/\∃m,Rw c (i+1) m/\c[m]?=some 25/\Rw c (m+1) k:=by
 unfold mT
 simp only[zaQ,gI,gJ,zen,j7,mq,sW]
 constructor
 ·rintro ⟨_,⟨rfl,z,h1,rfl⟩,m,h2,_,⟨rfl,y,h3,rfl⟩,_,h4,rfl⟩
  exact⟨h1,m,h2,h3,h4⟩
 ·rintro ⟨h1,m,h2,h3,h4⟩
  exact⟨_,⟨rfl,25,h1,rfl⟩,m,h2,_,⟨rfl,25,h3,rfl⟩,k,h4,rfl⟩
theorem zpU{c:List Int}{i k:Nat}(h:aQ c mT i k):Rg c i k/\cnt c i k=2:=by
 obtain⟨h1,m,h2,h3,h4⟩:=(zhT c i k).1 h;have q1:=h2.1;have q2:=h4.1;refine⟨(((Rg.one h1).trans h2.rg).trans (Rg.one h3)).trans h4.rg,?_⟩;rw[ft c (by omega:i<=i+1) k (by omega),ft c (by omega:i+1<=m) k (by omega),ft c (by omega:m<=m+1) k (by omega),zbp h1,qb m h2,zbp h3,qb k h4]
theorem zlk{c:List Int}{i k:Nat}(h:cr (aQ c mT) i k):Rg c i k/\cnt c i k%2=0:=by
 induction h with
 |refl i=>exact⟨.nil c i,by rw[qd]⟩
 |step h1 _ ih=>
  obtain⟨q1,q2⟩:=zpU h1;obtain⟨q3,q4⟩:=ih;refine⟨q1.trans q3,?_⟩;rw[ft c q1.1 _ q3.1];omega
theorem Rw.nil(c:List Int)(i:Nat):Rw c i i:=⟨ti _,fun m h1 h2=>by omega⟩
theorem Rw.snoc{c:List Int}{i k:Nat}{z:Int}(h:Rw c i k)(h1:c[k]?=some z)(h2:cz z=true):Rw c i (k+1):=⟨Nat.le_succ_of_le h.1,fun m h3 h4=>by
 rcases tz m k with e|e
 ·exact h.2 m h3 e
 ·obtain rfl:m=k:=by omega
  exact⟨z,h1,(zgG z).1 h2⟩⟩
def Ev(c:List Int)(i k:Nat):Prop:=Rw c i k\/∃j x m,Rw c i j/\cr (aQ c mT) j x/\c[x]?=some 25/\Rw c (x+1) m/\c[m]?=some 25/\Rw c (m+1) k
def Od(c:List Int)(i k:Nat):Prop:=∃j x,Rw c i j/\cr (aQ c mT) j x/\c[x]?=some 25/\Rw c (x+1) k
theorem zrd{c:List Int}{i k:Nat}(h:Ev c i k):∃j,Rw c i j/\cr (aQ c mT) j k:=by
 rcases h with h|⟨j,x,m,h1,h2,h3,h4,h5,h6⟩
 ·exact⟨k,h,.refl k⟩
 ·exact⟨j,h1,h2.trans (.step ((zhT c x k).2 ⟨h3,m,h4,h5,h6⟩) (.refl k))⟩
theorem zsu(c:List Int)(i:Nat):∀k,Rg c i k->(cnt c i k%2=0->Ev c i k)/\(cnt c i k%2=1->Od c i k)
 |0,h=>by
  obtain rfl:i=0:=by have:=h.1;omega
  exact⟨fun _=>.inl (.nil c 0),fun e=>by rw[qd]at e;cases e⟩
 |k+1,h=>by
  rcases te h.1 with e|e
  ·subst e
   exact⟨fun _=>.inl (.nil c _),fun e=>by rw[qd]at e;cases e⟩
  ·obtain⟨h1,h2⟩:=zsu c i k ⟨by omega,fun m h3 h4=>h.2 m h3 (by omega)⟩
   obtain⟨z,hz,hr⟩:=h.2 k (by omega) (by omega)
   have hzg:c.getD k 0=z:=by rw[sS,hz];rfl
   rw[qa (by omega),hzg]
   unfold rgc at hr
   cases h7:(z==25)with
   |true=>
    rw[if_pos rfl];have hz7:z=25:=eq_of_beq h7;subst hz7
    constructor
    ·intro e2
     obtain⟨j,x,k1,k2,k3,k4⟩:=h2 (by omega)
     exact .inr ⟨j,x,k,k1,k2,k3,k4,hz,.nil c _⟩
    ·intro e2
     obtain⟨j,k1,k2⟩:=zrd (h1 (by omega))
     exact⟨j,k,k1,k2,hz,.nil c _⟩
   |false=>
    rw[if_neg (by simp),tF]
    rw[h7,tC]at hr
    constructor
    ·intro e2
     rcases h1 e2 with h3|⟨j,x,m,k1,k2,k3,k4,k5,k6⟩
     ·exact .inl (h3.snoc hz hr)
     ·exact .inr ⟨j,x,m,k1,k2,k3,k4,k5,k6.snoc hz hr⟩
    ·intro e2
     obtain⟨j,x,k1,k2,k3,k4⟩:=h2 e2;exact⟨j,x,k1,k2,k3,k4.snoc hz hr⟩
theorem zaC{c:List Int}{i k:Nat}(h:Od c i k):Rg c i k/\cnt c i k%2=1:=by
 obtain⟨j,x,h1,h2,h3,h4⟩:=h;obtain⟨q1,q2⟩:=zlk h2;have q3:=h1.1;have q4:=q1.1;have q5:=h4.1;refine⟨((h1.rg.trans q1).trans (Rg.one h3)).trans h4.rg,?_⟩;rw[ft c q3 k (by omega),ft c q4 k (by omega),ft c (by omega:x<=x+1) k (by omega),qb j h1,zbp h3,qb k h4]
 omega
theorem zrS(c:List Int)(i k:Nat):Od c i k ↔ Rg c i k/\cnt c i k%2=1:=⟨zaC,fun h=>(zsu c i k h.1).2 h.2⟩
theorem zvu(c:List Int)(i k:Nat):aQ c rK i k ↔ Od c i k:=by
 unfold rK Od
 simp only[zaQ,gI,gJ,zen,j7,mq,sW]
 have e:(fun i j=>aQ c (.mk 2 [] [(.mk 1 [25] []),(.mk 4 [] [(.mk 1 [8] [])]),(.mk 1 [25] []),(.mk 4 [] [(.mk 1 [8] [])])]) i j)=aQ c mT:=rfl
 constructor
 ·rintro ⟨j,h1,x,h2,_,⟨rfl,z,h3,rfl⟩,_,h4,rfl⟩
  exact⟨j,x,h1,h2,h3,h4⟩
 ·rintro ⟨j,x,h1,h2,h3,h4⟩
  exact⟨j,h1,x,h2,_,⟨rfl,25,h3,rfl⟩,k,h4,rfl⟩
theorem zlY(c:List Int):∀k,k<=c.length->∀o,ip (cq c k) o=(o != (cnt c (stp c rgc k) k%2==1))
 |0,_,o=>by cases o<;>rfl
 |k+1,hk,o=>by
  have hle:=stp_le c rgc k;have ih:=zlY c k (by omega)
  rw[jW (by omega)]
  unfold ip stp
  cases h7:(c.getD k 0==25)with
  |true=>
   have hr:rgc (c.getD k 0)=true:=by unfold rgc;rw[h7];rfl
   rw[if_pos rfl,if_pos hr,ih (!o),qa hle,h7,if_pos rfl]
   generalize cnt c (stp c rgc k) k=n
   rcases tp n with e|e
   ·rw[e,show(n+1)%2=1 by omega];cases o<;>rfl
   ·rw[e,show(n+1)%2=0 by omega];cases o<;>rfl
  |false=>
   cases hc:cz (c.getD k 0)with
   |true=>
    have hr:rgc (c.getD k 0)=true:=by unfold rgc;rw[hc,tA]
    rw[if_neg (by simp),if_pos rfl,if_pos hr,ih o,qa hle,h7,if_neg (by simp),tF]
   |false=>
    have hr:rgc (c.getD k 0)=false:=by unfold rgc;rw[h7,hc];rfl
    rw[if_neg (by simp),if_neg (by simp),if_neg (by rw[hr];simp),qd]
    cases o<;>rfl
def Cls(c:List Int):Prop:=∀z∈c,0<=z/\z<=25
def LR:List Int:=[0,1,2,3,4,5,6,7,9,10,11,12,13,14,15,16,17,18,19,20,21,22,23,24]
theorem zrW{z:Int}(h:0<=z/\z<=25):z∈LR ↔ rgc z=false:=by
 obtain⟨n,rfl⟩:∃n:Nat,z=n:=⟨z.toNat,by omega⟩
 have H:((tk 26).all fun(n:Nat)=>decide ((n:Int)∈LR)== !rgc (n:Int))=true:=by decide
 have h1:=eq_of_beq (sY.1 H n (tj.2 (by omega)))
 rw[<- decide_eq_true_iff (p:=(n:Int)∈LR),h1]
 simp
def Od2(c:List Int)(k:Nat):Prop:=∃i,(∃z,c[i]?=some z/\z∈LR)/\Od c (i+1) k
theorem zxM(c:List Int)(k:Nat):En c pE k ↔ Od2 c k:=by
 have e:∀i,aQ c pE i k ↔ (∃z,c[i]?=some z/\z∈LR)/\Od c (i+1) k:=fun i=>by
  unfold pE Od LR
  simp only[zaQ,gI,gJ,zen,j7,mq]
  constructor
  ·rintro ⟨_,⟨rfl,h0⟩,j,h1,x,h2,_,⟨rfl,z,h3,hz⟩,_,h4,rfl⟩
   rw[sW]at hz;subst hz;exact⟨h0,j,x,h1,h2,h3,h4⟩
  ·rintro ⟨h0,j,x,h1,h2,h3,h4⟩
   exact⟨_,⟨rfl,h0⟩,j,h1,x,h2,_,⟨rfl,25,h3,by simp⟩,k,h4,rfl⟩
 unfold En Od2
 constructor
 ·rintro ⟨i,_,h⟩
  exact⟨i,(e i).1 h⟩
 ·rintro ⟨i,h⟩
  have:=(zaC h.2).1.1;exact⟨i,by omega,(e i).2 h⟩
theorem zlI{c:List Int}{i k:Nat}(h:Rg c i k)(h2:i=0\/rgc (c.getD (i-1) 0)=false):stp c rgc k=i:=
 zac h.1 (fun m h3 h4=>by
  obtain⟨z,h5,h6⟩:=h.2 m h3 h4;rw[sS,h5];exact h6) h2
theorem zte{c:List Int}(hc:Cls c){k:Nat}(hk:k<=c.length):(Od c 0 k\/Od2 c k) ↔ ip (cq c k) false=true:=by
 have hle:=stp_le c rgc k;rw[zlY c k hk];have hrg:Rg c (stp c rgc k) k:=⟨hle,fun m h1 h2=>⟨_,dJ (by omega),lV c rgc k m h1 h2⟩⟩
 constructor
 ·rintro (h|⟨i,⟨z,h1,h2⟩,h3⟩)
  ·obtain⟨h4,h5⟩:=zaC h
   rw[zlI h4 (.inl rfl),h5];rfl
  ·obtain⟨h4,h5⟩:=zaC h3
   have hz:c.getD i 0=z:=by rw[sS,h1];rfl
   rw[zlI h4 (.inr (by rw[sV,hz];exact(zrW (hc z (td h1))).1 h2)),h5];rfl
 ·intro h
  have ho:cnt c (stp c rgc k) k%2=1:=by
   rcases tp (cnt c (stp c rgc k) k)with e|e
   ·rw[e]at h;cases h
   ·exact e
  rcases tg (stp c rgc k)with e|e
  ·left
   rw[e]at hrg ho;exact(zrS c 0 k).2 ⟨hrg,ho⟩
  ·right
   obtain⟨i,hi⟩:∃i,stp c rgc k=i+1:=⟨stp c rgc k-1,by omega⟩
   have ht:=zab c rgc k e;rw[hi]at hrg ho ht hle;rw[sV]at ht;have hg:=dJ (c:=c) (i:=i) (by omega)
   exact⟨i,⟨_,hg,(zrW (hc _ (td hg))).2 ht⟩,(zrS c (i+1) k).2 ⟨hrg,ho⟩⟩
theorem pk:∀A:List Int,ip A false=true->(A.dropWhile cz).headD (-1)=25
 |[],h=>by cases h
 |z::l,h=>by
  unfold ip at h
  cases h7:(z==25)with
  |true=>
   have:z=25:=eq_of_beq h7;subst this
   rfl
  |false=>
   rw[h7,if_neg (by simp)]at h
   cases hc:cz z with
   |true=>
    rw[hc,if_pos rfl]at h;rw[tn hc];exact pk l h
   |false=>rw[hc,if_neg (by simp)]at h;cases h
def gv(z:Int):Bool:=z==4
def Rs(c:List Int)(i k:Nat):Prop:=i<=k/\∀m,i<=m->m<k->∃z,c[m]?=some z/\z∈([4]:List Int)
theorem zli(c:List Int)(i k:Nat):cr (aQ c (.mk 1 [4] [])) i k ↔ Rs c i k:=zbY c [4] [] i k
theorem zlx{c:List Int}{i k:Nat}(h:Rs c i k)(h2:i=0\/gv (c.getD (i-1) 0)=false):stp c gv k=i:=
 zac h.1 (fun m h3 h4=>by
  obtain⟨z,h5,h6⟩:=h.2 m h3 h4;rw[sS,h5];rw[sW]at h6;rw[h6];rfl) h2
theorem zlf(c:List Int){k:Nat}(hk:k<=c.length):Rs c (stp c gv k) k:=⟨stp_le c gv k,fun m h1 h2=>⟨_,dJ (by omega),by
 have:=lV c gv k m h1 h2;rw[sW];exact eq_of_beq this⟩⟩
theorem zxJ{c T:List Int}(hT:∀z∈T,gv z=false/\z≠ -1){k:Nat}(hk:k<=c.length):En c (.mk 2 [] [(.mk 1 T []),(.mk 4 [] [(.mk 1 [4] [])])]) k ↔ ((cq c k).dropWhile gv).headD (-1)∈T:=by
 have hle:=stp_le c gv k;have e0:En c (.mk 2 [] [(.mk 1 T []),(.mk 4 [] [(.mk 1 [4] [])])]) k ↔ ∃i,(∃z,c[i]?=some z/\z∈T)/\Rs c (i+1) k:=by
  unfold En
  simp only[zaQ,gI,gJ,zen,zli,mq]
  constructor
  ·rintro ⟨i,_,_,⟨rfl,z,h1,h2⟩,_,h3,rfl⟩
   exact⟨i,⟨z,h1,h2⟩,h3⟩
  ·rintro ⟨i,⟨z,h1,h2⟩,h3⟩
   have:=h3.1;exact⟨i,by omega,i+1,⟨rfl,z,h1,h2⟩,k,h3,rfl⟩
 rw[e0,j6 c _ k hk]
 constructor
 ·rintro ⟨i,⟨z,h1,h2⟩,h3⟩
  have hil:=(sX.1 h1).1;have hz:c.getD i 0=z:=by rw[sS,h1];rfl
  rw[zlx h3 (.inr (by rw[sV,hz];exact(hT z h2).1)),jW hil,sU,hz]
  exact h2
 ·intro h
  obtain⟨z,hz⟩:=am ((cq c (stp c gv k)).headD (-1));rw[<- hz]at h;obtain⟨h1,h2⟩:=(qh (by omega) (hT z h).2).1 hz.symm
  have hr:=zlf c hk;refine⟨stp c gv k-1,⟨z,by rw[dJ (by omega),h2],h⟩,?_⟩
  rw[show stp c gv k-1+1=stp c gv k by omega];exact hr
theorem zvN{c T:List Int}(hT:∀z∈T,cz z=false/\z≠ -1)(h4:∀z∈T,gv z=false){k:Nat}(hk:k<=c.length):En c (.mk 2 [] [(.mk 1 T []),(.mk 4 [] [(.mk 1 [8] [])]),(.mk 4 [] [(.mk 1 [4] [])])]) k ↔ (((cq c k).dropWhile gv).dropWhile cz).headD (-1)∈T:=by
 have hle:=stp_le c gv k;rw[j6 c gv k hk,<- enr hT (by omega)]
 unfold En EnR
 simp only[zaQ,gI,gJ,zen,j7,zli,mq]
 constructor
 ·rintro ⟨i,_,_,⟨rfl,z,h1,h2⟩,j,h3,x,h5,hx⟩
  rw[hx]at h5;have hz:c.getD i 0=z:=by rw[sS,h1];rfl
  have e:stp c gv k=j:=zlx h5 (.inr (by
   have h30:=h3.1
   rcases te h30 with e|e
   ·rw[<- e,sV,hz];exact h4 z h2
   ·obtain⟨y,h6,h7⟩:=h3.2 (j-1) (by omega) (by omega)
    rw[sS,h6];rw[sW]at h7;rw[h7];rfl))
  rw[e];exact⟨i,⟨z,h1,h2⟩,h3⟩
 ·rintro ⟨i,⟨z,h1,h2⟩,h3⟩
  have:=h3.1;exact⟨i,by omega,i+1,⟨rfl,z,h1,h2⟩,_,h3,k,zlf c hk,rfl⟩
def bR(A:List Int):Int:=(A.dropWhile cz).headD (-1)
theorem zci{c:List Int}{i j k:Nat}(h:Rw c i j)(h2:Rw c j k):Rw c i k:=⟨tE h.1 h2.1,fun m h3 h4=>by
 rcases tz m j with e|e
 ·exact h.2 m h3 e
 ·exact h2.2 m e h4⟩
theorem zle(c:List Int){k:Nat}(hk:k<=c.length):Rw c (stp c cz k) k:=(zqf hk).2 ⟨stp_le c cz k,fun m h1 h2=>lV c cz k m h1 h2⟩
theorem zlr{c:List Int}{i k:Nat}(hk:k<=c.length)(h:Rw c i k)(h2:i=0\/cz (c.getD (i-1) 0)=false):stp c cz k=i:=by
 obtain⟨h3,h4⟩:=(zqf hk).1 h;exact zac h3 h4 h2
def Opt(c U:List Int)(P:Nat->Prop)(k:Nat):Prop:=∃j,P j/\∃j2,(j=j2\/(j2=j+1/\∃z,c[j]?=some z/\z∈U))/\Rw c j2 k
theorem zlV{c U:List Int}{P:Nat->Prop}(hcl:∀i k,P i->Rw c i k->P k)(hU:∀z∈U,cz z=false/\z≠ -1)(hP:∀k,k<=c.length->P k->bR (cq c k) ∉ U){k:Nat}(hk:k<=c.length):
  Opt c U P k ↔ (if bR (cq c k)∈U then P (stp c cz k-1)else P k):=by
 have hle:=stp_le c cz k;have hd:=j6 c cz k hk
 constructor
 ·rintro ⟨j,h1,j2,rfl|⟨rfl,z,h2,h3⟩,h4⟩
  ·have h5:=hcl j k h1 h4
   rw[if_neg (hP k hk h5)];exact h5
  ·have hil:=(sX.1 h2).1
   have hz:c.getD j 0=z:=by rw[sS,h2];rfl
   have e:=zlr hk h4 (.inr (by rw[sV,hz];exact(hU z h3).1))
   have hl:bR (cq c k)=z:=by unfold bR;rw[hd,e,jW hil,sU,hz]
   rw[if_pos (by rw[hl];exact h3),e,sV]
   exact h1
 ·intro h
  by_cases hm:bR (cq c k)∈U
  ·rw[if_pos hm]at h
   have hl:(cq c (stp c cz k)).headD (-1)=bR (cq c k):=by unfold bR;rw[hd]
   obtain⟨h1,h2⟩:=(qh (by omega) (hU _ hm).2).1 hl
   refine⟨_,h,stp c cz k,.inr ⟨by omega,_,by rw[dJ (by omega),h2],hm⟩,zle c hk⟩
  ·rw[if_neg hm]at h
   exact⟨k,h,k,.inl rfl,.nil c k⟩
theorem zsZ{c U:List Int}{P:Nat->Prop}(i k:Nat)(h:Opt c U P i)(h2:Rw c i k):Opt c U P k:=by
 obtain⟨j,h3,j2,h4,h5⟩:=h;exact⟨j,h3,j2,h4,zci h5 h2⟩
theorem zvM{c T:List Int}(i k:Nat)(h:EnR c T i)(h2:Rw c i k):EnR c T k:=by
 obtain⟨j,h3,h4⟩:=h;exact⟨j,h3,zci h4 h2⟩
def Num(c:List Int)(k:Nat):Prop:=Opt c [10,11] (Opt c [14,15] (EnR c [20])) k
theorem zxL(c:List Int)(k:Nat):En c rM k ↔ Num c k:=by
 unfold En rM Num Opt EnR
 simp only[zaQ,gI,gJ,zen,j7,zxt,mq]
 constructor
 ·rintro ⟨i,_,_,⟨rfl,h1⟩,j1,h2,j2,h3,j3,h4,j4,h5,_,h6,rfl⟩
  exact⟨j3,⟨j1,⟨i,h1,h2⟩,j2,h3,h4⟩,j4,h5,h6⟩
 ·rintro ⟨j3,⟨j1,⟨i,h1,h2⟩,j2,h3,h4⟩,j4,h5,h6⟩
  have a1:=h2.1;have a2:=h4.1;have a3:=h6.1;have a4:j1<=j2:=by rcases h3 with h|h<;>omega
  have a5:j3<=j4:=by rcases h5 with h|h<;>omega
  exact⟨i,by omega,i+1,⟨rfl,h1⟩,j1,h2,j2,h3,j3,h4,j4,h5,k,h6,rfl⟩
def p1L(A:List Int):Bool:=if bR A==14||bR A==15 then bR (A.dropWhile cz).tail==20 else bR A==20
def nF(A:List Int):Bool:=if bR A==10||bR A==11 then p1L (A.dropWhile cz).tail else p1L A
theorem zrP(c:List Int){k:Nat}(hk:k<=c.length)(h:bR (cq c k)≠ -1):((cq c k).dropWhile cz).tail=cq c (stp c cz k-1):=by
 have hle:=stp_le c cz k;unfold bR at h;rw[j6 c cz k hk]at h⊢
 rcases tg (stp c cz k)with e|e
 ·rw[e,zoT]at h
  exact absurd rfl h
 ·obtain⟨m,hm⟩:∃m,stp c cz k=m+1:=⟨stp c cz k-1,by omega⟩
  rw[hm,jW (by omega),tB,sV]
theorem zlU(c:List Int){k:Nat}(hk:k<=c.length):EnR c [20] k ↔ bR (cq c k)=20:=by
 rw[enr (by decide) hk,sW];rfl
theorem zlT(c:List Int){k:Nat}(hk:k<=c.length):Opt c [14,15] (EnR c [20]) k ↔ p1L (cq c k)=true:=by
 have hle:=stp_le c cz k;rw[zlV (P:=EnR c [20]) (fun i k h h2=>zvM i k h h2) (by decide) (fun k hk h=>by rw[(zlU c hk).1 h];decide) hk]
 unfold p1L
 by_cases h:bR (cq c k)=14\/bR (cq c k)=15
 ·have h1:bR (cq c k)∈([14,15]:List Int):=by simpa using h
  have h2:(bR (cq c k)==14||bR (cq c k)==15)=true:=by simpa using h
  rw[if_pos h1,if_pos h2,zlU c (by omega),zrP c hk (by omega),beq_iff_eq]
 ·have h1:¬bR (cq c k)∈([14,15]:List Int):=by simpa using h
  have h2:¬(bR (cq c k)==14||bR (cq c k)==15)=true:=by simpa using h
  rw[if_neg h1,if_neg h2,zlU c hk,beq_iff_eq]
theorem ztg(c:List Int){k:Nat}(hk:k<=c.length):Num c k ↔ nF (cq c k)=true:=by
 have hle:=stp_le c cz k;unfold Num;rw[zlV (P:=Opt c [14,15] (EnR c [20])) (fun i k h h2=>zsZ i k h h2) (by decide) (fun k hk h=>by
  have h1:=(zlT c hk).1 h;unfold p1L at h1;intro h2;have h3:bR (cq c k)=10\/bR (cq c k)=11:=by simpa using h2
  rw[if_neg (by rcases h3 with e|e<;>rw[e]<;>decide)]at h1
  have h4:=eq_of_beq h1;omega) hk]
 unfold nF
 by_cases h:bR (cq c k)=10\/bR (cq c k)=11
 ·have h1:bR (cq c k)∈([10,11]:List Int):=by simpa using h
  have h2:(bR (cq c k)==10||bR (cq c k)==11)=true:=by simpa using h
  rw[if_pos h1,if_pos h2,zlT c (by omega),zrP c hk (by omega)]
 ·have h1:¬bR (cq c k)∈([10,11]:List Int):=by simpa using h
  have h2:¬(bR (cq c k)==10||bR (cq c k)==11)=true:=by simpa using h
  rw[if_neg h1,if_neg h2,zlT c hk]
def qN(c:Int):Bool:=c==1||(c==2||c==3)
def held(a b:Int):Bool:=
 if b==6||b==11||b==10||b==13||b==14||b==15 then true else if a==9 then true else if a==12 then b==9 else if a==11||a==10 then b==24 else if a==18 then b==18 else false
def zig(a b:Int):Bool:=a==6||a==7||b==7&& !(a==4||a==17||a==16)
def tog(a b:Int):Bool:=
 if a==12 then true else if a==0||a==20 then b==0||b==20||b==9||b==21||b==22 else if a==14||a==10||a==21 then b==0||b==20 else
 if a==22 then b==0||b==20||b==23 else if a==16||a==15 then b==20 else if a==23 then b==21 else false
def jnB(s b:Int)(nm nx od:Bool):Bool:=
 if zig s b||(b==12||b==17||b==16||b==24||b==19)||tog s b then true else if b==21||b==22 then nm else if (s==21||s==22)&&b==9 then nx else if s==25&&b==25 then od else false
def lnL(A B:List Int):Bool:=
 if A.headD (-1)==2&&B.headD (-1)==3 then false else if qN (A.headD (-1))then true else if qN (B.headD (-1))||(B.headD (-1)==4||B.headD (-1)==5)then false else
 if (A.dropWhile gv).headD (-1)==5 then true else if A.headD (-1)==4 then !held (bR (A.dropWhile gv)) (B.headD (-1))else
 !(B.headD (-1)==8)&&(!held (bR (A.dropWhile gv)) (B.headD (-1))&& !jnB (bR A) (B.headD (-1)) (nF A) (B.tail.headD (-1)==20) (ip A false))
def lnF(a b s h:Int)(z5 nm nx od:Bool):Bool:=
 if a==2&&b==3 then false else if qN a then true else if qN b||(b==4||b==5)then false else if z5 then true else if a==4 then !held h b else !(b==8)&&(!held h b&& !jnB s b nm nx od)
def lnE(a b s h:Int)(z5 nm nx o0 o1:Bool):Bool:=bif a==2&&b==3 then false else bif (a==1||(a==2||(a==3)))then true else bif (b==1||(b==2||(b==3||(b==4||(b==5)))))then false else bif z5 then true else bif (a==0||(a==6||(a==7||(a==8||(a==9||(a==10||(a==11||(a==12||(a==13||(a==14||(a==15||(a==16||(a==17||(a==18||(a==19||(a==20||(a==21||(a==22||(a==23||(a==24||(a==25)))))))))))))))))))))&&b==8 then false else bif b==6 then false else bif s==6 then false else bif s==7 then false else bif (s==0||(s==1||(s==2||(s==3||(s==5||(s==6||(s==7||(s==9||(s==10||(s==11||(s==12||(s==13||(s==14||(s==15||(s==18||(s==19||(s==20||(s==21||(s==22||(s==23||(s==24||(s==25))))))))))))))))))))))&&b==7 then false else bif s== -1&&b==7 then false else bif (b==10||(b==11||(b==13||(b==14||(b==15)))))then false else bif h==9 then false else bif h==12&&b==9 then false else bif (h==10||(h==11))&&b==24 then false else bif h==18&&b==18 then false else bif a==4 then true else bif b==12 then false else bif s==12 then false else bif (b==16||(b==17||(b==24)))then false else bif b==19 then false else bif s==0&&b==20 then false else bif s==20&&b==0 then false else bif s==22&&b==23 then false else bif s==23&&b==21 then false else bif (s==21||(s==22))&&b==0 then false else bif s==0&&(b==21||(b==22))then false else bif nm&&(b==21||(b==22))then false else bif (s==21||(s==22))&&(b==20||((b==9||b==16)&&nx))then false else bif (s==14||(s==15||(s==16||(s==20))))&&b==20 then false else bif s==0&&b==0 then false else bif s==14&&b==0 then false else bif (s==0||(s==20))&&b==9 then false else bif s==10&&(b==0||(b==20))then false else bif o0&&b==25 then false else bif o1&&b==25 then false else true
def al2(p:Bool->Bool):Bool:=p true&&p false
theorem qk{p:Bool->Bool}(h:al2 p=true)(x:Bool):p x=true:=by
 unfold al2 at h;rw[sR]at h
 cases x
 ·exact h.2
 ·exact h.1
def lnB(a b s h:Int):Bool:=al2 fun z5=>al2 fun nm=>al2 fun nx=>al2 fun o0=>al2 fun o1=>(a==5&& !z5)||(s==20&& !nm)||s==8||((o0||o1)&& !(s==25))||(lnE a b s h z5 nm nx o0 o1==lnF a b s h z5 nm nx (o0||o1))
theorem zxp:((tk 26).all fun a=>(a==4||a==8)||(tk 26).all fun b=>lnB a b a a)=true:=by decide+kernel
theorem zxo:((tk 26).all fun b=>lnB 4 b 4 (-1)&&(tk 26).all fun x=>lnB 4 b 4 x)=true:=by decide+kernel
theorem zxn:((tk 26).all fun b=>lnB 8 b (-1) (-1)&&(tk 26).all fun x=>lnB 8 b x x)=true:=by decide+kernel
theorem m1(x t:Int):x∈ [t] ↔ (x==t)=true:=by rw[sW,beq_iff_eq]
theorem m_0(x:Int):x∈([1,2,3]:List Int) ↔ (x==1||(x==2||(x==3)))=true:=by simp only[tc,sZ,or_false,sT,beq_iff_eq]
theorem m_1(x:Int):x∈([1,2,3,4,5]:List Int) ↔ (x==1||(x==2||(x==3||(x==4||(x==5)))))=true:=by simp only[tc,sZ,or_false,sT,beq_iff_eq]
theorem m_2(x:Int):x∈([0,6,7,8,9,10,11,12,13,14,15,16,17,18,19,20,21,22,23,24,25]:List Int) ↔ (x==0||(x==6||(x==7||(x==8||(x==9||(x==10||(x==11||(x==12||(x==13||(x==14||(x==15||(x==16||(x==17||(x==18||(x==19||(x==20||(x==21||(x==22||(x==23||(x==24||(x==25)))))))))))))))))))))=true:=by simp only[tc,sZ,or_false,sT,beq_iff_eq]
theorem m_3(x:Int):x∈([0,1,2,3,5,6,7,9,10,11,12,13,14,15,18,19,20,21,22,23,24,25]:List Int) ↔ (x==0||(x==1||(x==2||(x==3||(x==5||(x==6||(x==7||(x==9||(x==10||(x==11||(x==12||(x==13||(x==14||(x==15||(x==18||(x==19||(x==20||(x==21||(x==22||(x==23||(x==24||(x==25))))))))))))))))))))))=true:=by simp only[tc,sZ,or_false,sT,beq_iff_eq]
theorem m_4(x:Int):x∈([10,11,13,14,15]:List Int) ↔ (x==10||(x==11||(x==13||(x==14||(x==15)))))=true:=by simp only[tc,sZ,or_false,sT,beq_iff_eq]
theorem m_5(x:Int):x∈([10,11]:List Int) ↔ (x==10||(x==11))=true:=by simp only[tc,sZ,or_false,sT,beq_iff_eq]
theorem m_6(x:Int):x∈([16,17,24]:List Int) ↔ (x==16||(x==17||(x==24)))=true:=by simp only[tc,sZ,or_false,sT,beq_iff_eq]
theorem m_7(x:Int):x∈([21,22]:List Int) ↔ (x==21||(x==22))=true:=by simp only[tc,sZ,or_false,sT,beq_iff_eq]
theorem m_8(x:Int):x∈([14,15,16,20]:List Int) ↔ (x==14||(x==15||(x==16||(x==20))))=true:=by simp only[tc,sZ,or_false,sT,beq_iff_eq]
theorem m_9(x:Int):x∈([0,20]:List Int) ↔ (x==0||(x==20))=true:=by simp only[tc,sZ,or_false,sT,beq_iff_eq]
theorem zvt{a b s h:Int}(ha:0<=a/\a<=25)(hb:0<=b/\b<=25)(hs: -1<=s/\s<=25)(hh: -1<=h/\h<=25)(c1:a≠4->h=s)(c2:a≠8->s=a)(c3:s≠8)(z5 nm nx o0 o1:Bool)(k1:a=5->z5=true)(k2:s=20->nm=true)(k3:(o0||o1)=true->s=25):
  lnE a b s h z5 nm nx o0 o1=lnF a b s h z5 nm nx (o0||o1):=by
 have fin:lnB a b s h=true->lnE a b s h z5 nm nx o0 o1=lnF a b s h z5 nm nx (o0||o1):=fun H=>by
  unfold lnB at H;have H2:=qk (qk (qk (qk (qk H z5) nm) nx) o0) o1
  simp only[sT,sR,beq_iff_eq,Bool.not_eq_true']at H2
  rcases H2 with (((⟨e1,e2⟩|⟨e1,e2⟩)|e1)|⟨e1,e2⟩)|e
  ·rw[k1 e1]at e2;cases e2
  ·rw[k2 e1]at e2;cases e2
  ·exact absurd e1 c3
  ·have:=k3 (by rw[sT];exact e1)
   rw[this]at e2
   cases e2
  ·exact e
 obtain⟨bn,rfl⟩:∃n:Nat,b=n:=⟨b.toNat,by omega⟩
 have hbn:=tj.2 (show bn<26 by omega)
 refine fin ?_
 by_cases e4:a=4
 ·subst e4
  obtain rfl:s=4:=c2 (by decide)
  have k:=sY.1 zxo bn hbn;rw[sR]at k
  rcases Int.lt_or_le h 0 with e|e
  ·obtain rfl:h= -1:=by omega
   exact k.1
  ·obtain⟨x,rfl⟩:∃n:Nat,h=n:=⟨h.toNat,by omega⟩
   exact sY.1 k.2 x (tj.2 (by omega))
 ·obtain rfl:=c1 e4
  by_cases e8:a=8
  ·subst e8
   have k:=sY.1 zxn bn hbn;rw[sR]at k
   rcases Int.lt_or_le h 0 with e|e
   ·obtain rfl:h= -1:=by omega
    exact k.1
   ·obtain⟨x,rfl⟩:∃n:Nat,h=n:=⟨h.toNat,by omega⟩
    exact sY.1 k.2 x (tj.2 (by omega))
  ·obtain rfl:=c2 e8
   obtain⟨x,rfl⟩:∃n:Nat,h=n:=⟨h.toNat,by omega⟩
   have k:=sY.1 zxp x (tj.2 (by omega))
   rw[sT,sT,beq_iff_eq,beq_iff_eq]at k
   rcases k with (k|k)|k
   ·exact absurd (by omega) e4
   ·exact absurd (by omega) e8
   ·exact sY.1 k bn hbn
theorem zwi(c:List Int)(k:Nat):Sw c pF k ↔ ((∃z,c[k]?=some z/\z=20)\/((∃z,c[k]?=some z/\(z=9\/z=16))/\c[k+1]?=some 20)):=by
 unfold Sw pF
 simp only[zaQ,gI,gJ,zxt,led3,zvw,zvx,mq,sW,or_false]
 constructor
 ·rintro ⟨_,_,_,x,h1,_,⟨rfl,z,h2,rfl⟩,rfl⟩
  rcases h1 with rfl|⟨rfl,z,h3,rfl⟩|⟨rfl,z,h3,rfl⟩
  ·exact .inl ⟨20,h2,rfl⟩
  ·exact .inr ⟨⟨9,h3,.inl rfl⟩,h2⟩
  ·exact .inr ⟨⟨16,h3,.inr rfl⟩,h2⟩
 ·rintro (⟨z,h1,rfl⟩|⟨⟨z,h1,h2⟩,h3⟩)
  ·have:=(sX.1 h1).1
   exact⟨k+1,by omega,by omega,k,.inl rfl,k+1,⟨rfl,20,h1,rfl⟩,rfl⟩
  ·have:=(sX.1 h3).1
   refine⟨k+2,by omega,by omega,k+1,.inr ?_,k+2,⟨rfl,20,h3,rfl⟩,rfl⟩
   rcases h2 with rfl|rfl
   ·exact .inl ⟨rfl,9,h1,rfl⟩
   ·exact .inr ⟨rfl,16,h1,rfl⟩
theorem zvv{c:List Int}{k:Nat}(hc:Cls c)(hk:0<k)(hkl:k<=c.length):aQ c m8 0 k ↔ bR (cq c k)= -1:=by
 have hle:=stp_le c cz k;have e0:aQ c m8 0 k ↔ Rw c 0 k:=by
  unfold m8
  simp only[zaQ,gI,gJ,zen,j7,mq]
  constructor
  ·rintro ⟨_,⟨rfl,z,h1,h2⟩,_,h3,rfl⟩
   exact⟨Nat.zero_le _,fun m h4 h5=>by
    rcases tg m with e|e
    ·exact e ▸ ⟨z,h1,h2⟩
    ·exact h3.2 m (by omega) h5⟩
  ·intro h
   obtain⟨z,h1,h2⟩:=h.2 0 (ti _) hk;exact⟨1,⟨rfl,z,h1,h2⟩,k,⟨hk,fun m h4 h5=>h.2 m (Nat.zero_le _) h5⟩,rfl⟩
 rw[e0];unfold bR;rw[j6 c cz k hkl]
 constructor
 ·intro h
  rw[zlr hkl h (.inl rfl),zoT];rfl
 ·intro h
  rcases tg (stp c cz k)with e|e
  ·have:=zle c hkl
   rw[e]at this;exact this
  ·exfalso
   obtain⟨m,hm⟩:∃m,stp c cz k=m+1:=⟨stp c cz k-1,by omega⟩
   rw[hm,jW (by omega),sU]at h
   have:=hc _ (td (dJ (c:=c) (i:=m) (by omega)))
   omega
theorem ztq{c:List Int}(hc:Cls c){k:Nat}(hk:0<k)(hkn:k<c.length):dcd true c k qD=lnL (c.take k).reverse (c.drop k):=by
 have hkl:k<=c.length:=Nat.le_of_lt hkn;have ha:c[k-1]?=some (c.getD (k-1) 0):=dJ (by omega)
 have hb:c[k]?=some (c.getD k 0):=dJ hkn;have hA:(c.take k).reverse=cq c k:=rfl;obtain⟨Z,hZ⟩:∃Z,cq c k=c.getD (k-1) 0::Z:=by
  obtain⟨j,rfl⟩:∃j,k=j+1:=⟨k-1,by omega⟩
  exact⟨cq c j,by rw[jW (by omega),sV]⟩
 have hd:c.drop k=c.getD k 0::c.drop (k+1):=by
  rw[tq hkn,sS,tf hkn];rfl
 have cA:=hc _ (td ha);have cB:=hc _ (td hb);have clA:∀z∈cq c k,0<=z/\z<=25:=fun z hz=>hc z (List.mem_of_mem_take (List.mem_reverse.1 hz))
 have bd:∀A:List Int,(∀z∈A,0<=z/\z<=25)-> -1<=bR A/\bR A<=25:=fun A h=>by
  unfold bR
  cases e:A.dropWhile cz with
  |nil=>exact⟨by simp,by simp⟩
  |cons z Y=>
   have:=h z ((tt _).subset (by rw[e];simp))
   rw[sU];omega
 have cS:=bd _ clA;have cH:=bd ((cq c k).dropWhile gv) (fun z hz=>clA z ((tt _).subset hz))
 have c3:bR (cq c k)≠8:=by
  unfold bR;have:=List.head?_dropWhile_not cz (cq c k)
  cases e:(cq c k).dropWhile cz with
  |nil=>simp
  |cons z Y=>
   rw[e]at this;rw[sU];rintro rfl;have:cz 8=false:=by simpa using this
   cases this
 have c1:c.getD (k-1) 0≠4->bR ((cq c k).dropWhile gv)=bR (cq c k):=fun h=>by
  rw[hZ,ta (by unfold gv;simpa using h)]
 have c2:c.getD (k-1) 0≠8->bR (cq c k)=c.getD (k-1) 0:=fun h=>by
  unfold bR;rw[hZ,ta (by unfold cz;simpa using h),sU]
 have k1:c.getD (k-1) 0=5->(((cq c k).dropWhile gv).headD (-1)==5)=true:=fun h=>by
  rw[hZ,h,ta (by decide)];rfl
 have k2:bR (cq c k)=20->nF (cq c k)=true:=fun h=>by
  unfold nF p1L;rw[h];rfl
 have hO:=zte hc hkl;have hOb:ip (cq c k) false=true->bR (cq c k)=25:=pk (cq c k);have nz:∀{T:List Int},(T.all fun z=> !cz z&& !(z== -1))=true->∀z∈T,cz z=false/\z≠ -1:=fun h z hz=>by
  have:=sY.1 h z hz;rw[sR]at this;exact⟨by simpa using this.1,by simpa using this.2⟩
 have L1:∀(T:List Int),(T.all fun z=> !cz z&& !(z== -1))=true->(En c (.mk 2 [] [(.mk 1 T []),(.mk 4 [] [(.mk 1 [8] [])])]) k ↔ bR (cq c k)∈T):=fun T h=>(zxK c T k).trans (enr (nz h) hkl)
 have LS:∀(T:List Int),(T.all fun z=> !cz z&& !(z== -1))=true->(T.all fun z=> !gv z)=true->(En c (.mk 2 [] [(.mk 1 T []),(.mk 4 [] [(.mk 1 [8] [])]),(.mk 4 [] [(.mk 1 [4] [])])]) k ↔ bR ((cq c k).dropWhile gv)∈T):=fun T h h2=>zvN (nz h) (fun z hz=>by simpa using sY.1 h2 z hz) hkl
 have L5:En c (.mk 2 [] [(.mk 1 [5] []),(.mk 4 [] [(.mk 1 [4] [])])]) k ↔ (((cq c k).dropWhile gv).headD (-1)==5)=true:=by
  rw[zxJ (by decide) hkl,sW,beq_iff_eq]
 have L37:=(zxL c k).trans (ztg c hkl);have ST13:aQ c m8 0 k ↔ (bR (cq c k)== -1)=true:=by rw[zvv hc hk hkl,beq_iff_eq]
 have R1:∀(T:List Int),Sw c (.mk 1 T []) k ↔ c.getD k 0∈T:=fun T=>by
  rw[sw_1,hb];exact⟨fun⟨z,h1,h2⟩=>by cases h1;exact h2,fun h=>⟨_,rfl,h⟩⟩
 have hnx:(c.drop (k+1)).headD (-1)=20 ↔ c[k+1]?=some 20:=by
  cases e:c[k+1]? with
  |none=>rw[List.drop_of_length_le (List.getElem?_eq_none_iff.1 e)];simp
  |some z=>
   obtain⟨h1,h2⟩:=sX.1 e;rw[tq h1,h2,sU]
   simp
 have R40:Sw c pF k ↔ (c.getD k 0==20||((c.getD k 0==9||c.getD k 0==16)&&((c.drop (k+1)).headD (-1)==20)))=true:=by
  rw[zwi,hb,<- hnx]
  simp only[sT,sR,beq_iff_eq,Option.some.injEq,exists_eq_left']
 have A1:∀(T:List Int),En c (.mk 1 T []) k ↔ c.getD (k-1) 0∈T:=fun T=>by
  rw[en_1 hk,ha];exact⟨fun⟨z,h1,h2⟩=>by cases h1;exact h2,fun h=>⟨_,rfl,h⟩⟩
 have A0:=en_0 c k;have S0:=sw_0 c hkl;have e2:lnL (c.take k).reverse (c.drop k)=lnF (c.getD (k-1) 0) (c.getD k 0) (bR (cq c k)) (bR ((cq c k).dropWhile gv)) (((cq c k).dropWhile gv).headD (-1)==5) (nF (cq c k)) ((c.drop (k+1)).headD (-1)==20) (ip (cq c k) false):=by
  unfold lnL lnF;rw[hA,hd,sU,tB,show(cq c k).headD (-1)=c.getD (k-1) 0 by rw[hZ,sU]]
 rw[e2];clear e2 hA hd clA nz hc hnx bd hZ
 generalize c.getD (k-1) 0=a at cA A1 c1 c2 k1
 generalize c.getD k 0=b at cB R1 R40
 generalize bR (cq c k)=s at*
 generalize bR ((cq c k).dropWhile gv)=h at*
 generalize (((cq c k).dropWhile gv).headD (-1)==5)=z5 at*
 generalize nF (cq c k)=nm at*
 generalize ((c.drop (k+1)).headD (-1)==20)=nx at*
 obtain⟨o0,ho0⟩:∃o:Bool,Od c 0 k ↔ o=true:=by
  by_cases h:Od c 0 k
  ·exact⟨true,by simp[h]⟩
  ·exact⟨false,by simp[h]⟩
 obtain⟨o1,ho1⟩:∃o:Bool,Od2 c k ↔ o=true:=by
  by_cases h:Od2 c k
  ·exact⟨true,by simp[h]⟩
  ·exact⟨false,by simp[h]⟩
 have hoo:ip (cq c k) false=(o0||o1):=by
  rw[Bool.eq_iff_iff,sT,<- ho0,<- ho1];exact hO.symm
 rw[hoo,<- zvt cA cB cS cH c1 c2 c3 z5 nm nx o0 o1 k1 k2 (fun h=>hOb (by rw[hoo];exact h))]
 unfold qD lnE;rw[aE (d:=a==2&&b==3) (by rw[aB];unfold znx znv;rw[A1,R1,m1 a 2,m1 b 3];simp only[sR])]
 rw[aE (d:=(a==1||(a==2||(a==3)))) (by rw[aB];unfold znj bX;rw[A1,m_0 a];simp only[S0,and_true])]
 rw[aE (d:=(b==1||(b==2||(b==3||(b==4||(b==5)))))) (by rw[aB];unfold bX zmM;rw[R1,m_1 b];simp only[A0,true_and])]
 rw[aE (d:=z5) (by rw[aB];unfold zmB bX;rw[L5];simp only[S0,and_true])]
 rw[aE (d:=(a==0||(a==6||(a==7||(a==8||(a==9||(a==10||(a==11||(a==12||(a==13||(a==14||(a==15||(a==16||(a==17||(a==18||(a==19||(a==20||(a==21||(a==22||(a==23||(a==24||(a==25)))))))))))))))))))))&&b==8) (by rw[aB];unfold zmz zmx;rw[A1,R1,m_2 a,m1 b 8];simp only[sR])]
 rw[aE (d:=b==6) (by rw[aB];unfold bX zmv;rw[R1,m1 b 6];simp only[A0,true_and])]
 rw[aE (d:=s==6) (by rw[aB];unfold zmt bX;rw[L1 _ (by decide),m1 s 6];simp only[S0,and_true])]
 rw[aE (d:=s==7) (by rw[aB];unfold zeh bX;rw[L1 _ (by decide),m1 s 7];simp only[S0,and_true])]
 rw[aE (d:=(s==0||(s==1||(s==2||(s==3||(s==5||(s==6||(s==7||(s==9||(s==10||(s==11||(s==12||(s==13||(s==14||(s==15||(s==18||(s==19||(s==20||(s==21||(s==22||(s==23||(s==24||(s==25))))))))))))))))))))))&&b==7) (by rw[aB];unfold zef nh;rw[L1 _ (by decide),R1,m_3 s,m1 b 7];simp only[sR])]
 rw[aE (d:=s== -1&&b==7) (by rw[sw,ST13];unfold nh;rw[R1,m1 b 7];simp only[sR])]
 rw[aE (d:=(b==10||(b==11||(b==13||(b==14||(b==15)))))) (by rw[aB];unfold bX zec;rw[R1,m_4 b];simp only[A0,true_and])]
 rw[aE (d:=h==9) (by rw[aB];unfold zea bX;rw[LS _ (by decide) (by decide),m1 h 9];simp only[S0,and_true])]
 rw[aE (d:=h==12&&b==9) (by rw[aB];unfold zdY mZ;rw[LS _ (by decide) (by decide),R1,m1 h 12,m1 b 9];simp only[sR])]
 rw[aE (d:=(h==10||(h==11))&&b==24) (by rw[aB];unfold zdW zdU;rw[LS _ (by decide) (by decide),R1,m_5 h,m1 b 24];simp only[sR])]
 rw[aE (d:=h==18&&b==18) (by rw[aB];unfold zdS zdQ;rw[LS _ (by decide) (by decide),R1,m1 h 18,m1 b 18];simp only[sR])]
 rw[aE (d:=a==4) (by rw[aB];unfold zdO bX;rw[A1,m1 a 4];simp only[S0,and_true])]
 rw[aE (d:=b==12) (by rw[aB];unfold bX zdM;rw[R1,m1 b 12];simp only[A0,true_and])]
 rw[aE (d:=s==12) (by rw[aB];unfold zdK bX;rw[L1 _ (by decide),m1 s 12];simp only[S0,and_true])]
 rw[aE (d:=(b==16||(b==17||(b==24)))) (by rw[aB];unfold bX zdI;rw[R1,m_6 b];simp only[A0,true_and])]
 rw[aE (d:=b==19) (by rw[aB];unfold bX zdG;rw[R1,m1 b 19];simp only[A0,true_and])]
 rw[aE (d:=s==0&&b==20) (by rw[aB];unfold iy mX;rw[L1 _ (by decide),R1,m1 s 0,m1 b 20];simp only[sR])]
 rw[aE (d:=s==20&&b==0) (by rw[aB];unfold zdE fi;rw[L1 _ (by decide),R1,m1 s 20,m1 b 0];simp only[sR])]
 rw[aE (d:=s==22&&b==23) (by rw[aB];unfold zdC zdA;rw[L1 _ (by decide),R1,m1 s 22,m1 b 23];simp only[sR])]
 rw[aE (d:=s==23&&b==21) (by rw[aB];unfold zdy zdw;rw[L1 _ (by decide),R1,m1 s 23,m1 b 21];simp only[sR])]
 rw[aE (d:=(s==21||(s==22))&&b==0) (by rw[aB];unfold zdu fi;rw[L1 _ (by decide),R1,m_7 s,m1 b 0];simp only[sR])]
 rw[aE (d:=s==0&&(b==21||(b==22))) (by rw[aB];unfold iy zds;rw[L1 _ (by decide),R1,m1 s 0,m_7 b];simp only[sR])]
 rw[aE (d:=nm&&(b==21||(b==22))) (by rw[aB,L37];unfold zdp;rw[R1,m_7 b];simp only[sR])]
 rw[aE (d:=(s==21||(s==22))&&(b==20||((b==9||b==16)&&nx))) (by rw[aB,R40];unfold zdn;rw[L1 _ (by decide),m_7 s];simp only[sR])]
 rw[aE (d:=(s==14||(s==15||(s==16||(s==20))))&&b==20) (by rw[aB];unfold zdk mX;rw[L1 _ (by decide),R1,m_8 s,m1 b 20];simp only[sR])]
 rw[aE (d:=s==0&&b==0) (by rw[aB];unfold iy fi;rw[L1 _ (by decide),R1,m1 s 0,m1 b 0];simp only[sR])]
 rw[aE (d:=s==14&&b==0) (by rw[aB];unfold zdi fi;rw[L1 _ (by decide),R1,m1 s 14,m1 b 0];simp only[sR])]
 rw[aE (d:=(s==0||(s==20))&&b==9) (by rw[aB];unfold zdg mZ;rw[L1 _ (by decide),R1,m_9 s,m1 b 9];simp only[sR])]
 rw[aE (d:=s==10&&(b==0||(b==20))) (by rw[aB];unfold zde zdc;rw[L1 _ (by decide),R1,m1 s 10,m_9 b];simp only[sR])]
 rw[aE (d:=o0&&b==25) (by rw[sw,zvu,ho0];unfold mV;rw[R1,m1 b 25];simp only[sR])]
 rw[aE (d:=o1&&b==25) (by rw[aB,zxM,ho1];unfold mV;rw[R1,m1 b 25];simp only[sR])]
 rw[zrk]
end Li
end
section
namespace Li
theorem nft:¬(false=true):=by simp
theorem pj(z:Int)(l:List Int)(o:Bool):ip (z::l) o=if z==25 then ip l (!o)else if cz z then ip l o else o:=rfl
theorem zaA:∀(Y:List Int)(o:Bool),ip Y (!o)= !ip Y o
 |[],o=>rfl
 |y::Y,o=>by
  unfold ip
  split
  ·exact zaA Y (!o)
  ·split
   ·exact zaA Y o
   ·rfl
theorem zaB:∀(X Y:List Int)(o:Bool),X.all rgc=true->ip (X++Y) o=ip Y (ip X o)
 |[],Y,o,_=>rfl
 |x::X,Y,o,h=>by
  rw[tw,sR]at h;rw[tr,pj,pj]
  cases h7:(x==25)with
  |true=>rw[if_pos rfl,if_pos rfl];exact zaB X Y (!o) h.2
  |false=>
   have hc:cz x=true:=by
    have:=h.1;unfold rgc at this;rw[h7,tC]at this;exact this
   rw[if_neg nft,if_neg nft,if_pos hc,if_pos hc];exact zaB X Y o h.2
theorem pg:∀(X Y:List Int)(o:Bool),X.all rgc=false->ip (X++Y) o=ip X o
 |[],Y,o,h=>by cases h
 |x::X,Y,o,h=>by
  rw[tr,pj,pj]
  cases h7:(x==25)with
  |true=>
   have:X.all rgc=false:=by
    rw[tw]at h;unfold rgc at h;rw[h7,Bool.true_or,tD]at h;exact h
   rw[if_pos rfl,if_pos rfl];exact pg X Y (!o) this
  |false=>
   rw[if_neg nft,if_neg nft]
   cases hc:cz x with
   |true=>
    have:X.all rgc=false:=by
     rw[tw]at h;unfold rgc at h;rw[h7,hc,tA,tD]at h;exact h
    rw[if_pos rfl,if_pos rfl];exact pg X Y o this
   |false=>rw[if_neg nft,if_neg nft]
theorem ztc{Y:List Int}(h:rgc (Y.headD 0)=false)(o:Bool):ip Y o=o:=by
 cases Y with
 |nil=>rfl
 |cons y Y=>
  rw[sU]at h;unfold rgc at h;rw[Bool.or_eq_false_iff]at h;rw[pj,h.1,h.2,if_neg nft,if_neg nft]
theorem zjo{Y R:List Int}{x:Int}(hx:rgc x=true)(h:lnL Y (x::R)=true):ip Y false=false:=by
 cases hy:rgc (Y.headD 0)with
 |false=>exact ztc hy false
 |true=>
  cases ho:ip Y false with
  |false=>rfl
  |true=>
   exfalso
   have hb:=pk Y ho
   cases Y with
   |nil=>cases ho
   |cons y Y=>
    rw[sU]at hy;have hy2:y=25\/y=8:=by
     unfold rgc cz at hy
     simpa using hy
    have hx2:x=25\/x=8:=by
     unfold rgc cz at hx
     simpa using hx
    have hl:bR (y::Y)=25:=hb;have hs:(y::Y).dropWhile gv=y::Y:=ta (by unfold gv;rcases hy2 with rfl|rfl<;>decide)
    unfold lnL at h;rw[hs,hl,ho,sU,sU]at h
    generalize nF (y::Y)=nm at h
    generalize ((x::R).tail.headD (-1)==20)=nx at h
    rcases hy2 with rfl|rfl<;>rcases hx2 with rfl|rfl<;>cases nm<;>cases nx<;>exact absurd h (by decide)
theorem zlZ(X Y B:List Int)(hX:X≠ [])(hb:Y=[]\/lnL Y (X.reverse++B)=true):ip (X++Y) false=ip X false:=by
 rcases hb with rfl|hb
 ·rw[List.append_nil]
 cases hr:X.all rgc with
 |false=>exact pg _ _ _ hr
 |true=>
  obtain⟨U,x0,rfl⟩:∃U x0,X=U++[x0]:=by
   rcases List.eq_nil_or_concat X with h|⟨U,x0,h⟩
   ·exact absurd h hX
   ·exact⟨U,x0,by rw[h,List.concat_eq_append]⟩
  rw[tu,List.reverse_singleton,List.singleton_append,tr]at hb;have hY:=zjo (sY.1 hr x0 (by simp)) hb
  rw[zaB _ _ _ hr]
  cases ip (U++[x0]) false with
  |false=>exact hY
  |true=>
   have:=zaA Y false;rw[hY]at this;exact this
end Li
end
end Go.Proofs.YtbbapnpdfcgjnaaGreatDoor
