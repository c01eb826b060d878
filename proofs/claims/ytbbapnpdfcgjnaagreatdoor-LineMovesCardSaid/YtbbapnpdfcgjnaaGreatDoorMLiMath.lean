/- LiMath, LiLoc: parts of the proof, joined. -/
import Derived.Test.YtbbapnpdfcgjnaaGreatDoorMPtEv
open Bool renaming and_eq_true->sD, or_eq_true->sG, or_true->te, false_or->tg, true_and->ti
open List renaming getD_eq_getElem?_getD->sE, headD_cons->sH, mem_singleton->sJ, getElem?_eq_some_iff->sK, all_eq_true->sL, not_mem_nil->sM, dropWhile_cons_of_neg->sN, mem_cons->sO, mem_of_getElem?->sP, getElem?_eq_getElem->sR, mem_range->sU, range->sV, dropWhile_cons_of_pos->sW, drop_eq_getElem_cons->sY, cons_append->sZ, dropWhile_sublist->ta, reverse_append->tb, all_cons->tc, tail_cons->tf
open Nat renaming add_sub_cancel->sI, eq_or_lt_of_le->sQ, eq_zero_or_pos->sS, le_refl->sT, mod_two_eq_zero_or_one->sX, lt_or_ge->td, le_trans->tj, add_zero->tk
set_option maxHeartbeats 64000000
namespace Go.Proofs.YtbbapnpdfcgjnaaGreatDoor
section
open Go.RowKit
namespace Li
open Pt
def cf (c:List Int) (k:Nat):List Int:=(c.take k).reverse
theorem zoL (c:List Int):cf c 0=[]:=rfl
theorem jT {c:List Int} {k:Nat} (h:k<c.length):cf c (k+1)=c.getD k 0::cf c k:=by
 unfold cf;rw[List.take_succ_eq_append_getElem h,tb,sE,sR h]
 rfl
def stp (c:List Int) (f:Int->Bool):Nat->Nat
 | 0=>0
 | k+1=>if f (c.getD k 0) then stp c f k else k+1
theorem stp_le (c:List Int) (f:Int->Bool):∀k,stp c f k<=k
 | 0=>sT _
 | k+1=>by
  unfold stp;have:=stp_le c f k
  split<;>omega
theorem jY (c:List Int) (f:Int->Bool):∀k,k<=c.length->(cf c k).dropWhile f=cf c (stp c f k)
 | 0,_=>rfl
 | k+1,h=>by
  rw[jT (by omega)]
  unfold stp
  cases hf:f (c.getD k 0) with
  | true=>rw[sW hf,if_pos rfl];exact jY c f k (by omega)
  | false=>rw[sN (by rw[hf];simp),if_neg (by simp),jT (by omega)]
theorem lM (c:List Int) (f:Int->Bool):∀k m,stp c f k<=m->m<k->f (c.getD m 0)=true
 | 0,m,_,h=>by omega
 | k+1,m,h1,h2=>by
  unfold stp at h1
  split at h1
  ·rename_i hf
   rcases sQ (Nat.le_of_lt_succ h2) with e | e
   ·exact e ▸ hf
   ·exact lM c f k m h1 e
  ·omega
theorem sy (c:List Int) (f:Int->Bool):∀k,0<stp c f k->f (c.getD (stp c f k - 1) 0)=false
 | 0,h=>by unfold stp at h;omega
 | k+1,h=>by
  unfold stp at h⊢
  split
  ·rename_i hf
   rw[if_pos hf] at h;exact sy c f k h
  ·rename_i hf
   rw[sI]
   simpa using hf
theorem sA {c:List Int} {f:Int->Bool} {j k:Nat} (hj:j<=k) (h1:∀m,j<=m->m<k->f (c.getD m 0)=true) (h2:j=0\/f (c.getD (j - 1) 0)=false):stp c f k=j:=by
 rcases Nat.lt_trichotomy (stp c f k) j with h | h | h
 ·rcases h2 with h2 | h2
  ·omega
  ·have:=lM c f k (j - 1) (by omega) (by omega)
   rw[h2] at this
   cases this
 ·exact h
 ·have h3:=sy c f k (by omega)
  have h4:=stp_le c f k;rw[h1 _ (by omega) (by omega)] at h3
  cases h3
theorem pU {c:List Int} {k:Nat} (hk:k<=c.length) {z:Int} (hz:z≠ -1):(cf c k).headD (-1)=z ↔ 0<k/\c.getD (k - 1) 0=z:=by
 cases k with
 | zero=>rw[zoL];exact⟨fun h=>absurd h.symm hz,fun h=>by omega⟩
 | succ k=>rw[jT (by omega),sH,sI];exact⟨fun h=>⟨by omega,h⟩,fun h=>h.2⟩
def cu (z:Int):Bool:=z==8
theorem zgF (z:Int):cu z=true ↔ z∈([8]:List Int):=by
 unfold cu;rw[beq_iff_eq,sJ]
theorem dI {c:List Int} {i:Nat} (h:i<c.length):c[i]? =some (c.getD i 0):=by
 rw[sE,sR h];rfl
def Rw (c:List Int) (i k:Nat):Prop:=i<=k/\∀m,i<=m->m<k->∃z,c[m]? =some z/\z∈([8]:List Int)
theorem jZ (c:List Int) (i k:Nat):cg (aO c (.mk 1 [8] [])) i k ↔ Rw c i k:=zbU c [8] [] i k
theorem zpU {c:List Int} {i k:Nat} (hk:k<=c.length):Rw c i k ↔ i<=k/\∀m,i<=m->m<k->cu (c.getD m 0)=true:=by
 unfold Rw;refine and_congr_right fun _=>forall_congr' fun m=>forall_congr' fun _=>forall_congr' fun hm=>?_
 rw[zgF,dI (by omega)]
 exact⟨fun⟨z,h1,h2⟩=>by cases h1;exact h2,fun h=>⟨_,rfl,h⟩⟩
def EnR (c T:List Int) (k:Nat):Prop:=∃i,(∃z,c[i]? =some z/\z∈T)/\Rw c (i+1) k
theorem enr {c T:List Int} (hT:∀z∈T,cu z=false/\z≠ -1) {k:Nat} (hk:k<=c.length):EnR c T k ↔ ((cf c k).dropWhile cu).headD (-1)∈T:=by
 have hle:=stp_le c cu k;rw[jY c _ k hk]
 constructor
 ·rintro ⟨i,⟨z,h1,h2⟩,h3⟩
  have hil:=(sK.1 h1).1;obtain⟨h4,h5⟩:=(zpU hk).1 h3;have hz:c.getD i 0=z:=by rw[sE,h1];rfl
  have e:=sA (f:=cu) h4 h5 (.inr (by rw[sI,hz];exact(hT z h2).1))
  rw[e,jT hil,sH,hz];exact h2
 ·intro h
  obtain⟨z,hz⟩:∃z,z=(cf c (stp c cu k)).headD (-1):=⟨_,rfl⟩;rw[<- hz] at h;obtain⟨h1,h2⟩:=(pU (by omega) (hT z h).2).1 hz.symm
  refine⟨stp c cu k - 1,⟨z,?_,h⟩,?_⟩
  ·rw[dI (by omega),h2]
  ·rw[show stp c cu k - 1+1=stp c cu k by omega]
   exact(zpU hk).2 ⟨hle,fun m h3 h4=>lM c _ k m h3 h4⟩
theorem zxv (c T:List Int) (k:Nat):En c (.mk 2 [] [(.mk 1 T []),(.mk 4 [] [(.mk 1 [8] [])])]) k ↔ EnR c T k:=by
 unfold En EnR
 simp only[zaL,gF,gG,zeo,jZ,l9]
 constructor
 ·rintro ⟨i,_,_,⟨rfl,z,h1,h2⟩,_,h3,rfl⟩
  exact⟨i,⟨z,h1,h2⟩,h3⟩
 ·rintro ⟨i,⟨z,h1,h2⟩,h3⟩
  have:=h3.1;exact⟨i,by omega,i+1,⟨rfl,z,h1,h2⟩,k,h3,rfl⟩
theorem en_1 {c T:List Int} {k:Nat} (hk:0<k):En c (.mk 1 T []) k ↔ ∃z,c[k - 1]? =some z/\z∈T:=by
 unfold En
 simp only[l9]
 constructor
 ·rintro ⟨i,_,rfl,h⟩
  exact h
 ·intro h
  exact⟨k - 1,by omega,by omega,h⟩
theorem en_0 (c:List Int) (k:Nat):En c (.mk 0 [] []) k:=⟨k,sT _,(zxg _ _ _).2 rfl⟩
theorem sw_0 (c:List Int) {k:Nat} (hk:k<=c.length):Sw c (.mk 0 [] []) k:=⟨k,sT _,hk,(zxg _ _ _).2 rfl⟩
theorem sw_1 {c T:List Int} {k:Nat}:Sw c (.mk 1 T []) k ↔ ∃z,c[k]? =some z/\z∈T:=by
 unfold Sw
 simp only[l9]
 constructor
 ·rintro ⟨_,_,_,rfl,h⟩
  exact h
 ·rintro ⟨z,h1,h2⟩
  have:=(sK.1 h1).1;exact⟨k+1,by omega,by omega,rfl,z,h1,h2⟩
def rgc (z:Int):Bool:=z==25 || cu z
def il:List Int->Bool->Bool
 | [],o=>o
 | z::l,o=>if z==25 then il l (!o) else if cu z then il l o else o
def cnt (c:List Int) (i:Nat):Nat->Nat
 | 0=>0
 | k+1=>if i<=k then (cnt c i k+if c.getD k 0==25 then 1 else 0) else 0
theorem pO {c:List Int} {i k:Nat} (h:i<=k):cnt c i (k+1)=cnt c i k+if c.getD k 0==25 then 1 else 0:=by
 conv=>lhs;unfold cnt
 rw[if_pos h]
theorem pQ (c:List Int) (i:Nat):cnt c i i=0:=by
 cases i with
 | zero=>rfl
 | succ k=>unfold cnt;rw[if_neg (by omega)]
theorem fg (c:List Int) {i j:Nat} (hij:i<=j):∀k,j<=k->cnt c i k=cnt c i j+cnt c j k
 | 0,h=>by
  obtain rfl:j=0:=by omega
  rfl
 | k+1,h=>by
  rcases sQ h with e | e
  ·rw[<- e,pQ];rfl
  ·rw[pO (by omega),pO (by omega:j<=k),fg c hij k (by omega)]
   omega
theorem pP {c:List Int} {i:Nat}:∀k,Rw c i k->cnt c i k=0
 | 0,_=>rfl
 | k+1,h=>by
  rcases sQ h.1 with e | e
  ·rw[<- e,pQ]
  ·rw[pO (by omega),pP k ⟨by omega,fun m h1 h2=>h.2 m h1 (by omega)⟩]
   obtain⟨z,h1,h2⟩:=h.2 k (by omega) (by omega)
   have hz:c.getD k 0=z:=by rw[sE,h1];rfl
   rw[hz];have:(z==25)=false:=by
    rw[beq_eq_false_iff_ne];rintro rfl
    revert h2
    decide
   rw[this];rfl
theorem zbl {c:List Int} {i:Nat} (h:c[i]? =some 25):cnt c i (i+1)=1:=by
 rw[pO (sT _),pQ];have hz:c.getD i 0=25:=by rw[sE,h];rfl
 rw[hz];rfl
def Rg (c:List Int) (i k:Nat):Prop:=i<=k/\∀m,i<=m->m<k->∃z,c[m]? =some z/\rgc z=true
theorem Rg.nil (c:List Int) (i:Nat):Rg c i i:=⟨sT _,fun m h1 h2=>by omega⟩
theorem Rg.trans {c:List Int} {i j k:Nat} (h:Rg c i j) (h2:Rg c j k):Rg c i k:=⟨tj h.1 h2.1,fun m h3 h4=>by
 rcases td m j with e | e
 ·exact h.2 m h3 e
 ·exact h2.2 m e h4⟩
theorem Rw.rg {c:List Int} {i k:Nat} (h:Rw c i k):Rg c i k:=⟨h.1,fun m h1 h2=>by
 obtain⟨z,h3,h4⟩:=h.2 m h1 h2;exact⟨z,h3,by unfold rgc;rw[(zgF z).2 h4,te]⟩⟩
theorem Rg.one {c:List Int} {i:Nat} (h:c[i]? =some 25):Rg c i (i+1):=⟨by omega,fun m h1 h2=>by
 obtain rfl:m=i:=by omega
 exact⟨25,h,by decide⟩⟩
def mG:ax:=.mk 2 [] [(.mk 1 [25] []),(.mk 4 [] [(.mk 1 [8] [])]),(.mk 1 [25] []),(.mk 4 [] [(.mk 1 [8] [])])]
theorem zhQ (c:List Int) (i k:Nat):aO c mG i k ↔ c[i]? =some 25/\∃m,Rw c (i+1) m/\c[m]? =some 25/\Rw c (m+1) k:=by
 unfold mG
 simp only[zaL,gF,gG,zeo,jZ,l9,sJ]
 constructor
 ·rintro ⟨_,⟨rfl,z,h1,rfl⟩,m,h2,_,⟨rfl,y,h3,rfl⟩,_,h4,rfl⟩
  exact⟨h1,m,h2,h3,h4⟩
 ·rintro ⟨h1,m,h2,h3,h4⟩
  exact⟨_,⟨rfl,25,h1,rfl⟩,m,h2,_,⟨rfl,25,h3,rfl⟩,k,h4,rfl⟩
theorem zpL {c:List Int} {i k:Nat} (h:aO c mG i k):Rg c i k/\cnt c i k=2:=by
 obtain⟨h1,m,h2,h3,h4⟩:=(zhQ c i k).1 h;have q1:=h2.1;have q2:=h4.1;refine⟨(((Rg.one h1).trans h2.rg).trans (Rg.one h3)).trans h4.rg,?_⟩;rw[fg c (by omega:i<=i+1) k (by omega),fg c (by omega:i+1<=m) k (by omega),fg c (by omega:m<=m+1) k (by omega),zbl h1,pP m h2,zbl h3,pP k h4]
theorem zlj {c:List Int} {i k:Nat} (h:cg (aO c mG) i k):Rg c i k/\cnt c i k % 2=0:=by
 induction h with
 | refl i=>exact⟨.nil c i,by rw[pQ]⟩
 | step h1 _ ih=>
  obtain⟨q1,q2⟩:=zpL h1;obtain⟨q3,q4⟩:=ih;refine⟨q1.trans q3,?_⟩;rw[fg c q1.1 _ q3.1];omega
theorem Rw.nil (c:List Int) (i:Nat):Rw c i i:=⟨sT _,fun m h1 h2=>by omega⟩
theorem Rw.snoc {c:List Int} {i k:Nat} {z:Int} (h:Rw c i k) (h1:c[k]? =some z) (h2:cu z=true):Rw c i (k+1):=⟨Nat.le_succ_of_le h.1,fun m h3 h4=>by
 rcases td m k with e | e
 ·exact h.2 m h3 e
 ·obtain rfl:m=k:=by omega
  exact⟨z,h1,(zgF z).1 h2⟩⟩
def Ev (c:List Int) (i k:Nat):Prop:=Rw c i k\/∃j x m,Rw c i j/\cg (aO c mG) j x/\c[x]? =some 25/\Rw c (x+1) m/\c[m]? =some 25/\Rw c (m+1) k
def Od (c:List Int) (i k:Nat):Prop:=∃j x,Rw c i j/\cg (aO c mG) j x/\c[x]? =some 25/\Rw c (x+1) k
theorem zqS {c:List Int} {i k:Nat} (h:Ev c i k):∃j,Rw c i j/\cg (aO c mG) j k:=by
 rcases h with h | ⟨j,x,m,h1,h2,h3,h4,h5,h6⟩
 ·exact⟨k,h,.refl k⟩
 ·exact⟨j,h1,h2.trans (.step ((zhQ c x k).2 ⟨h3,m,h4,h5,h6⟩) (.refl k))⟩
theorem zsg (c:List Int) (i:Nat):∀k,Rg c i k->(cnt c i k % 2=0->Ev c i k)/\(cnt c i k % 2=1->Od c i k)
 | 0,h=>by
  obtain rfl:i=0:=by have:=h.1;omega
  exact⟨fun _=>.inl (.nil c 0),fun e=>by rw[pQ] at e;cases e⟩
 | k+1,h=>by
  rcases sQ h.1 with e | e
  ·subst e
   exact⟨fun _=>.inl (.nil c _),fun e=>by rw[pQ] at e;cases e⟩
  ·obtain⟨h1,h2⟩:=zsg c i k ⟨by omega,fun m h3 h4=>h.2 m h3 (by omega)⟩
   obtain⟨z,hz,hr⟩:=h.2 k (by omega) (by omega)
   have hzg:c.getD k 0=z:=by rw[sE,hz];rfl
   rw[pO (by omega),hzg]
   unfold rgc at hr
   cases h7:(z==25) with
   | true=>
    rw[if_pos rfl];have hz7:z=25:=eq_of_beq h7;subst hz7
    constructor
    ·intro e2
     obtain⟨j,x,k1,k2,k3,k4⟩:=h2 (by omega)
     exact .inr ⟨j,x,k,k1,k2,k3,k4,hz,.nil c _⟩
    ·intro e2
     obtain⟨j,k1,k2⟩:=zqS (h1 (by omega))
     exact⟨j,k,k1,k2,hz,.nil c _⟩
   | false=>
    rw[if_neg (by simp),tk]
    rw[h7,tg] at hr
    constructor
    ·intro e2
     rcases h1 e2 with h3 | ⟨j,x,m,k1,k2,k3,k4,k5,k6⟩
     ·exact .inl (h3.snoc hz hr)
     ·exact .inr ⟨j,x,m,k1,k2,k3,k4,k5,k6.snoc hz hr⟩
    ·intro e2
     obtain⟨j,x,k1,k2,k3,k4⟩:=h2 e2;exact⟨j,x,k1,k2,k3,k4.snoc hz hr⟩
theorem zax {c:List Int} {i k:Nat} (h:Od c i k):Rg c i k/\cnt c i k % 2=1:=by
 obtain⟨j,x,h1,h2,h3,h4⟩:=h;obtain⟨q1,q2⟩:=zlj h2;have q3:=h1.1;have q4:=q1.1;have q5:=h4.1;refine⟨((h1.rg.trans q1).trans (Rg.one h3)).trans h4.rg,?_⟩;rw[fg c q3 k (by omega),fg c q4 k (by omega),fg c (by omega:x<=x+1) k (by omega),pP j h1,zbl h3,pP k h4]
 omega
theorem zrF (c:List Int) (i k:Nat):Od c i k ↔ Rg c i k/\cnt c i k % 2=1:=⟨zax,fun h=>(zsg c i k h.1).2 h.2⟩
theorem zvh (c:List Int) (i k:Nat):aO c rj i k ↔ Od c i k:=by
 unfold rj Od
 simp only[zaL,gF,gG,zeo,jZ,l9,sJ]
 have e:(fun i j=>aO c (.mk 2 [] [(.mk 1 [25] []),(.mk 4 [] [(.mk 1 [8] [])]),(.mk 1 [25] []),(.mk 4 [] [(.mk 1 [8] [])])]) i j)=aO c mG:=rfl
 constructor
 ·rintro ⟨j,h1,x,h2,_,⟨rfl,z,h3,rfl⟩,_,h4,rfl⟩
  exact⟨j,x,h1,h2,h3,h4⟩
 ·rintro ⟨j,x,h1,h2,h3,h4⟩
  exact⟨j,h1,x,h2,_,⟨rfl,25,h3,rfl⟩,k,h4,rfl⟩
theorem zlW (c:List Int):∀k,k<=c.length->∀o,il (cf c k) o=(o != (cnt c (stp c rgc k) k % 2==1))
 | 0,_,o=>by cases o<;>rfl
 | k+1,hk,o=>by
  have hle:=stp_le c rgc k;have ih:=zlW c k (by omega)
  rw[jT (by omega)]
  unfold il stp
  cases h7:(c.getD k 0==25) with
  | true=>
   have hr:rgc (c.getD k 0)=true:=by unfold rgc;rw[h7];rfl
   rw[if_pos rfl,if_pos hr,ih (!o),pO hle,h7,if_pos rfl]
   generalize cnt c (stp c rgc k) k=n
   rcases sX n with e | e
   ·rw[e,show(n+1) % 2=1 by omega];cases o<;>rfl
   ·rw[e,show(n+1) % 2=0 by omega];cases o<;>rfl
  | false=>
   cases hc:cu (c.getD k 0) with
   | true=>
    have hr:rgc (c.getD k 0)=true:=by unfold rgc;rw[hc,te]
    rw[if_neg (by simp),if_pos rfl,if_pos hr,ih o,pO hle,h7,if_neg (by simp),tk]
   | false=>
    have hr:rgc (c.getD k 0)=false:=by unfold rgc;rw[h7,hc];rfl
    rw[if_neg (by simp),if_neg (by simp),if_neg (by rw[hr];simp),pQ]
    cases o<;>rfl
def Cls (c:List Int):Prop:=∀z∈c,0<=z/\z<=25
def LR:List Int:=[0,1,2,3,4,5,6,7,9,10,11,12,13,14,15,16,17,18,19,20,21,22,23,24]
theorem zrI {z:Int} (h:0<=z/\z<=25):z∈LR ↔ rgc z=false:=by
 obtain⟨n,rfl⟩:∃n:Nat,z=n:=⟨z.toNat,by omega⟩
 have H:((sV 26).all fun(n:Nat)=>decide ((n:Int)∈LR)== !rgc (n:Int))=true:=by decide
 have h1:=eq_of_beq (sL.1 H n (sU.2 (by omega)))
 rw[<- decide_eq_true_iff (p:=(n:Int)∈LR),h1]
 simp
def Od2 (c:List Int) (k:Nat):Prop:=∃i,(∃z,c[i]? =some z/\z∈LR)/\Od c (i+1) k
theorem zxx (c:List Int) (k:Nat):En c pe k ↔ Od2 c k:=by
 have e:∀i,aO c pe i k ↔ (∃z,c[i]? =some z/\z∈LR)/\Od c (i+1) k:=fun i=>by
  unfold pe Od LR
  simp only[zaL,gF,gG,zeo,jZ,l9]
  constructor
  ·rintro ⟨_,⟨rfl,h0⟩,j,h1,x,h2,_,⟨rfl,z,h3,hz⟩,_,h4,rfl⟩
   rw[sJ] at hz;subst hz;exact⟨h0,j,x,h1,h2,h3,h4⟩
  ·rintro ⟨h0,j,x,h1,h2,h3,h4⟩
   exact⟨_,⟨rfl,h0⟩,j,h1,x,h2,_,⟨rfl,25,h3,by simp⟩,k,h4,rfl⟩
 unfold En Od2
 constructor
 ·rintro ⟨i,_,h⟩
  exact⟨i,(e i).1 h⟩
 ·rintro ⟨i,h⟩
  have:=(zax h.2).1.1;exact⟨i,by omega,(e i).2 h⟩
theorem zlH {c:List Int} {i k:Nat} (h:Rg c i k) (h2:i=0\/rgc (c.getD (i - 1) 0)=false):stp c rgc k=i:=
 sA h.1 (fun m h3 h4=>by
  obtain⟨z,h5,h6⟩:=h.2 m h3 h4;rw[sE,h5];exact h6) h2
theorem zsP {c:List Int} (hc:Cls c) {k:Nat} (hk:k<=c.length):(Od c 0 k\/Od2 c k) ↔ il (cf c k) false=true:=by
 have hle:=stp_le c rgc k;rw[zlW c k hk];have hrg:Rg c (stp c rgc k) k:=⟨hle,fun m h1 h2=>⟨_,dI (by omega),lM c rgc k m h1 h2⟩⟩
 constructor
 ·rintro (h | ⟨i,⟨z,h1,h2⟩,h3⟩)
  ·obtain⟨h4,h5⟩:=zax h
   rw[zlH h4 (.inl rfl),h5];rfl
  ·obtain⟨h4,h5⟩:=zax h3
   have hz:c.getD i 0=z:=by rw[sE,h1];rfl
   rw[zlH h4 (.inr (by rw[sI,hz];exact(zrI (hc z (sP h1))).1 h2)),h5];rfl
 ·intro h
  have ho:cnt c (stp c rgc k) k % 2=1:=by
   rcases sX (cnt c (stp c rgc k) k) with e | e
   ·rw[e] at h;cases h
   ·exact e
  rcases sS (stp c rgc k) with e | e
  ·left
   rw[e] at hrg ho;exact(zrF c 0 k).2 ⟨hrg,ho⟩
  ·right
   obtain⟨i,hi⟩:∃i,stp c rgc k=i+1:=⟨stp c rgc k - 1,by omega⟩
   have ht:=sy c rgc k e;rw[hi] at hrg ho ht hle;rw[sI] at ht;have hg:=dI (c:=c) (i:=i) (by omega)
   exact⟨i,⟨_,hg,(zrI (hc _ (sP hg))).2 ht⟩,(zrF c (i+1) k).2 ⟨hrg,ho⟩⟩
theorem oU:∀A:List Int,il A false=true->(A.dropWhile cu).headD (-1)=25
 | [],h=>by cases h
 | z::l,h=>by
  unfold il at h
  cases h7:(z==25) with
  | true=>
   have:z=25:=eq_of_beq h7;subst this
   rfl
  | false=>
   rw[h7,if_neg (by simp)] at h
   cases hc:cu z with
   | true=>
    rw[hc,if_pos rfl] at h;rw[sW hc];exact oU l h
   | false=>rw[hc,if_neg (by simp)] at h;cases h
def gi (z:Int):Bool:=z==4
def Rs (c:List Int) (i k:Nat):Prop:=i<=k/\∀m,i<=m->m<k->∃z,c[m]? =some z/\z∈([4]:List Int)
theorem zlh (c:List Int) (i k:Nat):cg (aO c (.mk 1 [4] [])) i k ↔ Rs c i k:=zbU c [4] [] i k
theorem zlw {c:List Int} {i k:Nat} (h:Rs c i k) (h2:i=0\/gi (c.getD (i - 1) 0)=false):stp c gi k=i:=
 sA h.1 (fun m h3 h4=>by
  obtain⟨z,h5,h6⟩:=h.2 m h3 h4;rw[sE,h5];rw[sJ] at h6;rw[h6];rfl) h2
theorem zle (c:List Int) {k:Nat} (hk:k<=c.length):Rs c (stp c gi k) k:=⟨stp_le c gi k,fun m h1 h2=>⟨_,dI (by omega),by
 have:=lM c gi k m h1 h2;rw[sJ];exact eq_of_beq this⟩⟩
theorem zxu {c T:List Int} (hT:∀z∈T,gi z=false/\z≠ -1) {k:Nat} (hk:k<=c.length):En c (.mk 2 [] [(.mk 1 T []),(.mk 4 [] [(.mk 1 [4] [])])]) k ↔ ((cf c k).dropWhile gi).headD (-1)∈T:=by
 have hle:=stp_le c gi k;have e0:En c (.mk 2 [] [(.mk 1 T []),(.mk 4 [] [(.mk 1 [4] [])])]) k ↔ ∃i,(∃z,c[i]? =some z/\z∈T)/\Rs c (i+1) k:=by
  unfold En
  simp only[zaL,gF,gG,zeo,zlh,l9]
  constructor
  ·rintro ⟨i,_,_,⟨rfl,z,h1,h2⟩,_,h3,rfl⟩
   exact⟨i,⟨z,h1,h2⟩,h3⟩
  ·rintro ⟨i,⟨z,h1,h2⟩,h3⟩
   have:=h3.1;exact⟨i,by omega,i+1,⟨rfl,z,h1,h2⟩,k,h3,rfl⟩
 rw[e0,jY c _ k hk]
 constructor
 ·rintro ⟨i,⟨z,h1,h2⟩,h3⟩
  have hil:=(sK.1 h1).1;have hz:c.getD i 0=z:=by rw[sE,h1];rfl
  rw[zlw h3 (.inr (by rw[sI,hz];exact(hT z h2).1)),jT hil,sH,hz]
  exact h2
 ·intro h
  obtain⟨z,hz⟩:∃z,z=(cf c (stp c gi k)).headD (-1):=⟨_,rfl⟩;rw[<- hz] at h;obtain⟨h1,h2⟩:=(pU (by omega) (hT z h).2).1 hz.symm
  have hr:=zle c hk;refine⟨stp c gi k - 1,⟨z,by rw[dI (by omega),h2],h⟩,?_⟩
  rw[show stp c gi k - 1+1=stp c gi k by omega];exact hr
theorem zvz {c T:List Int} (hT:∀z∈T,cu z=false/\z≠ -1) (h4:∀z∈T,gi z=false) {k:Nat} (hk:k<=c.length):En c (.mk 2 [] [(.mk 1 T []),(.mk 4 [] [(.mk 1 [8] [])]),(.mk 4 [] [(.mk 1 [4] [])])]) k ↔ (((cf c k).dropWhile gi).dropWhile cu).headD (-1)∈T:=by
 have hle:=stp_le c gi k;rw[jY c gi k hk,<- enr hT (by omega)]
 unfold En EnR
 simp only[zaL,gF,gG,zeo,jZ,zlh,l9]
 constructor
 ·rintro ⟨i,_,_,⟨rfl,z,h1,h2⟩,j,h3,x,h5,hx⟩
  rw[hx] at h5;have hz:c.getD i 0=z:=by rw[sE,h1];rfl
  have e:stp c gi k=j:=zlw h5 (.inr (by
   have h30:=h3.1
   rcases sQ h30 with e | e
   ·rw[<- e,sI,hz];exact h4 z h2
   ·obtain⟨y,h6,h7⟩:=h3.2 (j - 1) (by omega) (by omega)
    rw[sE,h6];rw[sJ] at h7;rw[h7];rfl))
  rw[e];exact⟨i,⟨z,h1,h2⟩,h3⟩
 ·rintro ⟨i,⟨z,h1,h2⟩,h3⟩
  have:=h3.1;exact⟨i,by omega,i+1,⟨rfl,z,h1,h2⟩,_,h3,k,zle c hk,rfl⟩
def bL (A:List Int):Int:=(A.dropWhile cu).headD (-1)
theorem zce {c:List Int} {i j k:Nat} (h:Rw c i j) (h2:Rw c j k):Rw c i k:=⟨tj h.1 h2.1,fun m h3 h4=>by
 rcases td m j with e | e
 ·exact h.2 m h3 e
 ·exact h2.2 m e h4⟩
theorem zld (c:List Int) {k:Nat} (hk:k<=c.length):Rw c (stp c cu k) k:=(zpU hk).2 ⟨stp_le c cu k,fun m h1 h2=>lM c cu k m h1 h2⟩
theorem zlq {c:List Int} {i k:Nat} (hk:k<=c.length) (h:Rw c i k) (h2:i=0\/cu (c.getD (i - 1) 0)=false):stp c cu k=i:=by
 obtain⟨h3,h4⟩:=(zpU hk).1 h;exact sA h3 h4 h2
def Opt (c U:List Int) (P:Nat->Prop) (k:Nat):Prop:=∃j,P j/\∃j2,(j=j2\/(j2=j+1/\∃z,c[j]? =some z/\z∈U))/\Rw c j2 k
theorem zlT {c U:List Int} {P:Nat->Prop} (hcl:∀i k,P i->Rw c i k->P k) (hU:∀z∈U,cu z=false/\z≠ -1) (hP:∀k,k<=c.length->P k->bL (cf c k) ∉ U) {k:Nat} (hk:k<=c.length):
  Opt c U P k ↔ (if bL (cf c k)∈U then P (stp c cu k - 1) else P k):=by
 have hle:=stp_le c cu k;have hd:=jY c cu k hk
 constructor
 ·rintro ⟨j,h1,j2,rfl | ⟨rfl,z,h2,h3⟩,h4⟩
  ·have h5:=hcl j k h1 h4
   rw[if_neg (hP k hk h5)];exact h5
  ·have hil:=(sK.1 h2).1
   have hz:c.getD j 0=z:=by rw[sE,h2];rfl
   have e:=zlq hk h4 (.inr (by rw[sI,hz];exact(hU z h3).1))
   have hl:bL (cf c k)=z:=by unfold bL;rw[hd,e,jT hil,sH,hz]
   rw[if_pos (by rw[hl];exact h3),e,sI]
   exact h1
 ·intro h
  by_cases hm:bL (cf c k)∈U
  ·rw[if_pos hm] at h
   have hl:(cf c (stp c cu k)).headD (-1)=bL (cf c k):=by unfold bL;rw[hd]
   obtain⟨h1,h2⟩:=(pU (by omega) (hU _ hm).2).1 hl
   refine⟨_,h,stp c cu k,.inr ⟨by omega,_,by rw[dI (by omega),h2],hm⟩,zld c hk⟩
  ·rw[if_neg hm] at h
   exact⟨k,h,k,.inl rfl,.nil c k⟩
theorem zsL {c U:List Int} {P:Nat->Prop} (i k:Nat) (h:Opt c U P i) (h2:Rw c i k):Opt c U P k:=by
 obtain⟨j,h3,j2,h4,h5⟩:=h;exact⟨j,h3,j2,h4,zce h5 h2⟩
theorem zvy {c T:List Int} (i k:Nat) (h:EnR c T i) (h2:Rw c i k):EnR c T k:=by
 obtain⟨j,h3,h4⟩:=h;exact⟨j,h3,zce h4 h2⟩
def Num (c:List Int) (k:Nat):Prop:=Opt c [10,11] (Opt c [14,15] (EnR c [20])) k
theorem zxw (c:List Int) (k:Nat):En c rk k ↔ Num c k:=by
 unfold En rk Num Opt EnR
 simp only[zaL,gF,gG,zeo,jZ,zxf,l9]
 constructor
 ·rintro ⟨i,_,_,⟨rfl,h1⟩,j1,h2,j2,h3,j3,h4,j4,h5,_,h6,rfl⟩
  exact⟨j3,⟨j1,⟨i,h1,h2⟩,j2,h3,h4⟩,j4,h5,h6⟩
 ·rintro ⟨j3,⟨j1,⟨i,h1,h2⟩,j2,h3,h4⟩,j4,h5,h6⟩
  have a1:=h2.1;have a2:=h4.1;have a3:=h6.1;have a4:j1<=j2:=by rcases h3 with h | h<;>omega
  have a5:j3<=j4:=by rcases h5 with h | h<;>omega
  exact⟨i,by omega,i+1,⟨rfl,h1⟩,j1,h2,j2,h3,j3,h4,j4,h5,k,h6,rfl⟩
def p1L (A:List Int):Bool:=if bL A==14 || bL A==15 then bL (A.dropWhile cu).tail==20 else bL A==20
def m8 (A:List Int):Bool:=if bL A==10 || bL A==11 then p1L (A.dropWhile cu).tail else p1L A
theorem zrD (c:List Int) {k:Nat} (hk:k<=c.length) (h:bL (cf c k)≠ -1):((cf c k).dropWhile cu).tail=cf c (stp c cu k - 1):=by
 have hle:=stp_le c cu k;unfold bL at h;rw[jY c cu k hk] at h⊢
 rcases sS (stp c cu k) with e | e
 ·rw[e,zoL] at h
  exact absurd rfl h
 ·obtain⟨m,hm⟩:∃m,stp c cu k=m+1:=⟨stp c cu k - 1,by omega⟩
  rw[hm,jT (by omega),tf,sI]
theorem zlS (c:List Int) {k:Nat} (hk:k<=c.length):EnR c [20] k ↔ bL (cf c k)=20:=by
 rw[enr (by decide) hk,sJ];rfl
theorem zlR (c:List Int) {k:Nat} (hk:k<=c.length):Opt c [14,15] (EnR c [20]) k ↔ p1L (cf c k)=true:=by
 have hle:=stp_le c cu k;rw[zlT (P:=EnR c [20]) (fun i k h h2=>zvy i k h h2) (by decide) (fun k hk h=>by rw[(zlS c hk).1 h];decide) hk]
 unfold p1L
 by_cases h:bL (cf c k)=14\/bL (cf c k)=15
 ·have h1:bL (cf c k)∈([14,15]:List Int):=by simpa using h
  have h2:(bL (cf c k)==14 || bL (cf c k)==15)=true:=by simpa using h
  rw[if_pos h1,if_pos h2,zlS c (by omega),zrD c hk (by omega),beq_iff_eq]
 ·have h1:¬bL (cf c k)∈([14,15]:List Int):=by simpa using h
  have h2:¬(bL (cf c k)==14 || bL (cf c k)==15)=true:=by simpa using h
  rw[if_neg h1,if_neg h2,zlS c hk,beq_iff_eq]
theorem zsT (c:List Int) {k:Nat} (hk:k<=c.length):Num c k ↔ m8 (cf c k)=true:=by
 have hle:=stp_le c cu k;unfold Num;rw[zlT (P:=Opt c [14,15] (EnR c [20])) (fun i k h h2=>zsL i k h h2) (by decide) (fun k hk h=>by
  have h1:=(zlR c hk).1 h;unfold p1L at h1;intro h2;have h3:bL (cf c k)=10\/bL (cf c k)=11:=by simpa using h2
  rw[if_neg (by rcases h3 with e | e<;>rw[e]<;>decide)] at h1
  have h4:=eq_of_beq h1;omega) hk]
 unfold m8
 by_cases h:bL (cf c k)=10\/bL (cf c k)=11
 ·have h1:bL (cf c k)∈([10,11]:List Int):=by simpa using h
  have h2:(bL (cf c k)==10 || bL (cf c k)==11)=true:=by simpa using h
  rw[if_pos h1,if_pos h2,zlR c (by omega),zrD c hk (by omega)]
 ·have h1:¬bL (cf c k)∈([10,11]:List Int):=by simpa using h
  have h2:¬(bL (cf c k)==10 || bL (cf c k)==11)=true:=by simpa using h
  rw[if_neg h1,if_neg h2,zlR c hk]
def qA (c:Int):Bool:=c==1 || (c==2 || c==3)
def held (a b:Int):Bool:=
 if b==6 || b==11 || b==10 || b==13 || b==14 || b==15 then true else if a==9 then true else if a==12 then b==9 else if a==11 || a==10 then b==24 else if a==18 then b==18 else false
def zie (a b:Int):Bool:=a==6 || a==7 || b==7&& !(a==4 || a==17 || a==16)
def tog (a b:Int):Bool:=
 if a==12 then true else if a==0 || a==20 then b==0 || b==20 || b==9 || b==21 || b==22 else if a==14 || a==10 || a==21 then b==0 || b==20 else
 if a==22 then b==0 || b==20 || b==23 else if a==16 || a==15 then b==20 else if a==23 then b==21 else false
def jnB (s b:Int) (nm nx od:Bool):Bool:=
 if zie s b || (b==12 || b==17 || b==16 || b==24 || b==19) || tog s b then true else if b==21 || b==22 then nm else if (s==21 || s==22)&&b==9 then nx else if s==25&&b==25 then od else false
def lnL (A B:List Int):Bool:=
 if A.headD (-1)==2&&B.headD (-1)==3 then false else if qA (A.headD (-1)) then true else if qA (B.headD (-1)) || (B.headD (-1)==4 || B.headD (-1)==5) then false else
 if (A.dropWhile gi).headD (-1)==5 then true else if A.headD (-1)==4 then !held (bL (A.dropWhile gi)) (B.headD (-1)) else
 !(B.headD (-1)==8)&&(!held (bL (A.dropWhile gi)) (B.headD (-1))&& !jnB (bL A) (B.headD (-1)) (m8 A) (B.tail.headD (-1)==20) (il A false))
def lnF (a b s h:Int) (z5 nm nx od:Bool):Bool:=
 if a==2&&b==3 then false else if qA a then true else if qA b || (b==4 || b==5) then false else if z5 then true else if a==4 then !held h b else !(b==8)&&(!held h b&& !jnB s b nm nx od)
def lnE (a b s h:Int) (z5 nm nx o0 o1:Bool):Bool:=bif a==2&&b==3 then false else bif (a==1 || (a==2 || (a==3))) then true else bif (b==1 || (b==2 || (b==3 || (b==4 || (b==5))))) then false else bif z5 then true else bif (a==0 || (a==6 || (a==7 || (a==8 || (a==9 || (a==10 || (a==11 || (a==12 || (a==13 || (a==14 || (a==15 || (a==16 || (a==17 || (a==18 || (a==19 || (a==20 || (a==21 || (a==22 || (a==23 || (a==24 || (a==25)))))))))))))))))))))&&b==8 then false else bif b==6 then false else bif s==6 then false else bif s==7 then false else bif (s==0 || (s==1 || (s==2 || (s==3 || (s==5 || (s==6 || (s==7 || (s==9 || (s==10 || (s==11 || (s==12 || (s==13 || (s==14 || (s==15 || (s==18 || (s==19 || (s==20 || (s==21 || (s==22 || (s==23 || (s==24 || (s==25))))))))))))))))))))))&&b==7 then false else bif s== -1&&b==7 then false else bif (b==10 || (b==11 || (b==13 || (b==14 || (b==15))))) then false else bif h==9 then false else bif h==12&&b==9 then false else bif (h==10 || (h==11))&&b==24 then false else bif h==18&&b==18 then false else bif a==4 then true else bif b==12 then false else bif s==12 then false else bif (b==16 || (b==17 || (b==24))) then false else bif b==19 then false else bif s==0&&b==20 then false else bif s==20&&b==0 then false else bif s==22&&b==23 then false else bif s==23&&b==21 then false else bif (s==21 || (s==22))&&b==0 then false else bif s==0&&(b==21 || (b==22)) then false else bif nm&&(b==21 || (b==22)) then false else bif (s==21 || (s==22))&&(b==20 || ((b==9 || b==16)&&nx)) then false else bif (s==14 || (s==15 || (s==16 || (s==20))))&&b==20 then false else bif s==0&&b==0 then false else bif s==14&&b==0 then false else bif (s==0 || (s==20))&&b==9 then false else bif s==10&&(b==0 || (b==20)) then false else bif o0&&b==25 then false else bif o1&&b==25 then false else true
def al2 (p:Bool->Bool):Bool:=p true&&p false
theorem p5 {p:Bool->Bool} (h:al2 p=true) (x:Bool):p x=true:=by
 unfold al2 at h;rw[sD] at h
 cases x
 ·exact h.2
 ·exact h.1
def lnB (a b s h:Int):Bool:=al2 fun z5=>al2 fun nm=>al2 fun nx=>al2 fun o0=>al2 fun o1=>(a==5&& !z5) || (s==20&& !nm) || s==8 || ((o0 || o1)&& !(s==25)) || (lnE a b s h z5 nm nx o0 o1==lnF a b s h z5 nm nx (o0 || o1))
theorem zxb:((sV 26).all fun a=>(a==4 || a==8) || (sV 26).all fun b=>lnB a b a a)=true:=by decide+kernel
theorem zxa:((sV 26).all fun b=>lnB 4 b 4 (-1)&&(sV 26).all fun x=>lnB 4 b 4 x)=true:=by decide+kernel
theorem zwZ:((sV 26).all fun b=>lnB 8 b (-1) (-1)&&(sV 26).all fun x=>lnB 8 b x x)=true:=by decide+kernel
theorem m1 (x t:Int):x∈ [t] ↔ (x==t)=true:=by rw[sJ,beq_iff_eq]
theorem m_0 (x:Int):x∈([1,2,3]:List Int) ↔ (x==1 || (x==2 || (x==3)))=true:=by simp only[sO,sM,or_false,sG,beq_iff_eq]
theorem m_1 (x:Int):x∈([1,2,3,4,5]:List Int) ↔ (x==1 || (x==2 || (x==3 || (x==4 || (x==5)))))=true:=by simp only[sO,sM,or_false,sG,beq_iff_eq]
theorem m_2 (x:Int):x∈([0,6,7,8,9,10,11,12,13,14,15,16,17,18,19,20,21,22,23,24,25]:List Int) ↔ (x==0 || (x==6 || (x==7 || (x==8 || (x==9 || (x==10 || (x==11 || (x==12 || (x==13 || (x==14 || (x==15 || (x==16 || (x==17 || (x==18 || (x==19 || (x==20 || (x==21 || (x==22 || (x==23 || (x==24 || (x==25)))))))))))))))))))))=true:=by simp only[sO,sM,or_false,sG,beq_iff_eq]
theorem m_3 (x:Int):x∈([0,1,2,3,5,6,7,9,10,11,12,13,14,15,18,19,20,21,22,23,24,25]:List Int) ↔ (x==0 || (x==1 || (x==2 || (x==3 || (x==5 || (x==6 || (x==7 || (x==9 || (x==10 || (x==11 || (x==12 || (x==13 || (x==14 || (x==15 || (x==18 || (x==19 || (x==20 || (x==21 || (x==22 || (x==23 || (x==24 || (x==25))))))))))))))))))))))=true:=by simp only[sO,sM,or_false,sG,beq_iff_eq]
theorem m_4 (x:Int):x∈([10,11,13,14,15]:List Int) ↔ (x==10 || (x==11 || (x==13 || (x==14 || (x==15)))))=true:=by simp only[sO,sM,or_false,sG,beq_iff_eq]
theorem m_5 (x:Int):x∈([10,11]:List Int) ↔ (x==10 || (x==11))=true:=by simp only[sO,sM,or_false,sG,beq_iff_eq]
theorem m_6 (x:Int):x∈([16,17,24]:List Int) ↔ (x==16 || (x==17 || (x==24)))=true:=by simp only[sO,sM,or_false,sG,beq_iff_eq]
theorem m_7 (x:Int):x∈([21,22]:List Int) ↔ (x==21 || (x==22))=true:=by simp only[sO,sM,or_false,sG,beq_iff_eq]
theorem m_8 (x:Int):x∈([14,15,16,20]:List Int) ↔ (x==14 || (x==15 || (x==16 || (x==20))))=true:=by simp only[sO,sM,or_false,sG,beq_iff_eq]
theorem m_9 (x:Int):x∈([0,20]:List Int) ↔ (x==0 || (x==20))=true:=by simp only[sO,sM,or_false,sG,beq_iff_eq]
theorem zvg {a b s h:Int} (ha:0<=a/\a<=25) (hb:0<=b/\b<=25) (hs: -1<=s/\s<=25) (hh: -1<=h/\h<=25) (c1:a≠4->h=s) (c2:a≠8->s=a) (c3:s≠8) (z5 nm nx o0 o1:Bool) (k1:a=5->z5=true) (k2:s=20->nm=true) (k3:(o0 || o1)=true->s=25):
  lnE a b s h z5 nm nx o0 o1=lnF a b s h z5 nm nx (o0 || o1):=by
 have fin:lnB a b s h=true->lnE a b s h z5 nm nx o0 o1=lnF a b s h z5 nm nx (o0 || o1):=fun H=>by
  unfold lnB at H;have H2:=p5 (p5 (p5 (p5 (p5 H z5) nm) nx) o0) o1
  simp only[sG,sD,beq_iff_eq,Bool.not_eq_true'] at H2
  rcases H2 with (((⟨e1,e2⟩ | ⟨e1,e2⟩) | e1) | ⟨e1,e2⟩) | e
  ·rw[k1 e1] at e2;cases e2
  ·rw[k2 e1] at e2;cases e2
  ·exact absurd e1 c3
  ·have:=k3 (by rw[sG];exact e1)
   rw[this] at e2
   cases e2
  ·exact e
 obtain⟨bn,rfl⟩:∃n:Nat,b=n:=⟨b.toNat,by omega⟩
 have hbn:=sU.2 (show bn<26 by omega)
 refine fin ?_
 by_cases e4:a=4
 ·subst e4
  obtain rfl:s=4:=c2 (by decide)
  have k:=sL.1 zxa bn hbn;rw[sD] at k
  rcases Int.lt_or_le h 0 with e | e
  ·obtain rfl:h= -1:=by omega
   exact k.1
  ·obtain⟨x,rfl⟩:∃n:Nat,h=n:=⟨h.toNat,by omega⟩
   exact sL.1 k.2 x (sU.2 (by omega))
 ·obtain rfl:=c1 e4
  by_cases e8:a=8
  ·subst e8
   have k:=sL.1 zwZ bn hbn;rw[sD] at k
   rcases Int.lt_or_le h 0 with e | e
   ·obtain rfl:h= -1:=by omega
    exact k.1
   ·obtain⟨x,rfl⟩:∃n:Nat,h=n:=⟨h.toNat,by omega⟩
    exact sL.1 k.2 x (sU.2 (by omega))
  ·obtain rfl:=c2 e8
   obtain⟨x,rfl⟩:∃n:Nat,h=n:=⟨h.toNat,by omega⟩
   have k:=sL.1 zxb x (sU.2 (by omega))
   rw[sG,sG,beq_iff_eq,beq_iff_eq] at k
   rcases k with (k | k) | k
   ·exact absurd (by omega) e4
   ·exact absurd (by omega) e8
   ·exact sL.1 k bn hbn
theorem zvU (c:List Int) (k:Nat):Sw c pf k ↔ ((∃z,c[k]? =some z/\z=20)\/((∃z,c[k]? =some z/\(z=9\/z=16))/\c[k+1]? =some 20)):=by
 unfold Sw pf
 simp only[zaL,gF,gG,zxf,led3,zvj,zvk,l9,sJ,or_false]
 constructor
 ·rintro ⟨_,_,_,x,h1,_,⟨rfl,z,h2,rfl⟩,rfl⟩
  rcases h1 with rfl | ⟨rfl,z,h3,rfl⟩ | ⟨rfl,z,h3,rfl⟩
  ·exact .inl ⟨20,h2,rfl⟩
  ·exact .inr ⟨⟨9,h3,.inl rfl⟩,h2⟩
  ·exact .inr ⟨⟨16,h3,.inr rfl⟩,h2⟩
 ·rintro (⟨z,h1,rfl⟩ | ⟨⟨z,h1,h2⟩,h3⟩)
  ·have:=(sK.1 h1).1
   exact⟨k+1,by omega,by omega,k,.inl rfl,k+1,⟨rfl,20,h1,rfl⟩,rfl⟩
  ·have:=(sK.1 h3).1
   refine⟨k+2,by omega,by omega,k+1,.inr ?_,k+2,⟨rfl,20,h3,rfl⟩,rfl⟩
   rcases h2 with rfl | rfl
   ·exact .inl ⟨rfl,9,h1,rfl⟩
   ·exact .inr ⟨rfl,16,h1,rfl⟩
theorem zvi {c:List Int} {k:Nat} (hc:Cls c) (hk:0<k) (hkl:k<=c.length):aO c mN 0 k ↔ bL (cf c k)= -1:=by
 have hle:=stp_le c cu k;have e0:aO c mN 0 k ↔ Rw c 0 k:=by
  unfold mN
  simp only[zaL,gF,gG,zeo,jZ,l9]
  constructor
  ·rintro ⟨_,⟨rfl,z,h1,h2⟩,_,h3,rfl⟩
   exact⟨Nat.zero_le _,fun m h4 h5=>by
    rcases sS m with e | e
    ·exact e ▸ ⟨z,h1,h2⟩
    ·exact h3.2 m (by omega) h5⟩
  ·intro h
   obtain⟨z,h1,h2⟩:=h.2 0 (sT _) hk;exact⟨1,⟨rfl,z,h1,h2⟩,k,⟨hk,fun m h4 h5=>h.2 m (Nat.zero_le _) h5⟩,rfl⟩
 rw[e0];unfold bL;rw[jY c cu k hkl]
 constructor
 ·intro h
  rw[zlq hkl h (.inl rfl),zoL];rfl
 ·intro h
  rcases sS (stp c cu k) with e | e
  ·have:=zld c hkl
   rw[e] at this;exact this
  ·exfalso
   obtain⟨m,hm⟩:∃m,stp c cu k=m+1:=⟨stp c cu k - 1,by omega⟩
   rw[hm,jT (by omega),sH] at h
   have:=hc _ (sP (dI (c:=c) (i:=m) (by omega)))
   omega
theorem ztd {c:List Int} (hc:Cls c) {k:Nat} (hk:0<k) (hkn:k<c.length):dcd true c k qp=lnL (c.take k).reverse (c.drop k):=by
 have hkl:k<=c.length:=Nat.le_of_lt hkn;have ha:c[k - 1]? =some (c.getD (k - 1) 0):=dI (by omega)
 have hb:c[k]? =some (c.getD k 0):=dI hkn;have hA:(c.take k).reverse=cf c k:=rfl;obtain⟨Z,hZ⟩:∃Z,cf c k=c.getD (k - 1) 0::Z:=by
  obtain⟨j,rfl⟩:∃j,k=j+1:=⟨k - 1,by omega⟩
  exact⟨cf c j,by rw[jT (by omega),sI]⟩
 have hd:c.drop k=c.getD k 0::c.drop (k+1):=by
  rw[sY hkn,sE,sR hkn];rfl
 have cA:=hc _ (sP ha);have cB:=hc _ (sP hb);have clA:∀z∈cf c k,0<=z/\z<=25:=fun z hz=>hc z (List.mem_of_mem_take (List.mem_reverse.1 hz))
 have bd:∀A:List Int,(∀z∈A,0<=z/\z<=25)-> -1<=bL A/\bL A<=25:=fun A h=>by
  unfold bL
  cases e:A.dropWhile cu with
  | nil=>exact⟨by simp,by simp⟩
  | cons z Y=>
   have:=h z ((ta _).subset (by rw[e];simp))
   rw[sH];omega
 have cS:=bd _ clA;have cH:=bd ((cf c k).dropWhile gi) (fun z hz=>clA z ((ta _).subset hz))
 have c3:bL (cf c k)≠8:=by
  unfold bL;have:=List.head?_dropWhile_not cu (cf c k)
  cases e:(cf c k).dropWhile cu with
  | nil=>simp
  | cons z Y=>
   rw[e] at this;rw[sH];rintro rfl;have:cu 8=false:=by simpa using this
   cases this
 have c1:c.getD (k - 1) 0≠4->bL ((cf c k).dropWhile gi)=bL (cf c k):=fun h=>by
  rw[hZ,sN (by unfold gi;simpa using h)]
 have c2:c.getD (k - 1) 0≠8->bL (cf c k)=c.getD (k - 1) 0:=fun h=>by
  unfold bL;rw[hZ,sN (by unfold cu;simpa using h),sH]
 have k1:c.getD (k - 1) 0=5->(((cf c k).dropWhile gi).headD (-1)==5)=true:=fun h=>by
  rw[hZ,h,sN (by decide)];rfl
 have k2:bL (cf c k)=20->m8 (cf c k)=true:=fun h=>by
  unfold m8 p1L;rw[h];rfl
 have hO:=zsP hc hkl;have hOb:il (cf c k) false=true->bL (cf c k)=25:=oU (cf c k);have nz:∀{T:List Int},(T.all fun z=> !cu z&& !(z== -1))=true->∀z∈T,cu z=false/\z≠ -1:=fun h z hz=>by
  have:=sL.1 h z hz;rw[sD] at this;exact⟨by simpa using this.1,by simpa using this.2⟩
 have L1:∀(T:List Int),(T.all fun z=> !cu z&& !(z== -1))=true->(En c (.mk 2 [] [(.mk 1 T []),(.mk 4 [] [(.mk 1 [8] [])])]) k ↔ bL (cf c k)∈T):=fun T h=>(zxv c T k).trans (enr (nz h) hkl)
 have LS:∀(T:List Int),(T.all fun z=> !cu z&& !(z== -1))=true->(T.all fun z=> !gi z)=true->(En c (.mk 2 [] [(.mk 1 T []),(.mk 4 [] [(.mk 1 [8] [])]),(.mk 4 [] [(.mk 1 [4] [])])]) k ↔ bL ((cf c k).dropWhile gi)∈T):=fun T h h2=>zvz (nz h) (fun z hz=>by simpa using sL.1 h2 z hz) hkl
 have L5:En c (.mk 2 [] [(.mk 1 [5] []),(.mk 4 [] [(.mk 1 [4] [])])]) k ↔ (((cf c k).dropWhile gi).headD (-1)==5)=true:=by
  rw[zxu (by decide) hkl,sJ,beq_iff_eq]
 have L37:=(zxw c k).trans (zsT c hkl);have ST13:aO c mN 0 k ↔ (bL (cf c k)== -1)=true:=by rw[zvi hc hk hkl,beq_iff_eq]
 have R1:∀(T:List Int),Sw c (.mk 1 T []) k ↔ c.getD k 0∈T:=fun T=>by
  rw[sw_1,hb];exact⟨fun⟨z,h1,h2⟩=>by cases h1;exact h2,fun h=>⟨_,rfl,h⟩⟩
 have hnx:(c.drop (k+1)).headD (-1)=20 ↔ c[k+1]? =some 20:=by
  cases e:c[k+1]? with
  | none=>rw[List.drop_of_length_le (List.getElem?_eq_none_iff.1 e)];simp
  | some z=>
   obtain⟨h1,h2⟩:=sK.1 e;rw[sY h1,h2,sH]
   simp
 have R40:Sw c pf k ↔ (c.getD k 0==20 || ((c.getD k 0==9 || c.getD k 0==16)&&((c.drop (k+1)).headD (-1)==20)))=true:=by
  rw[zvU,hb,<- hnx]
  simp only[sG,sD,beq_iff_eq,Option.some.injEq,exists_eq_left']
 have A1:∀(T:List Int),En c (.mk 1 T []) k ↔ c.getD (k - 1) 0∈T:=fun T=>by
  rw[en_1 hk,ha];exact⟨fun⟨z,h1,h2⟩=>by cases h1;exact h2,fun h=>⟨_,rfl,h⟩⟩
 have A0:=en_0 c k;have S0:=sw_0 c hkl;have e2:lnL (c.take k).reverse (c.drop k)=lnF (c.getD (k - 1) 0) (c.getD k 0) (bL (cf c k)) (bL ((cf c k).dropWhile gi)) (((cf c k).dropWhile gi).headD (-1)==5) (m8 (cf c k)) ((c.drop (k+1)).headD (-1)==20) (il (cf c k) false):=by
  unfold lnL lnF;rw[hA,hd,sH,tf,show(cf c k).headD (-1)=c.getD (k - 1) 0 by rw[hZ,sH]]
 rw[e2];clear e2 hA hd clA nz hc hnx bd hZ
 generalize c.getD (k - 1) 0=a at cA A1 c1 c2 k1
 generalize c.getD k 0=b at cB R1 R40
 generalize bL (cf c k)=s at *
 generalize bL ((cf c k).dropWhile gi)=h at *
 generalize (((cf c k).dropWhile gi).headD (-1)==5)=z5 at *
 generalize m8 (cf c k)=nm at *
 generalize ((c.drop (k+1)).headD (-1)==20)=nx at *
 obtain⟨o0,ho0⟩:∃o:Bool,Od c 0 k ↔ o=true:=by
  by_cases h:Od c 0 k
  ·exact⟨true,by simp[h]⟩
  ·exact⟨false,by simp[h]⟩
 obtain⟨o1,ho1⟩:∃o:Bool,Od2 c k ↔ o=true:=by
  by_cases h:Od2 c k
  ·exact⟨true,by simp[h]⟩
  ·exact⟨false,by simp[h]⟩
 have hoo:il (cf c k) false=(o0 || o1):=by
  rw[Bool.eq_iff_iff,sG,<- ho0,<- ho1];exact hO.symm
 rw[hoo,<- zvg cA cB cS cH c1 c2 c3 z5 nm nx o0 o1 k1 k2 (fun h=>hOb (by rw[hoo];exact h))]
 unfold qp lnE;rw[aC (d:=a==2&&b==3) (by rw[az];unfold znv znt;rw[A1,R1,m1 a 2,m1 b 3];simp only[sD])]
 rw[aC (d:=(a==1 || (a==2 || (a==3)))) (by rw[az];unfold znh bT;rw[A1,m_0 a];simp only[S0,and_true])]
 rw[aC (d:=(b==1 || (b==2 || (b==3 || (b==4 || (b==5)))))) (by rw[az];unfold bT zmK;rw[R1,m_1 b];simp only[A0,true_and])]
 rw[aC (d:=z5) (by rw[az];unfold zmz bT;rw[L5];simp only[S0,and_true])]
 rw[aC (d:=(a==0 || (a==6 || (a==7 || (a==8 || (a==9 || (a==10 || (a==11 || (a==12 || (a==13 || (a==14 || (a==15 || (a==16 || (a==17 || (a==18 || (a==19 || (a==20 || (a==21 || (a==22 || (a==23 || (a==24 || (a==25)))))))))))))))))))))&&b==8) (by rw[az];unfold zmx zmv;rw[A1,R1,m_2 a,m1 b 8];simp only[sD])]
 rw[aC (d:=b==6) (by rw[az];unfold bT zmt;rw[R1,m1 b 6];simp only[A0,true_and])]
 rw[aC (d:=s==6) (by rw[az];unfold zmr bT;rw[L1 _ (by decide),m1 s 6];simp only[S0,and_true])]
 rw[aC (d:=s==7) (by rw[az];unfold zei bT;rw[L1 _ (by decide),m1 s 7];simp only[S0,and_true])]
 rw[aC (d:=(s==0 || (s==1 || (s==2 || (s==3 || (s==5 || (s==6 || (s==7 || (s==9 || (s==10 || (s==11 || (s==12 || (s==13 || (s==14 || (s==15 || (s==18 || (s==19 || (s==20 || (s==21 || (s==22 || (s==23 || (s==24 || (s==25))))))))))))))))))))))&&b==7) (by rw[az];unfold zeg mP;rw[L1 _ (by decide),R1,m_3 s,m1 b 7];simp only[sD])]
 rw[aC (d:=s== -1&&b==7) (by rw[rQ,ST13];unfold mP;rw[R1,m1 b 7];simp only[sD])]
 rw[aC (d:=(b==10 || (b==11 || (b==13 || (b==14 || (b==15)))))) (by rw[az];unfold bT zed;rw[R1,m_4 b];simp only[A0,true_and])]
 rw[aC (d:=h==9) (by rw[az];unfold zeb bT;rw[LS _ (by decide) (by decide),m1 h 9];simp only[S0,and_true])]
 rw[aC (d:=h==12&&b==9) (by rw[az];unfold zdZ mM;rw[LS _ (by decide) (by decide),R1,m1 h 12,m1 b 9];simp only[sD])]
 rw[aC (d:=(h==10 || (h==11))&&b==24) (by rw[az];unfold zdX zdV;rw[LS _ (by decide) (by decide),R1,m_5 h,m1 b 24];simp only[sD])]
 rw[aC (d:=h==18&&b==18) (by rw[az];unfold zdT zdR;rw[LS _ (by decide) (by decide),R1,m1 h 18,m1 b 18];simp only[sD])]
 rw[aC (d:=a==4) (by rw[az];unfold zdP bT;rw[A1,m1 a 4];simp only[S0,and_true])]
 rw[aC (d:=b==12) (by rw[az];unfold bT zdN;rw[R1,m1 b 12];simp only[A0,true_and])]
 rw[aC (d:=s==12) (by rw[az];unfold zdL bT;rw[L1 _ (by decide),m1 s 12];simp only[S0,and_true])]
 rw[aC (d:=(b==16 || (b==17 || (b==24)))) (by rw[az];unfold bT zdJ;rw[R1,m_6 b];simp only[A0,true_and])]
 rw[aC (d:=b==19) (by rw[az];unfold bT zdH;rw[R1,m1 b 19];simp only[A0,true_and])]
 rw[aC (d:=s==0&&b==20) (by rw[az];unfold iu mK;rw[L1 _ (by decide),R1,m1 s 0,m1 b 20];simp only[sD])]
 rw[aC (d:=s==20&&b==0) (by rw[az];unfold zdF fb;rw[L1 _ (by decide),R1,m1 s 20,m1 b 0];simp only[sD])]
 rw[aC (d:=s==22&&b==23) (by rw[az];unfold zdD zdB;rw[L1 _ (by decide),R1,m1 s 22,m1 b 23];simp only[sD])]
 rw[aC (d:=s==23&&b==21) (by rw[az];unfold zdz zdx;rw[L1 _ (by decide),R1,m1 s 23,m1 b 21];simp only[sD])]
 rw[aC (d:=(s==21 || (s==22))&&b==0) (by rw[az];unfold zdv fb;rw[L1 _ (by decide),R1,m_7 s,m1 b 0];simp only[sD])]
 rw[aC (d:=s==0&&(b==21 || (b==22))) (by rw[az];unfold iu zdt;rw[L1 _ (by decide),R1,m1 s 0,m_7 b];simp only[sD])]
 rw[aC (d:=nm&&(b==21 || (b==22))) (by rw[az,L37];unfold zdq;rw[R1,m_7 b];simp only[sD])]
 rw[aC (d:=(s==21 || (s==22))&&(b==20 || ((b==9 || b==16)&&nx))) (by rw[az,R40];unfold zdo;rw[L1 _ (by decide),m_7 s];simp only[sD])]
 rw[aC (d:=(s==14 || (s==15 || (s==16 || (s==20))))&&b==20) (by rw[az];unfold zdl mK;rw[L1 _ (by decide),R1,m_8 s,m1 b 20];simp only[sD])]
 rw[aC (d:=s==0&&b==0) (by rw[az];unfold iu fb;rw[L1 _ (by decide),R1,m1 s 0,m1 b 0];simp only[sD])]
 rw[aC (d:=s==14&&b==0) (by rw[az];unfold zdj fb;rw[L1 _ (by decide),R1,m1 s 14,m1 b 0];simp only[sD])]
 rw[aC (d:=(s==0 || (s==20))&&b==9) (by rw[az];unfold zdh mM;rw[L1 _ (by decide),R1,m_9 s,m1 b 9];simp only[sD])]
 rw[aC (d:=s==10&&(b==0 || (b==20))) (by rw[az];unfold zdf zdd;rw[L1 _ (by decide),R1,m1 s 10,m_9 b];simp only[sD])]
 rw[aC (d:=o0&&b==25) (by rw[rQ,zvh,ho0];unfold mI;rw[R1,m1 b 25];simp only[sD])]
 rw[aC (d:=o1&&b==25) (by rw[az,zxx,ho1];unfold mI;rw[R1,m1 b 25];simp only[sD])]
 rw[zra]
end Li
end
section
namespace Li
theorem nft:¬(false=true):=by simp
theorem oT (z:Int) (l:List Int) (o:Bool):il (z::l) o=if z==25 then il l (!o) else if cu z then il l o else o:=rfl
theorem zav:∀(Y:List Int) (o:Bool),il Y (!o)= !il Y o
 | [],o=>rfl
 | y::Y,o=>by
  unfold il
  split
  ·exact zav Y (!o)
  ·split
   ·exact zav Y o
   ·rfl
theorem zaw:∀(X Y:List Int) (o:Bool),X.all rgc=true->il (X++Y) o=il Y (il X o)
 | [],Y,o,_=>rfl
 | x::X,Y,o,h=>by
  rw[tc,sD] at h;rw[sZ,oT,oT]
  cases h7:(x==25) with
  | true=>rw[if_pos rfl,if_pos rfl];exact zaw X Y (!o) h.2
  | false=>
   have hc:cu x=true:=by
    have:=h.1;unfold rgc at this;rw[h7,tg] at this;exact this
   rw[if_neg nft,if_neg nft,if_pos hc,if_pos hc];exact zaw X Y o h.2
theorem oS:∀(X Y:List Int) (o:Bool),X.all rgc=false->il (X++Y) o=il X o
 | [],Y,o,h=>by cases h
 | x::X,Y,o,h=>by
  rw[sZ,oT,oT]
  cases h7:(x==25) with
  | true=>
   have:X.all rgc=false:=by
    rw[tc] at h;unfold rgc at h;rw[h7,Bool.true_or,ti] at h;exact h
   rw[if_pos rfl,if_pos rfl];exact oS X Y (!o) this
  | false=>
   rw[if_neg nft,if_neg nft]
   cases hc:cu x with
   | true=>
    have:X.all rgc=false:=by
     rw[tc] at h;unfold rgc at h;rw[h7,hc,te,ti] at h;exact h
    rw[if_pos rfl,if_pos rfl];exact oS X Y o this
   | false=>rw[if_neg nft,if_neg nft]
theorem zsN {Y:List Int} (h:rgc (Y.headD 0)=false) (o:Bool):il Y o=o:=by
 cases Y with
 | nil=>rfl
 | cons y Y=>
  rw[sH] at h;unfold rgc at h;rw[Bool.or_eq_false_iff] at h;rw[oT,h.1,h.2,if_neg nft,if_neg nft]
theorem zjn {Y R:List Int} {x:Int} (hx:rgc x=true) (h:lnL Y (x::R)=true):il Y false=false:=by
 cases hy:rgc (Y.headD 0) with
 | false=>exact zsN hy false
 | true=>
  cases ho:il Y false with
  | false=>rfl
  | true=>
   exfalso
   have hb:=oU Y ho
   cases Y with
   | nil=>cases ho
   | cons y Y=>
    rw[sH] at hy;have hy2:y=25\/y=8:=by
     unfold rgc cu at hy
     simpa using hy
    have hx2:x=25\/x=8:=by
     unfold rgc cu at hx
     simpa using hx
    have hl:bL (y::Y)=25:=hb;have hs:(y::Y).dropWhile gi=y::Y:=sN (by unfold gi;rcases hy2 with rfl | rfl<;>decide)
    unfold lnL at h;rw[hs,hl,ho,sH,sH] at h
    generalize m8 (y::Y)=nm at h
    generalize ((x::R).tail.headD (-1)==20)=nx at h
    rcases hy2 with rfl | rfl<;>rcases hx2 with rfl | rfl<;>cases nm<;>cases nx<;>exact absurd h (by decide)
theorem zlX (X Y B:List Int) (hX:X≠ []) (hb:Y=[]\/lnL Y (X.reverse++B)=true):il (X++Y) false=il X false:=by
 rcases hb with rfl | hb
 ·rw[List.append_nil]
 cases hr:X.all rgc with
 | false=>exact oS _ _ _ hr
 | true=>
  obtain⟨U,x0,rfl⟩:∃U x0,X=U++[x0]:=by
   rcases List.eq_nil_or_concat X with h | ⟨U,x0,h⟩
   ·exact absurd h hX
   ·exact⟨U,x0,by rw[h,List.concat_eq_append]⟩
  rw[tb,List.reverse_singleton,List.singleton_append,sZ] at hb;have hY:=zjn (sL.1 hr x0 (by simp)) hb
  rw[zaw _ _ _ hr]
  cases il (U++[x0]) false with
  | false=>exact hY
  | true=>
   have:=zav Y false;rw[hY] at this;exact this
end Li
end
end Go.Proofs.YtbbapnpdfcgjnaaGreatDoor
