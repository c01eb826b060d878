/- PtMath, ChMath: parts of the proof, joined. -/
import Derived.Test.YtbbapnpdfcgjnaaGreatDoorProg
open List renaming take_succ_eq_append_getElem->sD, getElem?_eq_some_iff->sG, getElem?_take_of_lt->sI, any_cons->sJ, getElem?_drop->sK, cons_append->sM
open Bool renaming or_eq_true->sE, false_or->sN
open Nat renaming le_refl->sH, le_trans->sL, zero_add->sO
set_option maxHeartbeats 64000000
namespace Go.Proofs.YtbbapnpdfcgjnaaGreatDoor
section
namespace Pt
inductive cj(R:Nat->Nat->Prop):Nat->Nat->Prop where
 |refl (i:Nat):cj R i i
 |step {i j k:Nat}:R i j->cj R j k->cj R i k
theorem cj.trans{R:Nat->Nat->Prop}{i j k:Nat}(h:cj R i j)(h2:cj R j k):cj R i k:=by
 induction h with
 |refl=>exact h2
 |step a _ ih=>exact .step a (ih h2)
def Pk(a:Nat->Nat->Prop):Nat->Nat->Nat->Prop
 |0=>fun i j=>i=j\/a i j
 |K+1=>fun i j=>Pk a K i j\/(Pk a K i K/\Pk a K K j)
theorem oB{a:Nat->Nat->Prop}:∀(K i j:Nat),Pk a K i j->cj a i j
 |0,i,j,h=>by
  rcases h with h|h
  ·exact h ▸ .refl i
  ·exact .step h (.refl _)
 |K+1,i,j,h=>by
  rcases h with h|⟨h,h2⟩
  ·exact oB K i j h
  ·exact(oB K i K h).trans (oB K K j h2)
theorem znt{a:Nat->Nat->Prop}{i j:Nat}:∀(K:Nat),Pk a 0 i j->Pk a K i j
 |0,h=>h
 |K+1,h=>.inl (znt K h)
inductive Pth(a:Nat->Nat->Prop):Nat->List Nat->Nat->Prop where
 |one {i j:Nat}:a i j->Pth a i [] j
 |more {i m j:Nat} {l:List Nat}:a i m->Pth a m l j->Pth a i (m::l) j
theorem mD{a:Nat->Nat->Prop}{m:Nat}:∀(l1:List Nat) {i j:Nat} {l2:List Nat},Pth a i (l1++m::l2) j->Pth a i l1 m/\Pth a m l2 j
 |[],i,j,l2,h=>by
  cases h with
  |more h1 h2=>exact⟨.one h1,h2⟩
 |x::l1,i,j,l2,h=>by
  cases h with
  |more h1 h2=>obtain⟨k1,k2⟩:=mD l1 h2;exact⟨.more h1 k1,k2⟩
theorem iw(K:Nat):∀(l:List Nat),K∈l->∃l1 l2,l=l1++K::l2/\K ∉ l1
 |[],h=>by cases h
 |x::l,h=>by
  by_cases e:x=K
  ·exact⟨[],l,by rw[e];rfl,by simp⟩
  ·have h2:K∈l:=by
    cases h with
    |head=>exact absurd rfl e
    |tail _ h=>exact h
   obtain⟨l1,l2,h3,h4⟩:=iw K l h2;exact⟨x::l1,l2,by rw[h3];rfl,fun h5=>by
    cases h5 with
    |head=>exact e rfl
    |tail _ h=>exact h4 h⟩
theorem pU{a:Nat->Nat->Prop}:∀(K:Nat)(i:Nat)(l:List Nat)(j:Nat),(∀x∈l,x<K)->Pth a i l j->Pk a K i j
 |0,i,l,j,hl,h=>by
  cases h with
  |one h=>exact .inr h
  |more h1 h2=>exact absurd (hl _ (List.mem_cons_self ..)) (by omega)
 |K+1,i,l,j,hl,h=>by
  have small:∀(l:List Nat),(∀x∈l,x<K+1)->K ∉ l->∀x∈l,x<K:=fun l hl hK x hx=>by have:=hl x hx;have:x≠K:=fun e=>hK (e ▸ hx);omega
  have behind:∀(n:Nat)(l:List Nat),l.length<=n->(∀x∈l,x<K+1)->Pth a K l j->Pk a K K j:=by
   intro n
   induction n with
   |zero=>intro l hn hl h;have:l=[]:=List.length_eq_zero_iff.1 (by omega);subst this;exact pU K K [] j (fun x hx=>by cases hx) h
   |succ n ih=>
    intro l hn hl h;by_cases hK:K∈l
    ·obtain⟨l1,l2,rfl,h4⟩:=iw K l hK;simp only[List.length_append,List.length_cons]at hn;exact ih l2 (by omega) (fun x hx=>hl x (by simp[hx])) (mD l1 h).2
    ·exact pU K K l j (small l hl hK) h
  by_cases hK:K∈l
  ·obtain⟨l1,l2,rfl,h4⟩:=iw K l hK;obtain⟨h5,h6⟩:=mD l1 h;exact .inr ⟨pU K i l1 K (small l1 (fun x hx=>hl x (by simp[hx])) h4) h5,behind _ l2 (sH _) (fun x hx=>hl x (by simp[hx])) h6⟩
  ·exact .inl (pU K i l j (small l hl hK) h)
theorem zmO{a:Nat->Nat->Prop}{n:Nat}(hb:∀i j,i<n->a i j->j<n){i j:Nat}(h:cj a i j):i<n->i=j\/∃l,(∀x∈l,x<n)/\Pth a i l j:=by
 induction h with
 |refl i=>exact fun _=>.inl rfl
 |step h1 h2 ih=>
  intro hi;have hj:=hb _ _ hi h1;rcases ih hj with e|⟨l,hl,hp⟩
  ·exact .inr ⟨[],(fun x hx=>by cases hx),.one (e ▸ h1)⟩
  ·refine .inr ⟨_::l,fun x hx=>?_,.more h1 hp⟩;cases hx with
   |head=>exact hj
   |tail _ h=>exact hl x h
theorem zuA{a:Nat->Nat->Prop}{n:Nat}(hb:∀i j,i<n->a i j->j<n){i j:Nat}(hi:i<n):Pk a n i j ↔ cj a i j:=
 ⟨oB n i j,fun h=>by
  rcases zmO hb h hi with e|⟨l,hl,hp⟩
  ·exact znt n (.inl e)
  ·exact pU n i l j hl hp⟩
def bt(r:Nat->Nat)(k:Nat):Bool:=(r (k / 64)).testBit (k%64)
def qW(n:Nat)(W:Nat->Nat->Nat)(R:Nat->Nat->Prop):Prop:=∀i k,i<n->k<n->(bt (W i) k=true ↔ R i k)
def nY(r o:Nat->Nat):Nat->Nat:=fun j=>r j|||o j
theorem zaL(r o:Nat->Nat)(k:Nat):bt (nY r o) k=(bt r k||bt o k):=by simp[bt,nY]
def stR(r:Nat->Nat)(k:Nat):Nat->Nat:=fun j=>if j=k / 64 then r j|||2 ^ (k%64)else r j
theorem zsP(r:Nat->Nat)(k x:Nat):bt (stR r k) x=(bt r x||decide (x=k)):=by
 unfold bt stR;by_cases h:x / 64=k / 64
 ·rw[if_pos h];rw[Nat.testBit_or,Nat.testBit_two_pow];congr 1;by_cases e:x=k
  ·subst e;simp
  ·have:¬k%64=x%64:=by omega
   simp[e,this]
 ·rw[if_neg h];have:¬x=k:=fun e=>h (by rw[e]);simp[this]
def bhR(n:Nat)(a:Nat->Nat)(B:Nat->Nat->Nat):Nat->Nat->Nat
 |0=>fun _=>0
 |k+1=>if bt a k=true then nY (bhR n a B k) (B k)else bhR n a B k
theorem zjx(n:Nat)(a:Nat->Nat)(B:Nat->Nat->Nat)(x:Nat):∀k,bt (bhR n a B k) x=true ↔ ∃j,j<k/\bt a j=true/\bt (B j) x=true
 |0=>by simp[bhR,bt]
 |k+1=>by
  unfold bhR;constructor
  ·intro h;split at h
   ·rename_i hk;rw[zaL,sE]at h;rcases h with h|h
    ·obtain⟨j,h1,h2⟩:=(zjx n a B x k).1 h;exact⟨j,by omega,h2⟩
    ·exact⟨k,by omega,hk,h⟩
   ·obtain⟨j,h1,h2⟩:=(zjx n a B x k).1 h;exact⟨j,by omega,h2⟩
  ·rintro ⟨j,h1,h2,h3⟩;by_cases e:j=k
   ·subst e;rw[if_pos h2,zaL,h3,Bool.or_true]
   ·have h4:=(zjx n a B x k).2 ⟨j,by omega,h2,h3⟩;split
    ·rw[zaL,h4,Bool.true_or]
    ·exact h4
def qY(W:Nat->Nat->Nat)(k:Nat):Nat->Nat->Nat->Nat
 |0=>W
 |i+1=>fun x=>if x=i/\bt (qY W k i i) k=true then nY (qY W k i i) (qY W k i k)else qY W k i x
def mrK(n:Nat)(W:Nat->Nat->Nat):Nat->Nat->Nat->Nat
 |0=>W
 |k+1=>qY (mrK n W k) k n
theorem zgL(W:Nat->Nat->Nat)(k y:Nat)(hk:bt (W k) k=true):∀i x,bt (qY W k i x) y=if x<i then (bt (W x) y||(bt (W x) k&&bt (W k) y))else bt (W x) y
 |0,x=>by simp[qY]
 |i+1,x=>by
  have ih:=zgL W k y hk i;have ihk:=zgL W k k hk i;have hrow:bt (qY W k i k) y=bt (W k) y:=by
   rw[ih k];split
   ·cases bt (W k) y<;>simp[hk]
   ·rfl
  have hcol:bt (qY W k i i) k=bt (W i) k:=by rw[ihk i];simp
  have hself:bt (qY W k i i) y=bt (W i) y:=by rw[ih i];simp
  unfold qY;by_cases e:x=i
  ·subst e;rw[if_pos (Nat.lt_succ_self x)];by_cases hb:bt (W x) k=true
   ·rw[if_pos ⟨rfl,by rw[hcol];exact hb⟩,zaL,hrow,hself,hb,Bool.true_and]
   ·rw[if_neg (fun h=>hb (by rw[<-hcol];exact h.2)),hself];simp[hb]
  ·rw[if_neg (fun h=>e h.1),ih x];by_cases h:x<i
   ·rw[if_pos h,if_pos (by omega)]
   ·rw[if_neg h,if_neg (by omega)]
theorem ziH(n:Nat)(W:Nat->Nat->Nat)(a:Nat->Nat->Prop)(h:qW n W (Pk a 0)):∀k,k<=n->qW n (mrK n W k) (Pk a k)
 |0,_=>h
 |k+1,hk=>by have ih:=ziH n W a h k (by omega);have hkk:bt (mrK n W k k) k=true:=(ih k k (by omega) (by omega)).2 (znt k (.inl rfl));intro i j hi hj;show bt (qY (mrK n W k) k n i) j=true ↔ _;rw[zgL _ _ _ hkk,if_pos hi,sE,Bool.and_eq_true,ih i j hi hj,ih i k hi (by omega),ih k j (by omega) hj];rfl
theorem qW.congr{n:Nat}{W:Nat->Nat->Nat}{R S:Nat->Nat->Prop}(h:qW n W R)(e:∀i k,i<n->k<n->(R i k ↔ S i k)):qW n W S:=fun i k hi hk=>(h i k hi hk).trans (e i k hi hk)
theorem znm(n:Nat):qW n (fun _ _=>0) (fun _ _=>False):=fun i k _ _=>by simp[bt]
theorem lk(n:Nat):qW n (fun i=>stR (fun _=>0) i) (fun i k=>i=k):=fun i k _ _=>by simp only[];rw[zsP];simp[bt,eq_comm]
theorem pO{n:Nat}{A B:Nat->Nat->Nat}{R S:Nat->Nat->Prop}(h:qW n A R)(h2:qW n B S):qW n (fun i=>nY (nY (fun _=>0) (A i)) (B i)) (fun i k=>R i k\/S i k):=fun i k hi hk=>by simp only[];rw[zaL,zaL,sE,sE,h i k hi hk,h2 i k hi hk];simp[bt]
def Cmp(R S:Nat->Nat->Prop)(i k:Nat):Prop:=∃j,R i j/\S j k
def Kn(n:Nat)(R:Nat->Nat->Prop):Prop:=∀i j,i<n->R i j->j<n
theorem pP{n:Nat}{A B:Nat->Nat->Nat}{R S:Nat->Nat->Prop}(h:qW n A R)(h2:qW n B S)(hk:Kn n R):qW n (fun i=>bhR n (A i) B n) (Cmp R S):=fun i k hi hk2=>by
 simp only[];rw[zjx];constructor
 ·rintro ⟨j,h3,h4,h5⟩;exact⟨j,(h i j hi h3).1 h4,(h2 j k h3 hk2).1 h5⟩
 ·rintro ⟨j,h3,h4⟩;have h5:=hk i j hi h3;exact⟨j,h5,(h i j hi h5).2 h3,(h2 j k h5 hk2).2 h4⟩
theorem zek{n:Nat}{A B:Nat->Nat->Nat}{R:Nat->Nat->Prop}(h:qW n A R)(hB:qW n B (fun i k=>i=k))(hk:Kn n R):qW n (mrK n (fun i=>nY (nY (fun _=>0) (A i)) (B i)) n) (cj R):=by have h0:qW n (fun i=>nY (nY (fun _=>0) (A i)) (B i)) (Pk R 0):=(pO h hB).congr fun i k _ _=>⟨Or.symm,Or.symm⟩;exact(ziH n _ R h0 n (sH _)).congr fun i k hi _=>zuA hk hi
theorem zid{n:Nat}{R:Nat->Nat->Prop}(h:Kn n R):Kn n (cj R):=fun i j hi hs=>by
 induction hs with
 |refl=>exact hi
 |step h1 _ ih=>exact ih (h _ _ hi h1)
theorem zhk{n:Nat}{R S:Nat->Nat->Prop}(h:Kn n R)(h2:Kn n S):Kn n (Cmp R S):=fun i j hi ⟨m,h3,h4⟩=>h2 m j (h i m hi h3) h4
inductive aA where
 |mk (op:Int) (cls:List Int) (kids:List aA)
mutual
def aX(c:List Int):aA->Nat->Nat->Prop
 |.mk op cls kids=>fun i k=>
  if op=1 then k=i+1/\∃z,c[i]?=some z/\z∈cls
  else if op=2 then cC c kids i k
  else if op=3 then cr c kids i k
  else if op=4 then cj (cP c kids) i k
  else if op=5 then Cmp (cP c kids) (cj (cP c kids)) i k
  else if op=6 then i=k\/cP c kids i k
  else i=k
def cC(c:List Int):List aA->Nat->Nat->Prop
 |[]=>fun i k=>i=k
 |p::ps=>Cmp (aX c p) (cC c ps)
def cr(c:List Int):List aA->Nat->Nat->Prop
 |[]=>fun _ _=>False
 |p::ps=>fun i k=>aX c p i k\/cr c ps i k
def cP(c:List Int):List aA->Nat->Nat->Prop
 |[]=>fun _ _=>False
 |p::_=>aX c p
end
mutual
theorem zbT(c:List Int):∀p,Kn (c.length+1) (aX c p)
 |.mk op cls kids=>by
  intro i j hi h;unfold aX at h;split at h
  ·obtain⟨h1,z,h2,_⟩:=h;have:=(sG.1 h2).1;omega
  ·split at h
   ·exact ziN c kids i j hi h
   ·split at h
    ·exact ziR c kids i j hi h
    ·split at h
     ·exact zid (oL c kids) i j hi h
     ·split at h
      ·exact zhk (oL c kids) (zid (oL c kids)) i j hi h
      ·split at h
       ·rcases h with h|h
        ·omega
        ·exact oL c kids i j hi h
       ·omega
theorem ziN(c:List Int):∀ps,Kn (c.length+1) (cC c ps)
 |[]=>fun i j hi h=>by unfold cC at h;omega
 |p::ps=>fun i j hi h=>by unfold cC at h;exact zhk (zbT c p) (ziN c ps) i j hi h
theorem ziR(c:List Int):∀ps,Kn (c.length+1) (cr c ps)
 |[]=>fun i j hi h=>by unfold cr at h;exact h.elim
 |p::ps=>fun i j hi h=>by
  unfold cr at h;rcases h with h|h
  ·exact zbT c p i j hi h
  ·exact ziR c ps i j hi h
theorem oL(c:List Int):∀ps,Kn (c.length+1) (cP c ps)
 |[]=>fun i j hi h=>by unfold cP at h;exact h.elim
 |p::ps=>fun i j hi h=>by unfold cP at h;exact zbT c p i j hi h
end
theorem zvi(R:Nat->Nat->Prop):Cmp (fun i k=>i=k) R=R:=by funext i k;exact propext ⟨fun⟨j,h1,h2⟩=>h1 ▸ h2,fun h=>⟨i,rfl,h⟩⟩
theorem zlg(R S T:Nat->Nat->Prop):Cmp (Cmp R S) T=Cmp R (Cmp S T):=by funext i k;exact propext ⟨fun⟨j,⟨m,h1,h2⟩,h3⟩=>⟨m,h1,j,h2,h3⟩,fun⟨m,h1,j,h2,h3⟩=>⟨j,⟨m,h1,h2⟩,h3⟩⟩
theorem zjr(R:Nat->Nat->Prop):Cmp R (fun i k=>i=k)=R:=by funext i k;exact propext ⟨fun⟨j,h1,h2⟩=>h2 ▸ h1,fun h=>⟨k,h,rfl⟩⟩
theorem cd(c:List Int):cC c []=fun i k=>i=k:=by rw[cC]
theorem bV(c:List Int)(p:aA)(ps:List aA):cC c (p::ps)=Cmp (aX c p) (cC c ps):=by rw[cC]
theorem lH(c:List Int):∀(a b:List aA),cC c (a++b)=Cmp (cC c a) (cC c b)
 |[],b=>by simp only[List.nil_append];rw[cd,zvi]
 |p::a,b=>by rw[sM,bV,lH c a b,<-zlg,bV]
theorem zkN(c:List Int)(ks:List aA)(j:Nat)(h:j<ks.length):cC c (ks.take (j+1))=Cmp (cC c (ks.take j)) (aX c ks[j]):=by rw[sD h,lH];congr 1;rw[bV,cd,zjr]
theorem zkO(c:List Int)(ks:List aA)(j:Nat)(h:j<ks.length)(i k:Nat):cr c (ks.take (j+1)) i k ↔ (cr c (ks.take j) i k\/aX c ks[j] i k):=by
 rw[sD h];generalize ks.take j=a
 induction a with
 |nil=>simp[cr]
 |cons p a ih=>simp only[sM,cr,ih,or_assoc]
theorem dI{R:Nat->Nat->Prop}(h:∀i k,R i k->i<=k){i k:Nat}(hs:cj R i k):i<=k:=by
 induction hs with
 |refl=>exact sH _
 |step h1 _ ih=>exact sL (h _ _ h1) ih
mutual
theorem kC(c:List Int):∀p i k,aX c p i k->i<=k
 |.mk op cls kids,i,k,h=>by
  have H:=gO c kids;unfold aX at h;split at h
  ·omega
  ·split at h
   ·exact lG c kids i k h
   ·split at h
    ·exact ziQ c kids i k h
    ·split at h
     ·exact dI H h
     ·split at h
      ·obtain⟨j,h1,h2⟩:=h;exact sL (H _ _ h1) (dI H h2)
      ·split at h
       ·rcases h with h|h
        ·omega
        ·exact H _ _ h
       ·omega
theorem lG(c:List Int):∀ps i k,cC c ps i k->i<=k
 |[],i,k,h=>by rw[cd]at h;omega
 |p::ps,i,k,h=>by rw[bV]at h;obtain⟨j,h1,h2⟩:=h;exact sL (kC c p _ _ h1) (lG c ps _ _ h2)
theorem ziQ(c:List Int):∀ps i k,cr c ps i k->i<=k
 |[],i,k,h=>by unfold cr at h;exact h.elim
 |p::ps,i,k,h=>by
  unfold cr at h;rcases h with h|h
  ·exact kC c p _ _ h
  ·exact ziQ c ps _ _ h
theorem gO(c:List Int):∀ps i k,cP c ps i k->i<=k
 |[],i,k,h=>by unfold cP at h;exact h.elim
 |p::ps,i,k,h=>by unfold cP at h;exact kC c p _ _ h
end
theorem zdJ{R S:Nat->Nat->Prop}{f:Nat->Nat}(h:∀i k,R i k->S (f i) (f k)){i k:Nat}(hs:cj R i k):cj S (f i) (f k):=by
 induction hs with
 |refl=>exact .refl _
 |step h1 _ ih=>exact .step (h _ _ h1) ih
structure Wn(c d:List Int)(a:Nat):Prop where
 at_:∀i z,c[i]?=some z->d[a+i]?=some z
mutual
theorem qe{c d:List Int}{a:Nat}(W:Wn c d a):∀p i k,aX c p i k->aX d p (a+i) (a+k)
 |.mk op cls kids,i,k,h=>by
  have H:=zqZ W kids;unfold aX at h⊢;split at h
  ·rename_i e;rw[if_pos e];obtain⟨h1,z,h2,h3⟩:=h;exact⟨by omega,z,W.at_ i z h2,h3⟩
  ·rename_i e;rw[if_neg e];split at h
   ·rename_i e;rw[if_pos e];exact ziM W kids i k h
   ·rename_i e;rw[if_neg e];split at h
    ·rename_i e;rw[if_pos e];exact ziP W kids i k h
    ·rename_i e;rw[if_neg e];split at h
     ·rename_i e;rw[if_pos e];exact zdJ H h
     ·rename_i e;rw[if_neg e];split at h
      ·rename_i e;rw[if_pos e];obtain⟨j,h1,h2⟩:=h;exact⟨a+j,H _ _ h1,zdJ H h2⟩
      ·rename_i e;rw[if_neg e];split at h
       ·rename_i e;rw[if_pos e];rcases h with h|h
        ·exact .inl (by omega)
        ·exact .inr (H _ _ h)
       ·rename_i e;rw[if_neg e];omega
theorem ziM{c d:List Int}{a:Nat}(W:Wn c d a):∀ps i k,cC c ps i k->cC d ps (a+i) (a+k)
 |[],i,k,h=>by rw[cd]at h⊢;omega
 |p::ps,i,k,h=>by rw[bV]at h⊢;obtain⟨j,h1,h2⟩:=h;exact⟨a+j,qe W p _ _ h1,ziM W ps _ _ h2⟩
theorem ziP{c d:List Int}{a:Nat}(W:Wn c d a):∀ps i k,cr c ps i k->cr d ps (a+i) (a+k)
 |[],i,k,h=>by unfold cr at h;exact h.elim
 |p::ps,i,k,h=>by
  unfold cr at h⊢;rcases h with h|h
  ·exact .inl (qe W p _ _ h)
  ·exact .inr (ziP W ps _ _ h)
theorem zqZ{c d:List Int}{a:Nat}(W:Wn c d a):∀ps i k,cP c ps i k->cP d ps (a+i) (a+k)
 |[],i,k,h=>by unfold cP at h;exact h.elim
 |p::ps,i,k,h=>by unfold cP at h⊢;exact qe W p _ _ h
end
theorem sy{R S : Nat → Nat → Prop}{a m : Nat}(hS : ∀ i k, S i k → i ≤ k)(h : ∀ i k, a + k ≤ m → S (a + i) (a + k) → R i k){x y : Nat}(hs : cj S x y) : ∀ i k, x = a + i → y = a + k → y ≤ m → cj R i k := by
  induction hs with
  | refl x => intro i k h1 h2 _; have : i = k := by omega
              exact this ▸ .refl _
  | @step x j y h1 h2 ih =>
    intro i k e1 e2 h3
    have h4 := hS _ _ h1
    have h5 := dI hS h2
    obtain ⟨j', rfl⟩ : ∃ j', j = a + j' := ⟨j - a, by omega⟩
    subst e1
    exact .step (h i j' (by omega) h1) (ih j' k rfl e2 h3)
mutual
theorem qf{c d:List Int}{a:Nat}(W:∀i,i<c.length->c[i]?=d[a+i]?):∀p i k,k<=c.length->aX d p (a+i) (a+k)->aX c p i k
 |.mk op cls kids,i,k,hk,h=>by
  have H:=zra W kids;have HL:=gO d kids;unfold aX at h⊢;split at h
  ·rename_i e;rw[if_pos e];obtain⟨h1,z,h2,h3⟩:=h;exact⟨by omega,z,(W i (by omega)).trans h2,h3⟩
  ·rename_i e;rw[if_neg e];split at h
   ·rename_i e;rw[if_pos e];exact ziO W kids i k hk h
   ·rename_i e;rw[if_neg e];split at h
    ·rename_i e;rw[if_pos e];exact ziS W kids i k hk h
    ·rename_i e;rw[if_neg e];split at h
     ·rename_i e;rw[if_pos e];exact sy (m:=a+c.length) HL (fun i k h1 h2=>H i k (by omega) h2) h i k rfl rfl (by omega)
     ·rename_i e;rw[if_neg e];split at h
      ·rename_i e;rw[if_pos e];obtain⟨j,h1,h2⟩:=h;have h4:=HL _ _ h1;have h5:=dI HL h2;obtain⟨j',rfl⟩:∃j',j=a+j':=⟨j-a,by omega⟩;exact⟨j',H i j' (by omega) h1,sy (m:=a+c.length) HL (fun i k h1 h2=>H i k (by omega) h2) h2 j' k rfl rfl (by omega)⟩
      ·rename_i e;rw[if_neg e];split at h
       ·rename_i e;rw[if_pos e];rcases h with h|h
        ·exact .inl (by omega)
        ·exact .inr (H _ _ hk h)
       ·rename_i e;rw[if_neg e];omega
theorem ziO{c d:List Int}{a:Nat}(W:∀i,i<c.length->c[i]?=d[a+i]?):∀ps i k,k<=c.length->cC d ps (a+i) (a+k)->cC c ps i k
 |[],i,k,hk,h=>by rw[cd]at h⊢;omega
 |p::ps,i,k,hk,h=>by rw[bV]at h⊢;obtain⟨j,h1,h2⟩:=h;have h4:=kC d p _ _ h1;have h5:=lG d ps _ _ h2;obtain⟨j',rfl⟩:∃j',j=a+j':=⟨j-a,by omega⟩;exact⟨j',qf W p _ _ (by omega) h1,ziO W ps _ _ hk h2⟩
theorem ziS{c d:List Int}{a:Nat}(W:∀i,i<c.length->c[i]?=d[a+i]?):∀ps i k,k<=c.length->cr d ps (a+i) (a+k)->cr c ps i k
 |[],i,k,hk,h=>by unfold cr at h;exact h.elim
 |p::ps,i,k,hk,h=>by
  unfold cr at h⊢;rcases h with h|h
  ·exact .inl (qf W p _ _ hk h)
  ·exact .inr (ziS W ps _ _ hk h)
theorem zra{c d:List Int}{a:Nat}(W:∀i,i<c.length->c[i]?=d[a+i]?):∀ps i k,k<=c.length->cP d ps (a+i) (a+k)->cP c ps i k
 |[],i,k,hk,h=>by unfold cP at h;exact h.elim
 |p::ps,i,k,hk,h=>by unfold cP at h⊢;exact qf W p _ _ hk h
end
theorem znQ(c:List Int)(p:aA)(m i k:Nat)(hm:m<=c.length)(hk:k<=m):aX (c.take m) p i k ↔ aX c p i k:=by
 have hl:(c.take m).length=m:=by rw[List.length_take];omega
 constructor
 ·intro h;have:=qe (c:=c.take m) (d:=c) (a:=0) ⟨fun i z hz=>by have h1:=(sG.1 hz).1;rw[sO];rw[sI (by omega)]at hz;exact hz⟩ p i k h;simpa using this
 ·intro h;refine qf (c:=c.take m) (d:=c) (a:=0) (fun i hi=>?_) p i k (by omega) (by simpa using h);rw[sO,sI (by omega)]
theorem znR(c:List Int)(p:aA)(m i k:Nat)(hm:m<=c.length)(hk:m+k<=c.length):aX (c.drop m) p i k ↔ aX c p (m+i) (m+k):=by
 constructor
 ·intro h;exact qe (c:=c.drop m) (d:=c) (a:=m) ⟨fun i z hz=>by rw[sK]at hz;exact hz⟩ p i k h
 ·intro h;exact qf (c:=c.drop m) (d:=c) (a:=m) (fun i hi=>by rw[sK]) p i k (by rw[List.length_drop];omega) h
end Pt
end
namespace Br
inductive jH:Nat->Nat->List (Nat×Nat)->Prop where
 |nil (p:Nat):jH p p []
 |cons {p t e:Nat} {P:List (Nat×Nat)}:p<t->jH t e P->jH p e ((p,t)::P)
def kf(p:Nat)(P:List (Nat×Nat)):List Nat:=p::P.map (·.2)
def abv(z:Int)(e:Nat):List Nat->Nat
 |[]=>e
 |x::D=>if z<(x:Int)then x else abv z e D
def q7(z:Int):Nat->List Nat->Nat
 |b,[]=>b
 |b,x::D=>if (x:Int)<z then q7 z x D else q7 z b D
def arn(z:Int):List Nat->Nat×Nat
 |x::y::D=>if (x:Int)<=z/\z<(y:Int)then (x,y)else arn z (y::D)
 |_=>(0,0)
theorem bW(p t:Nat)(P:List (Nat×Nat)):kf p ((p,t)::P)=p::kf t P:=rfl
theorem jH.le{p e:Nat}{P:List (Nat×Nat)}(h:jH p e P):p<=e:=by
 induction h with
 |nil=>exact sH _
 |cons h1 _ ih=>omega
theorem jH.mem{p e:Nat}{P:List (Nat×Nat)}(h:jH p e P){f t:Nat}(hm:(f,t)∈P):p<=f/\f<t/\t<=e:=by
 induction h with
 |nil=>cases hm
 |cons h1 h2 ih=>
  have:=h2.le;cases hm with
  |head=>exact⟨sH _,h1,this⟩
  |tail _ hm=>have:=ih hm;omega
theorem jH.abv_in{p e:Nat}{P:List (Nat×Nat)}(h:jH p e P){f t:Nat}{z:Int}(hm:(f,t)∈P)(h1:(f:Int)<=z)(h2:z<t)(d:Nat):abv z d (kf p P)=t:=by
 induction h with
 |nil=>cases hm
 | @cons p q e P k1 k2 ih=>
  rw[bW,abv];cases hm with
  |head=>rw[if_neg (by omega)];unfold kf abv;rw[if_pos h2]
  |tail _ hm=>have:=k2.mem hm;rw[if_neg (by omega)];exact ih hm
theorem zrU{p:Nat}{P:List (Nat×Nat)}{z:Int}(h1:z<p)(d:Nat):abv z d (kf p P)=p:=by unfold kf abv;rw[if_pos h1]
theorem jH.abv_high{p e:Nat}{P:List (Nat×Nat)}(h:jH p e P){z:Int}(h1:(e:Int)<=z)(d:Nat):abv z d (kf p P)=d:=by
 induction h with
 |nil=>unfold kf abv;rw[if_neg (by omega)];rfl
 |cons k1 k2 ih=>have:=k2.le;rw[bW,abv,if_neg (by omega)];exact ih h1
theorem jH.blw_in{p e:Nat}{P:List (Nat×Nat)}(h:jH p e P){f t:Nat}{z:Int}(hm:(f,t)∈P)(h1:(f:Int)<z)(h2:z<=t)(b:Nat):q7 z b (kf p P)=f:=by
 have low:∀{p e:Nat} {P:List (Nat×Nat)} (h:jH p e P) (b:Nat),z<=p->q7 z b (kf p P)=b:=by
  intro p e P h
  induction h with
  |nil=>intro b hz;unfold kf q7;rw[if_neg (by omega)];rfl
  |cons k1 k2 ih=>intro b hz;rw[bW,q7,if_neg (by omega)];exact ih b (by omega)
 induction h generalizing b with
 |nil=>cases hm
 | @cons p q e P k1 k2 ih=>
  rw[bW,q7];cases hm with
  |head=>rw[if_pos (by omega)];exact low k2 _ h2
  |tail _ hm=>have:=k2.mem hm;rw[if_pos (by omega)];exact ih hm p
theorem jH.blw_low{p e:Nat}{P:List (Nat×Nat)}(h:jH p e P){z:Int}(hz:z<=p)(b:Nat):q7 z b (kf p P)=b:=by
 induction h with
 |nil=>unfold kf q7;rw[if_neg (by omega)];rfl
 |cons k1 k2 ih=>rw[bW,q7,if_neg (by omega)];exact ih (by omega)
theorem jH.blw_high{p e:Nat}{P:List (Nat×Nat)}(h:jH p e P){z:Int}(hz:(e:Int)<z)(b:Nat):q7 z b (kf p P)=e:=by
 induction h generalizing b with
 |nil=>unfold kf q7;rw[if_pos (by omega)];rfl
 |cons k1 k2 ih=>have:=k2.le;rw[bW,q7,if_pos (by omega)];exact ih hz _
theorem jH.arn_in{p e:Nat}{P:List (Nat×Nat)}(h:jH p e P){f t:Nat}{z:Int}(hm:(f,t)∈P)(h1:(f:Int)<=z)(h2:z<t):arn z (kf p P)=(f,t):=by
 induction h with
 |nil=>cases hm
 | @cons p q e P k1 k2 ih=>
  rw[bW];unfold kf arn;cases hm with
  |head=>rw[if_pos ⟨h1,h2⟩]
  |tail _ hm=>have:=k2.mem hm;rw[if_neg (by omega)];exact ih hm
theorem jH.arn_out{p e:Nat}{P:List (Nat×Nat)}(h:jH p e P){z:Int}(hz:z<p\/(e:Int)<=z):arn z (kf p P)=(0,0):=by
 induction h with
 |nil=>rfl
 |cons k1 k2 ih=>have:=k2.le;rw[bW];unfold kf arn;rw[if_neg (by omega)];exact ih (by omega)
theorem jH.is_in{p e:Nat}{P:List (Nat×Nat)}(h:jH p e P){f t:Nat}{z:Int}(hm:(f,t)∈P)(h1:(f:Int)<=z)(h2:z<t):(kf p P).any (fun x=>(x:Int)==z)=decide ((f:Int)=z):=by
 have low:∀{p e:Nat} {P:List (Nat×Nat)} (h:jH p e P),z<p->(kf p P).any (fun x=>(x:Int)==z)=false:=by
  intro p e P h
  induction h with
  |nil=>intro hz;simp[kf];omega
  |cons k1 k2 ih=>intro hz;rw[bW,sJ,ih (by omega)];simp;omega
 induction h with
 |nil=>cases hm
 | @cons p q e P k1 k2 ih=>
  rw[bW,sJ];cases hm with
  |head=>rw[low k2 h2];simp;rfl
  |tail _ hm=>have:=k2.mem hm;rw[ih hm,show((p:Int)==z)=false by simp;omega,sN]
theorem jH.is_out{p e:Nat}{P:List (Nat×Nat)}(h:jH p e P){z:Int}(hz:z<p\/(e:Int)<=z):(kf p P).any (fun x=>(x:Int)==z)=decide ((e:Int)=z):=by
 induction h with
 |nil=>simp[kf];rfl
 | @cons p q e P k1 k2 ih=>have:=k2.le;rw[bW,sJ,ih (by omega),show((p:Int)==z)=false by simp;omega,sN]
end Br
end Go.Proofs.YtbbapnpdfcgjnaaGreatDoor
