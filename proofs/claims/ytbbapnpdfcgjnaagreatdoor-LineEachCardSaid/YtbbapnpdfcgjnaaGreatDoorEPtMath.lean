/- PtMath, ChMath: parts of the proof, joined. -/
import Derived.Test.YtbbapnpdfcgjnaaGreatDoorProg
open List renaming take_succ_eq_append_getElem->sR, getElem?_eq_some_iff->sT, getElem?_take_of_lt->sU, getElem?_drop->sV, cons_append->sX
open Bool renaming or_eq_true->sS
open Nat renaming le_trans->sW, le_refl->sY, zero_add->sZ
set_option maxHeartbeats 64000000
namespace Go.Proofs.YtbbapnpdfcgjnaaGreatDoor
section
namespace Pt
inductive cr(R:Nat->Nat->Prop):Nat->Nat->Prop where
 |refl (i:Nat):cr R i i
 |step {i j k:Nat}:R i j->cr R j k->cr R i k
theorem cr.trans{R:Nat->Nat->Prop}{i j k:Nat}(h:cr R i j)(h2:cr R j k):cr R i k:=by
 induction h with
 |refl=>exact h2
 |step a _ ih=>exact .step a (ih h2)
def Pk(a:Nat->Nat->Prop):Nat->Nat->Nat->Prop
 |0=>fun i j=>i=j\/a i j
 |K+1=>fun i j=>Pk a K i j\/(Pk a K i K/\Pk a K K j)
theorem nS{a:Nat->Nat->Prop}:∀(K i j:Nat),Pk a K i j->cr a i j
 |0,i,j,h=>by
  rcases h with h|h
  ·exact h ▸ .refl i
  ·exact .step h (.refl _)
 |K+1,i,j,h=>by
  rcases h with h|⟨h,h2⟩
  ·exact nS K i j h
  ·exact(nS K i K h).trans (nS K K j h2)
theorem zlS{a:Nat->Nat->Prop}{i j:Nat}:∀(K:Nat),Pk a 0 i j->Pk a K i j
 |0,h=>h
 |K+1,h=>.inl (zlS K h)
inductive Pth(a:Nat->Nat->Prop):Nat->List Nat->Nat->Prop where
 |one {i j:Nat}:a i j->Pth a i [] j
 |more {i m j:Nat} {l:List Nat}:a i m->Pth a m l j->Pth a i (m::l) j
theorem l8{a:Nat->Nat->Prop}{m:Nat}:∀(l1:List Nat) {i j:Nat} {l2:List Nat},Pth a i (l1++m::l2) j->Pth a i l1 m/\Pth a m l2 j
 |[],i,j,l2,h=>by
  cases h with
  |more h1 h2=>exact⟨.one h1,h2⟩
 |x::l1,i,j,l2,h=>by
  cases h with
  |more h1 h2=>
   obtain⟨k1,k2⟩:=l8 l1 h2;exact⟨.more h1 k1,k2⟩
theorem ic(K:Nat):∀(l:List Nat),K∈l->∃l1 l2,l=l1++K::l2/\K ∉ l1
 |[],h=>by cases h
 |x::l,h=>by
  by_cases e:x=K
  ·exact⟨[],l,by rw[e];rfl,by simp⟩
  ·have h2:K∈l:=by
    cases h with
    |head=>exact absurd rfl e
    |tail _ h=>exact h
   obtain⟨l1,l2,h3,h4⟩:=ic K l h2;exact⟨x::l1,l2,by rw[h3];rfl,fun h5=>by
    cases h5 with
    |head=>exact e rfl
    |tail _ h=>exact h4 h⟩
theorem o7{a:Nat->Nat->Prop}:∀(K:Nat)(i:Nat)(l:List Nat)(j:Nat),(∀x∈l,x<K)->Pth a i l j->Pk a K i j
 |0,i,l,j,hl,h=>by
  cases h with
  |one h=>exact .inr h
  |more h1 h2=>exact absurd (hl _ (List.mem_cons_self ..)) (by omega)
 |K+1,i,l,j,hl,h=>by
  have small:∀(l:List Nat),(∀x∈l,x<K+1)->K ∉ l->∀x∈l,x<K:=fun l hl hK x hx=>by
   have:=hl x hx;have:x≠K:=fun e=>hK (e ▸ hx)
   omega
  have behind:∀(n:Nat)(l:List Nat),l.length<=n->(∀x∈l,x<K+1)->Pth a K l j->Pk a K K j:=by
   intro n
   induction n with
   |zero=>
    intro l hn hl h;have:l=[]:=List.length_eq_zero_iff.1 (by omega)
    subst this;exact o7 K K [] j (fun x hx=>by cases hx) h
   |succ n ih=>
    intro l hn hl h
    by_cases hK:K∈l
    ·obtain⟨l1,l2,rfl,h4⟩:=ic K l hK
     simp only[List.length_append,List.length_cons]at hn
     exact ih l2 (by omega) (fun x hx=>hl x (by simp[hx])) (l8 l1 h).2
    ·exact o7 K K l j (small l hl hK) h
  by_cases hK:K∈l
  ·obtain⟨l1,l2,rfl,h4⟩:=ic K l hK
   obtain⟨h5,h6⟩:=l8 l1 h;exact .inr ⟨o7 K i l1 K (small l1 (fun x hx=>hl x (by simp[hx])) h4) h5,behind _ l2 (sY _) (fun x hx=>hl x (by simp[hx])) h6⟩
  ·exact .inl (o7 K i l j (small l hl hK) h)
theorem zlj{a:Nat->Nat->Prop}{n:Nat}(hb:∀i j,i<n->a i j->j<n){i j:Nat}(h:cr a i j):i<n->i=j\/∃l,(∀x∈l,x<n)/\Pth a i l j:=by
 induction h with
 |refl i=>exact fun _=>.inl rfl
 |step h1 h2 ih=>
  intro hi;have hj:=hb _ _ hi h1
  rcases ih hj with e|⟨l,hl,hp⟩
  ·exact .inr ⟨[],(fun x hx=>by cases hx),.one (e ▸ h1)⟩
  ·refine .inr ⟨_::l,fun x hx=>?_,.more h1 hp⟩
   cases hx with
   |head=>exact hj
   |tail _ h=>exact hl x h
theorem zsU{a:Nat->Nat->Prop}{n:Nat}(hb:∀i j,i<n->a i j->j<n){i j:Nat}(hi:i<n):Pk a n i j ↔ cr a i j:=
 ⟨nS n i j,fun h=>by
  rcases zlj hb h hi with e|⟨l,hl,hp⟩
  ·exact zlS n (.inl e)
  ·exact o7 n i l j hl hp⟩
def bt(r:Nat->Nat)(k:Nat):Bool:=(r (k / 64)).testBit (k%64)
def qq(n:Nat)(W:Nat->Nat->Nat)(R:Nat->Nat->Prop):Prop:=∀i k,i<n->k<n->(bt (W i) k=true ↔ R i k)
def nD(r o:Nat->Nat):Nat->Nat:=fun j=>r j|||o j
theorem ss(r o:Nat->Nat)(k:Nat):bt (nD r o) k=(bt r k||bt o k):=by simp[bt,nD]
def stR(r:Nat->Nat)(k:Nat):Nat->Nat:=fun j=>if j=k / 64 then r j|||2 ^ (k%64)else r j
theorem zsy(r:Nat->Nat)(k x:Nat):bt (stR r k) x=(bt r x||decide (x=k)):=by
 unfold bt stR
 by_cases h:x / 64=k / 64
 ·rw[if_pos h]
  rw[Nat.testBit_or,Nat.testBit_two_pow]
  congr 1
  by_cases e:x=k
  ·subst e;simp
  ·have:¬k%64=x%64:=by omega
   simp[e,this]
 ·rw[if_neg h]
  have:¬x=k:=fun e=>h (by rw[e])
  simp[this]
def bhR(n:Nat)(a:Nat->Nat)(B:Nat->Nat->Nat):Nat->Nat->Nat
 |0=>fun _=>0
 |k+1=>if bt a k=true then nD (bhR n a B k) (B k)else bhR n a B k
theorem ziI(n:Nat)(a:Nat->Nat)(B:Nat->Nat->Nat)(x:Nat):∀k,bt (bhR n a B k) x=true ↔ ∃j,j<k/\bt a j=true/\bt (B j) x=true
 |0=>by simp[bhR,bt]
 |k+1=>by
  unfold bhR
  constructor
  ·intro h
   split at h
   ·rename_i hk
    rw[ss,sS]at h
    rcases h with h|h
    ·obtain⟨j,h1,h2⟩:=(ziI n a B x k).1 h
     exact⟨j,by omega,h2⟩
    ·exact⟨k,by omega,hk,h⟩
   ·obtain⟨j,h1,h2⟩:=(ziI n a B x k).1 h
    exact⟨j,by omega,h2⟩
  ·rintro ⟨j,h1,h2,h3⟩
   by_cases e:j=k
   ·subst e
    rw[if_pos h2,ss,h3,Bool.or_true]
   ·have h4:=(ziI n a B x k).2 ⟨j,by omega,h2,h3⟩
    split
    ·rw[ss,h4,Bool.true_or]
    ·exact h4
def qu(W:Nat->Nat->Nat)(k:Nat):Nat->Nat->Nat->Nat
 |0=>W
 |i+1=>fun x=>if x=i/\bt (qu W k i i) k=true then nD (qu W k i i) (qu W k i k)else qu W k i x
def mrK(n:Nat)(W:Nat->Nat->Nat):Nat->Nat->Nat->Nat
 |0=>W
 |k+1=>qu (mrK n W k) k n
theorem zfQ(W:Nat->Nat->Nat)(k y:Nat)(hk:bt (W k) k=true):∀i x,bt (qu W k i x) y=if x<i then (bt (W x) y||(bt (W x) k&&bt (W k) y))else bt (W x) y
 |0,x=>by simp[qu]
 |i+1,x=>by
  have ih:=zfQ W k y hk i;have ihk:=zfQ W k k hk i;have hrow:bt (qu W k i k) y=bt (W k) y:=by
   rw[ih k];split
   ·cases bt (W k) y<;>simp[hk]
   ·rfl
  have hcol:bt (qu W k i i) k=bt (W i) k:=by rw[ihk i];simp
  have hself:bt (qu W k i i) y=bt (W i) y:=by rw[ih i];simp
  unfold qu
  by_cases e:x=i
  ·subst e
   rw[if_pos (Nat.lt_succ_self x)]
   by_cases hb:bt (W x) k=true
   ·rw[if_pos ⟨rfl,by rw[hcol];exact hb⟩,ss,hrow,hself,hb,Bool.true_and]
   ·rw[if_neg (fun h=>hb (by rw[<- hcol];exact h.2)),hself]
    simp[hb]
  ·rw[if_neg (fun h=>e h.1),ih x]
   by_cases h:x<i
   ·rw[if_pos h,if_pos (by omega)]
   ·rw[if_neg h,if_neg (by omega)]
theorem zhO(n:Nat)(W:Nat->Nat->Nat)(a:Nat->Nat->Prop)(h:qq n W (Pk a 0)):∀k,k<=n->qq n (mrK n W k) (Pk a k)
 |0,_=>h
 |k+1,hk=>by
  have ih:=zhO n W a h k (by omega)
  have hkk:bt (mrK n W k k) k=true:=(ih k k (by omega) (by omega)).2 (zlS k (.inl rfl))
  intro i j hi hj
  show bt (qu (mrK n W k) k n i) j=true ↔ _
  rw[zfQ _ _ _ hkk,if_pos hi,sS,Bool.and_eq_true,ih i j hi hj,ih i k hi (by omega),ih k j (by omega) hj]
  rfl
theorem qq.congr{n:Nat}{W:Nat->Nat->Nat}{R S:Nat->Nat->Prop}(h:qq n W R)(e:∀i k,i<n->k<n->(R i k ↔ S i k)):qq n W S:=fun i k hi hk=>(h i k hi hk).trans (e i k hi hk)
theorem zlL(n:Nat):qq n (fun _ _=>0) (fun _ _=>False):=fun i k _ _=>by simp[bt]
theorem kL(n:Nat):qq n (fun i=>stR (fun _=>0) i) (fun i k=>i=k):=fun i k _ _=>by
 simp only[]
 rw[zsy]
 simp[bt,eq_comm]
theorem oV{n:Nat}{A B:Nat->Nat->Nat}{R S:Nat->Nat->Prop}(h:qq n A R)(h2:qq n B S):qq n (fun i=>nD (nD (fun _=>0) (A i)) (B i)) (fun i k=>R i k\/S i k):=fun i k hi hk=>by
 simp only[]
 rw[ss,ss,sS,sS,h i k hi hk,h2 i k hi hk]
 simp[bt]
def Cmp(R S:Nat->Nat->Prop)(i k:Nat):Prop:=∃j,R i j/\S j k
def Kn(n:Nat)(R:Nat->Nat->Prop):Prop:=∀i j,i<n->R i j->j<n
theorem oW{n:Nat}{A B:Nat->Nat->Nat}{R S:Nat->Nat->Prop}(h:qq n A R)(h2:qq n B S)(hk:Kn n R):qq n (fun i=>bhR n (A i) B n) (Cmp R S):=fun i k hi hk2=>by
 simp only[]
 rw[ziI]
 constructor
 ·rintro ⟨j,h3,h4,h5⟩
  exact⟨j,(h i j hi h3).1 h4,(h2 j k h3 hk2).1 h5⟩
 ·rintro ⟨j,h3,h4⟩
  have h5:=hk i j hi h3;exact⟨j,h5,(h i j hi h5).2 h3,(h2 j k h5 hk2).2 h4⟩
theorem zcz{n:Nat}{A B:Nat->Nat->Nat}{R:Nat->Nat->Prop}(h:qq n A R)(hB:qq n B (fun i k=>i=k))(hk:Kn n R):qq n (mrK n (fun i=>nD (nD (fun _=>0) (A i)) (B i)) n) (cr R):=by
 have h0:qq n (fun i=>nD (nD (fun _=>0) (A i)) (B i)) (Pk R 0):=(oV h hB).congr fun i k _ _=>⟨Or.symm,Or.symm⟩
 exact(zhO n _ R h0 n (sY _)).congr fun i k hi _=>zsU hk hi
theorem zhl{n:Nat}{R:Nat->Nat->Prop}(h:Kn n R):Kn n (cr R):=fun i j hi hs=>by
 induction hs with
 |refl=>exact hi
 |step h1 _ ih=>exact ih (h _ _ hi h1)
theorem zgE{n:Nat}{R S:Nat->Nat->Prop}(h:Kn n R)(h2:Kn n S):Kn n (Cmp R S):=fun i j hi ⟨m,h3,h4⟩=>h2 m j (h i m hi h3) h4
inductive az where
 |mk (op:Int) (cls:List Int) (kids:List az)
mutual
def aQ(c:List Int):az->Nat->Nat->Prop
 | .mk op cls kids=>fun i k=>
  if op=1 then k=i+1/\∃z,c[i]?=some z/\z∈cls
  else if op=2 then cF c kids i k
  else if op=3 then bU c kids i k
  else if op=4 then cr (cM c kids) i k
  else if op=5 then Cmp (cM c kids) (cr (cM c kids)) i k
  else if op=6 then i=k\/cM c kids i k
  else i=k
def cF(c:List Int):List az->Nat->Nat->Prop
 |[]=>fun i k=>i=k
 |p::ps=>Cmp (aQ c p) (cF c ps)
def bU(c:List Int):List az->Nat->Nat->Prop
 |[]=>fun _ _=>False
 |p::ps=>fun i k=>aQ c p i k\/bU c ps i k
def cM(c:List Int):List az->Nat->Nat->Prop
 |[]=>fun _ _=>False
 |p::_=>aQ c p
end
mutual
theorem zaO(c:List Int):∀p,Kn (c.length+1) (aQ c p)
 | .mk op cls kids=>by
  intro i j hi h;unfold aQ at h
  split at h
  ·obtain⟨h1,z,h2,_⟩:=h
   have:=(sT.1 h2).1;omega
  ·split at h
   ·exact zhW c kids i j hi h
   ·split at h
    ·exact zia c kids i j hi h
    ·split at h
     ·exact zhl (og c kids) i j hi h
     ·split at h
      ·exact zgE (og c kids) (zhl (og c kids)) i j hi h
      ·split at h
       ·rcases h with h|h
        ·omega
        ·exact og c kids i j hi h
       ·omega
theorem zhW(c:List Int):∀ps,Kn (c.length+1) (cF c ps)
 |[]=>fun i j hi h=>by unfold cF at h;omega
 |p::ps=>fun i j hi h=>by unfold cF at h;exact zgE (zaO c p) (zhW c ps) i j hi h
theorem zia(c:List Int):∀ps,Kn (c.length+1) (bU c ps)
 |[]=>fun i j hi h=>by unfold bU at h;exact h.elim
 |p::ps=>fun i j hi h=>by
  unfold bU at h
  rcases h with h|h
  ·exact zaO c p i j hi h
  ·exact zia c ps i j hi h
theorem og(c:List Int):∀ps,Kn (c.length+1) (cM c ps)
 |[]=>fun i j hi h=>by unfold cM at h;exact h.elim
 |p::ps=>fun i j hi h=>by unfold cM at h;exact zaO c p i j hi h
end
theorem zvV(R:Nat->Nat->Prop):Cmp (fun i k=>i=k) R=R:=by
 funext i k
 exact propext ⟨fun⟨j,h1,h2⟩=>h1 ▸ h2,fun h=>⟨i,rfl,h⟩⟩
theorem zkx(R S T:Nat->Nat->Prop):Cmp (Cmp R S) T=Cmp R (Cmp S T):=by
 funext i k
 exact propext ⟨fun⟨j,⟨m,h1,h2⟩,h3⟩=>⟨m,h1,j,h2,h3⟩,fun⟨m,h1,j,h2,h3⟩=>⟨j,⟨m,h1,h2⟩,h3⟩⟩
theorem ziC(R:Nat->Nat->Prop):Cmp R (fun i k=>i=k)=R:=by
 funext i k
 exact propext ⟨fun⟨j,h1,h2⟩=>h2 ▸ h1,fun h=>⟨k,h,rfl⟩⟩
theorem ci(c:List Int):cF c []=fun i k=>i=k:=by rw[cF]
theorem bY(c:List Int)(p:az)(ps:List az):cF c (p::ps)=Cmp (aQ c p) (cF c ps):=by rw[cF]
theorem lk(c:List Int):∀(a b:List az),cF c (a++b)=Cmp (cF c a) (cF c b)
 |[],b=>by simp only[List.nil_append];rw[ci,zvV]
 |p::a,b=>by
  rw[sX,bY,lk c a b,<- zkx,bY]
theorem zkg(c:List Int)(ks:List az)(j:Nat)(h:j<ks.length):cF c (ks.take (j+1))=Cmp (cF c (ks.take j)) (aQ c ks[j]):=by
 rw[sR h,lk]
 congr 1
 rw[bY,ci,ziC]
theorem zkh(c:List Int)(ks:List az)(j:Nat)(h:j<ks.length)(i k:Nat):bU c (ks.take (j+1)) i k ↔ (bU c (ks.take j) i k\/aQ c ks[j] i k):=by
 rw[sR h]
 generalize ks.take j=a
 induction a with
 |nil=>simp[bU]
 |cons p a ih=>simp only[sX,bU,ih,or_assoc]
theorem dD{R:Nat->Nat->Prop}(h:∀i k,R i k->i<=k){i k:Nat}(hs:cr R i k):i<=k:=by
 induction hs with
 |refl=>exact sY _
 |step h1 _ ih=>exact sW (h _ _ h1) ih
mutual
theorem kh(c:List Int):∀p i k,aQ c p i k->i<=k
 | .mk op cls kids,i,k,h=>by
  have H:=gK c kids;unfold aQ at h
  split at h
  ·omega
  ·split at h
   ·exact lh c kids i k h
   ·split at h
    ·exact zhZ c kids i k h
    ·split at h
     ·exact dD H h
     ·split at h
      ·obtain⟨j,h1,h2⟩:=h
       exact sW (H _ _ h1) (dD H h2)
      ·split at h
       ·rcases h with h|h
        ·omega
        ·exact H _ _ h
       ·omega
theorem lh(c:List Int):∀ps i k,cF c ps i k->i<=k
 |[],i,k,h=>by rw[ci]at h;omega
 |p::ps,i,k,h=>by
  rw[bY]at h;obtain⟨j,h1,h2⟩:=h;exact sW (kh c p _ _ h1) (lh c ps _ _ h2)
theorem zhZ(c:List Int):∀ps i k,bU c ps i k->i<=k
 |[],i,k,h=>by unfold bU at h;exact h.elim
 |p::ps,i,k,h=>by
  unfold bU at h
  rcases h with h|h
  ·exact kh c p _ _ h
  ·exact zhZ c ps _ _ h
theorem gK(c:List Int):∀ps i k,cM c ps i k->i<=k
 |[],i,k,h=>by unfold cM at h;exact h.elim
 |p::ps,i,k,h=>by unfold cM at h;exact kh c p _ _ h
end
theorem zbZ{R S:Nat->Nat->Prop}{f:Nat->Nat}(h:∀i k,R i k->S (f i) (f k)){i k:Nat}(hs:cr R i k):cr S (f i) (f k):=by
 induction hs with
 |refl=>exact .refl _
 |step h1 _ ih=>exact .step (h _ _ h1) ih
structure Wn(c d:List Int)(a:Nat):Prop where
 at_:∀i z,c[i]?=some z->d[a+i]?=some z
mutual
theorem pI{c d:List Int}{a:Nat}(W:Wn c d a):∀p i k,aQ c p i k->aQ d p (a+i) (a+k)
 | .mk op cls kids,i,k,h=>by
  have H:=zqI W kids;unfold aQ at h⊢
  split at h
  ·rename_i e
   rw[if_pos e];obtain⟨h1,z,h2,h3⟩:=h;exact⟨by omega,z,W.at_ i z h2,h3⟩
  ·rename_i e
   rw[if_neg e]
   split at h
   ·rename_i e
    rw[if_pos e];exact zhV W kids i k h
   ·rename_i e
    rw[if_neg e]
    split at h
    ·rename_i e
     rw[if_pos e];exact zhY W kids i k h
    ·rename_i e
     rw[if_neg e]
     split at h
     ·rename_i e
      rw[if_pos e];exact zbZ H h
     ·rename_i e
      rw[if_neg e]
      split at h
      ·rename_i e
       rw[if_pos e];obtain⟨j,h1,h2⟩:=h;exact⟨a+j,H _ _ h1,zbZ H h2⟩
      ·rename_i e
       rw[if_neg e]
       split at h
       ·rename_i e
        rw[if_pos e]
        rcases h with h|h
        ·exact .inl (by omega)
        ·exact .inr (H _ _ h)
       ·rename_i e
        rw[if_neg e];omega
theorem zhV{c d:List Int}{a:Nat}(W:Wn c d a):∀ps i k,cF c ps i k->cF d ps (a+i) (a+k)
 |[],i,k,h=>by rw[ci]at h⊢;omega
 |p::ps,i,k,h=>by
  rw[bY]at h⊢;obtain⟨j,h1,h2⟩:=h;exact⟨a+j,pI W p _ _ h1,zhV W ps _ _ h2⟩
theorem zhY{c d:List Int}{a:Nat}(W:Wn c d a):∀ps i k,bU c ps i k->bU d ps (a+i) (a+k)
 |[],i,k,h=>by unfold bU at h;exact h.elim
 |p::ps,i,k,h=>by
  unfold bU at h⊢
  rcases h with h|h
  ·exact .inl (pI W p _ _ h)
  ·exact .inr (zhY W ps _ _ h)
theorem zqI{c d:List Int}{a:Nat}(W:Wn c d a):∀ps i k,cM c ps i k->cM d ps (a+i) (a+k)
 |[],i,k,h=>by unfold cM at h;exact h.elim
 |p::ps,i,k,h=>by unfold cM at h⊢;exact pI W p _ _ h
end
theorem qW{R S : Nat → Nat → Prop}{a m : Nat}(hS : ∀ i k, S i k → i ≤ k)(h : ∀ i k, a + k ≤ m → S (a + i) (a + k) → R i k){x y : Nat}(hs : cr S x y) : ∀ i k, x = a + i → y = a + k → y ≤ m → cr R i k := by
  induction hs with
  | refl x => intro i k h1 h2 _; have : i = k := by omega
              exact this ▸ .refl _
  | @step x j y h1 h2 ih =>
    intro i k e1 e2 h3
    have h4 := hS _ _ h1
    have h5 := dD hS h2
    obtain ⟨j', rfl⟩ : ∃ j', j = a + j' := ⟨j - a, by omega⟩
    subst e1
    exact .step (h i j' (by omega) h1) (ih j' k rfl e2 h3)
mutual
theorem pJ{c d:List Int}{a:Nat}(W:∀i,i<c.length->c[i]?=d[a+i]?):∀p i k,k<=c.length->aQ d p (a+i) (a+k)->aQ c p i k
 | .mk op cls kids,i,k,hk,h=>by
  have H:=zqJ W kids;have HL:=gK d kids;unfold aQ at h⊢
  split at h
  ·rename_i e
   rw[if_pos e];obtain⟨h1,z,h2,h3⟩:=h;exact⟨by omega,z,(W i (by omega)).trans h2,h3⟩
  ·rename_i e
   rw[if_neg e]
   split at h
   ·rename_i e
    rw[if_pos e];exact zhX W kids i k hk h
   ·rename_i e
    rw[if_neg e]
    split at h
    ·rename_i e
     rw[if_pos e];exact zib W kids i k hk h
    ·rename_i e
     rw[if_neg e]
     split at h
     ·rename_i e
      rw[if_pos e];exact qW (m:=a+c.length) HL (fun i k h1 h2=>H i k (by omega) h2) h i k rfl rfl (by omega)
     ·rename_i e
      rw[if_neg e]
      split at h
      ·rename_i e
       rw[if_pos e];obtain⟨j,h1,h2⟩:=h;have h4:=HL _ _ h1;have h5:=dD HL h2;obtain⟨j',rfl⟩:∃j',j=a+j':=⟨j-a,by omega⟩
       exact⟨j',H i j' (by omega) h1,qW (m:=a+c.length) HL (fun i k h1 h2=>H i k (by omega) h2) h2 j' k rfl rfl (by omega)⟩
      ·rename_i e
       rw[if_neg e]
       split at h
       ·rename_i e
        rw[if_pos e]
        rcases h with h|h
        ·exact .inl (by omega)
        ·exact .inr (H _ _ hk h)
       ·rename_i e
        rw[if_neg e];omega
theorem zhX{c d:List Int}{a:Nat}(W:∀i,i<c.length->c[i]?=d[a+i]?):∀ps i k,k<=c.length->cF d ps (a+i) (a+k)->cF c ps i k
 |[],i,k,hk,h=>by rw[ci]at h⊢;omega
 |p::ps,i,k,hk,h=>by
  rw[bY]at h⊢;obtain⟨j,h1,h2⟩:=h;have h4:=kh d p _ _ h1;have h5:=lh d ps _ _ h2;obtain⟨j',rfl⟩:∃j',j=a+j':=⟨j-a,by omega⟩
  exact⟨j',pJ W p _ _ (by omega) h1,zhX W ps _ _ hk h2⟩
theorem zib{c d:List Int}{a:Nat}(W:∀i,i<c.length->c[i]?=d[a+i]?):∀ps i k,k<=c.length->bU d ps (a+i) (a+k)->bU c ps i k
 |[],i,k,hk,h=>by unfold bU at h;exact h.elim
 |p::ps,i,k,hk,h=>by
  unfold bU at h⊢
  rcases h with h|h
  ·exact .inl (pJ W p _ _ hk h)
  ·exact .inr (zib W ps _ _ hk h)
theorem zqJ{c d:List Int}{a:Nat}(W:∀i,i<c.length->c[i]?=d[a+i]?):∀ps i k,k<=c.length->cM d ps (a+i) (a+k)->cM c ps i k
 |[],i,k,hk,h=>by unfold cM at h;exact h.elim
 |p::ps,i,k,hk,h=>by unfold cM at h⊢;exact pJ W p _ _ hk h
end
theorem znB(c:List Int)(p:az)(m i k:Nat)(hm:m<=c.length)(hk:k<=m):aQ (c.take m) p i k ↔ aQ c p i k:=by
 have hl:(c.take m).length=m:=by rw[List.length_take];omega
 constructor
 ·intro h
  have:=pI (c:=c.take m) (d:=c) (a:=0) ⟨fun i z hz=>by
   have h1:=(sT.1 hz).1;rw[sZ];rw[sU (by omega)]at hz
   exact hz⟩ p i k h
  simpa using this
 ·intro h
  refine pJ (c:=c.take m) (d:=c) (a:=0) (fun i hi=>?_) p i k (by omega) (by simpa using h)
  rw[sZ,sU (by omega)]
theorem znC(c:List Int)(p:az)(m i k:Nat)(hm:m<=c.length)(hk:m+k<=c.length):aQ (c.drop m) p i k ↔ aQ c p (m+i) (m+k):=by
 constructor
 ·intro h
  exact pI (c:=c.drop m) (d:=c) (a:=m) ⟨fun i z hz=>by rw[sV]at hz;exact hz⟩ p i k h
 ·intro h
  exact pJ (c:=c.drop m) (d:=c) (a:=m) (fun i hi=>by rw[sV]) p i k (by rw[List.length_drop];omega) h
end Pt
end
namespace Br
def bds(p:Nat)(P:List (Nat×Nat)):List Nat:=p::P.map (·.2)
end Br
end Go.Proofs.YtbbapnpdfcgjnaaGreatDoor
