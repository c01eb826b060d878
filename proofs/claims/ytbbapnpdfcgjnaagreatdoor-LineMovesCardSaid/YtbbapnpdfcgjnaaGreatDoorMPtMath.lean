/- PtMath, ChMath: parts of the proof, joined. -/
import Derived.Test.YtbbapnpdfcgjnaaGreatDoorProg
open List renaming take_succ_eq_append_getElem->sD, getElem?_eq_some_iff->sG, getElem?_take_of_lt->sH, getElem?_drop->sI, cons_append->sK
open Bool renaming or_eq_true->sE
open Nat renaming le_trans->sJ, le_refl->sL, zero_add->sM
set_option maxHeartbeats 64000000
namespace Go.Proofs.YtbbapnpdfcgjnaaGreatDoor
section
namespace Pt
inductive cg (R:Nat->Nat->Prop):Nat->Nat->Prop where
 | refl (i:Nat):cg R i i
 | step {i j k:Nat}:R i j->cg R j k->cg R i k
theorem cg.trans {R:Nat->Nat->Prop} {i j k:Nat} (h:cg R i j) (h2:cg R j k):cg R i k:=by
 induction h with
 | refl=>exact h2
 | step a _ ih=>exact .step a (ih h2)
def Pk (a:Nat->Nat->Prop):Nat->Nat->Nat->Prop
 | 0=>fun i j=>i=j\/a i j
 | K+1=>fun i j=>Pk a K i j\/(Pk a K i K/\Pk a K K j)
theorem nE {a:Nat->Nat->Prop}:∀(K i j:Nat),Pk a K i j->cg a i j
 | 0,i,j,h=>by
  rcases h with h | h
  ·exact h ▸ .refl i
  ·exact .step h (.refl _)
 | K+1,i,j,h=>by
  rcases h with h | ⟨h,h2⟩
  ·exact nE K i j h
  ·exact(nE K i K h).trans (nE K K j h2)
theorem zlQ {a:Nat->Nat->Prop} {i j:Nat}:∀(K:Nat),Pk a 0 i j->Pk a K i j
 | 0,h=>h
 | K+1,h=>.inl (zlQ K h)
inductive Pth (a:Nat->Nat->Prop):Nat->List Nat->Nat->Prop where
 | one {i j:Nat}:a i j->Pth a i [] j
 | more {i m j:Nat} {l:List Nat}:a i m->Pth a m l j->Pth a i (m::l) j
theorem lR {a:Nat->Nat->Prop} {m:Nat}:∀(l1:List Nat) {i j:Nat} {l2:List Nat},Pth a i (l1++m::l2) j->Pth a i l1 m/\Pth a m l2 j
 | [],i,j,l2,h=>by
  cases h with
  | more h1 h2=>exact⟨.one h1,h2⟩
 | x::l1,i,j,l2,h=>by
  cases h with
  | more h1 h2=>
   obtain⟨k1,k2⟩:=lR l1 h2;exact⟨.more h1 k1,k2⟩
theorem gZ (K:Nat):∀(l:List Nat),K∈l->∃l1 l2,l=l1++K::l2/\K ∉ l1
 | [],h=>by cases h
 | x::l,h=>by
  by_cases e:x=K
  ·exact⟨[],l,by rw[e];rfl,by simp⟩
  ·have h2:K∈l:=by
    cases h with
    | head=>exact absurd rfl e
    | tail _ h=>exact h
   obtain⟨l1,l2,h3,h4⟩:=gZ K l h2;exact⟨x::l1,l2,by rw[h3];rfl,fun h5=>by
    cases h5 with
    | head=>exact e rfl
    | tail _ h=>exact h4 h⟩
theorem oO {a:Nat->Nat->Prop}:∀(K:Nat) (i:Nat) (l:List Nat) (j:Nat),(∀x∈l,x<K)->Pth a i l j->Pk a K i j
 | 0,i,l,j,hl,h=>by
  cases h with
  | one h=>exact .inr h
  | more h1 h2=>exact absurd (hl _ (List.mem_cons_self ..)) (by omega)
 | K+1,i,l,j,hl,h=>by
  have small:∀(l:List Nat),(∀x∈l,x<K+1)->K ∉ l->∀x∈l,x<K:=fun l hl hK x hx=>by
   have:=hl x hx;have:x≠K:=fun e=>hK (e ▸ hx)
   omega
  have behind:∀(n:Nat) (l:List Nat),l.length<=n->(∀x∈l,x<K+1)->Pth a K l j->Pk a K K j:=by
   intro n
   induction n with
   | zero=>
    intro l hn hl h;have:l=[]:=List.length_eq_zero_iff.1 (by omega)
    subst this;exact oO K K [] j (fun x hx=>by cases hx) h
   | succ n ih=>
    intro l hn hl h
    by_cases hK:K∈l
    ·obtain⟨l1,l2,rfl,h4⟩:=gZ K l hK
     simp only[List.length_append,List.length_cons] at hn
     exact ih l2 (by omega) (fun x hx=>hl x (by simp[hx])) (lR l1 h).2
    ·exact oO K K l j (small l hl hK) h
  by_cases hK:K∈l
  ·obtain⟨l1,l2,rfl,h4⟩:=gZ K l hK
   obtain⟨h5,h6⟩:=lR l1 h;exact .inr ⟨oO K i l1 K (small l1 (fun x hx=>hl x (by simp[hx])) h4) h5,behind _ l2 (sL _) (fun x hx=>hl x (by simp[hx])) h6⟩
  ·exact .inl (oO K i l j (small l hl hK) h)
theorem zli {a:Nat->Nat->Prop} {n:Nat} (hb:∀i j,i<n->a i j->j<n) {i j:Nat} (h:cg a i j):i<n->i=j\/∃l,(∀x∈l,x<n)/\Pth a i l j:=by
 induction h with
 | refl i=>exact fun _=>.inl rfl
 | step h1 h2 ih=>
  intro hi;have hj:=hb _ _ hi h1
  rcases ih hj with e | ⟨l,hl,hp⟩
  ·exact .inr ⟨[],(fun x hx=>by cases hx),.one (e ▸ h1)⟩
  ·refine .inr ⟨_::l,fun x hx=>?_,.more h1 hp⟩
   cases hx with
   | head=>exact hj
   | tail _ h=>exact hl x h
theorem zsG {a:Nat->Nat->Prop} {n:Nat} (hb:∀i j,i<n->a i j->j<n) {i j:Nat} (hi:i<n):Pk a n i j ↔ cg a i j:=
 ⟨nE n i j,fun h=>by
  rcases zli hb h hi with e | ⟨l,hl,hp⟩
  ·exact zlQ n (.inl e)
  ·exact oO n i l j hl hp⟩
def bt (r:Nat->Nat) (k:Nat):Bool:=(r (k / 64)).testBit (k % 64)
def qa (n:Nat) (W:Nat->Nat->Nat) (R:Nat->Nat->Prop):Prop:=∀i k,i<n->k<n->(bt (W i) k=true ↔ R i k)
def mZ (r o:Nat->Nat):Nat->Nat:=fun j=>r j ||| o j
theorem rN (r o:Nat->Nat) (k:Nat):bt (mZ r o) k=(bt r k || bt o k):=by simp[bt,mZ]
def stR (r:Nat->Nat) (k:Nat):Nat->Nat:=fun j=>if j=k / 64 then r j ||| 2 ^ (k % 64) else r j
theorem zsj (r:Nat->Nat) (k x:Nat):bt (stR r k) x=(bt r x || decide (x=k)):=by
 unfold bt stR
 by_cases h:x / 64=k / 64
 ·rw[if_pos h]
  rw[Nat.testBit_or,Nat.testBit_two_pow]
  congr 1
  by_cases e:x=k
  ·subst e;simp
  ·have:¬k % 64=x % 64:=by omega
   simp[e,this]
 ·rw[if_neg h]
  have:¬x=k:=fun e=>h (by rw[e])
  simp[this]
def bhR (n:Nat) (a:Nat->Nat) (B:Nat->Nat->Nat):Nat->Nat->Nat
 | 0=>fun _=>0
 | k+1=>if bt a k=true then mZ (bhR n a B k) (B k) else bhR n a B k
theorem ziE (n:Nat) (a:Nat->Nat) (B:Nat->Nat->Nat) (x:Nat):∀k,bt (bhR n a B k) x=true ↔ ∃j,j<k/\bt a j=true/\bt (B j) x=true
 | 0=>by simp[bhR,bt]
 | k+1=>by
  unfold bhR
  constructor
  ·intro h
   split at h
   ·rename_i hk
    rw[rN,sE] at h
    rcases h with h | h
    ·obtain⟨j,h1,h2⟩:=(ziE n a B x k).1 h
     exact⟨j,by omega,h2⟩
    ·exact⟨k,by omega,hk,h⟩
   ·obtain⟨j,h1,h2⟩:=(ziE n a B x k).1 h
    exact⟨j,by omega,h2⟩
  ·rintro ⟨j,h1,h2,h3⟩
   by_cases e:j=k
   ·subst e
    rw[if_pos h2,rN,h3,Bool.or_true]
   ·have h4:=(ziE n a B x k).2 ⟨j,by omega,h2,h3⟩
    split
    ·rw[rN,h4,Bool.true_or]
    ·exact h4
def qe (W:Nat->Nat->Nat) (k:Nat):Nat->Nat->Nat->Nat
 | 0=>W
 | i+1=>fun x=>if x=i/\bt (qe W k i i) k=true then mZ (qe W k i i) (qe W k i k) else qe W k i x
def mrK (n:Nat) (W:Nat->Nat->Nat):Nat->Nat->Nat->Nat
 | 0=>W
 | k+1=>qe (mrK n W k) k n
theorem zfQ (W:Nat->Nat->Nat) (k y:Nat) (hk:bt (W k) k=true):∀i x,bt (qe W k i x) y=if x<i then (bt (W x) y || (bt (W x) k&&bt (W k) y)) else bt (W x) y
 | 0,x=>by simp[qe]
 | i+1,x=>by
  have ih:=zfQ W k y hk i;have ihk:=zfQ W k k hk i;have hrow:bt (qe W k i k) y=bt (W k) y:=by
   rw[ih k];split
   ·cases bt (W k) y<;>simp[hk]
   ·rfl
  have hcol:bt (qe W k i i) k=bt (W i) k:=by rw[ihk i];simp
  have hself:bt (qe W k i i) y=bt (W i) y:=by rw[ih i];simp
  unfold qe
  by_cases e:x=i
  ·subst e
   rw[if_pos (Nat.lt_succ_self x)]
   by_cases hb:bt (W x) k=true
   ·rw[if_pos ⟨rfl,by rw[hcol];exact hb⟩,rN,hrow,hself,hb,Bool.true_and]
   ·rw[if_neg (fun h=>hb (by rw[<- hcol];exact h.2)),hself]
    simp[hb]
  ·rw[if_neg (fun h=>e h.1),ih x]
   by_cases h:x<i
   ·rw[if_pos h,if_pos (by omega)]
   ·rw[if_neg h,if_neg (by omega)]
theorem zhL (n:Nat) (W:Nat->Nat->Nat) (a:Nat->Nat->Prop) (h:qa n W (Pk a 0)):∀k,k<=n->qa n (mrK n W k) (Pk a k)
 | 0,_=>h
 | k+1,hk=>by
  have ih:=zhL n W a h k (by omega)
  have hkk:bt (mrK n W k k) k=true:=(ih k k (by omega) (by omega)).2 (zlQ k (.inl rfl))
  intro i j hi hj
  show bt (qe (mrK n W k) k n i) j=true ↔ _
  rw[zfQ _ _ _ hkk,if_pos hi,sE,Bool.and_eq_true,ih i j hi hj,ih i k hi (by omega),ih k j (by omega) hj]
  rfl
theorem qa.congr {n:Nat} {W:Nat->Nat->Nat} {R S:Nat->Nat->Prop} (h:qa n W R) (e:∀i k,i<n->k<n->(R i k ↔ S i k)):qa n W S:=fun i k hi hk=>(h i k hi hk).trans (e i k hi hk)
theorem zlK (n:Nat):qa n (fun _ _=>0) (fun _ _=>False):=fun i k _ _=>by simp[bt]
theorem kH (n:Nat):qa n (fun i=>stR (fun _=>0) i) (fun i k=>i=k):=fun i k _ _=>by
 simp only[]
 rw[zsj]
 simp[bt,eq_comm]
theorem oJ {n:Nat} {A B:Nat->Nat->Nat} {R S:Nat->Nat->Prop} (h:qa n A R) (h2:qa n B S):qa n (fun i=>mZ (mZ (fun _=>0) (A i)) (B i)) (fun i k=>R i k\/S i k):=fun i k hi hk=>by
 simp only[]
 rw[rN,rN,sE,sE,h i k hi hk,h2 i k hi hk]
 simp[bt]
def Cmp (R S:Nat->Nat->Prop) (i k:Nat):Prop:=∃j,R i j/\S j k
def Kn (n:Nat) (R:Nat->Nat->Prop):Prop:=∀i j,i<n->R i j->j<n
theorem oK {n:Nat} {A B:Nat->Nat->Nat} {R S:Nat->Nat->Prop} (h:qa n A R) (h2:qa n B S) (hk:Kn n R):qa n (fun i=>bhR n (A i) B n) (Cmp R S):=fun i k hi hk2=>by
 simp only[]
 rw[ziE]
 constructor
 ·rintro ⟨j,h3,h4,h5⟩
  exact⟨j,(h i j hi h3).1 h4,(h2 j k h3 hk2).1 h5⟩
 ·rintro ⟨j,h3,h4⟩
  have h5:=hk i j hi h3;exact⟨j,h5,(h i j hi h5).2 h3,(h2 j k h5 hk2).2 h4⟩
theorem zcx {n:Nat} {A B:Nat->Nat->Nat} {R:Nat->Nat->Prop} (h:qa n A R) (hB:qa n B (fun i k=>i=k)) (hk:Kn n R):qa n (mrK n (fun i=>mZ (mZ (fun _=>0) (A i)) (B i)) n) (cg R):=by
 have h0:qa n (fun i=>mZ (mZ (fun _=>0) (A i)) (B i)) (Pk R 0):=(oJ h hB).congr fun i k _ _=>⟨Or.symm,Or.symm⟩
 exact(zhL n _ R h0 n (sL _)).congr fun i k hi _=>zsG hk hi
theorem zhm {n:Nat} {R:Nat->Nat->Prop} (h:Kn n R):Kn n (cg R):=fun i j hi hs=>by
 induction hs with
 | refl=>exact hi
 | step h1 _ ih=>exact ih (h _ _ hi h1)
theorem zgD {n:Nat} {R S:Nat->Nat->Prop} (h:Kn n R) (h2:Kn n S):Kn n (Cmp R S):=fun i j hi ⟨m,h3,h4⟩=>h2 m j (h i m hi h3) h4
inductive ax where
 | mk (op:Int) (cls:List Int) (kids:List ax)
mutual
def aO (c:List Int):ax->Nat->Nat->Prop
 | .mk op cls kids=>fun i k=>
  if op=1 then k=i+1/\∃z,c[i]? =some z/\z∈cls
  else if op=2 then cz c kids i k
  else if op=3 then bO c kids i k
  else if op=4 then cg (cG c kids) i k
  else if op=5 then Cmp (cG c kids) (cg (cG c kids)) i k
  else if op=6 then i=k\/cG c kids i k
  else i=k
def cz (c:List Int):List ax->Nat->Nat->Prop
 | []=>fun i k=>i=k
 | p::ps=>Cmp (aO c p) (cz c ps)
def bO (c:List Int):List ax->Nat->Nat->Prop
 | []=>fun _ _=>False
 | p::ps=>fun i k=>aO c p i k\/bO c ps i k
def cG (c:List Int):List ax->Nat->Nat->Prop
 | []=>fun _ _=>False
 | p::_=>aO c p
end
mutual
theorem zaJ (c:List Int):∀p,Kn (c.length+1) (aO c p)
 | .mk op cls kids=>by
  intro i j hi h;unfold aO at h
  split at h
  ·obtain⟨h1,z,h2,_⟩:=h
   have:=(sG.1 h2).1;omega
  ·split at h
   ·exact zhT c kids i j hi h
   ·split at h
    ·exact zhX c kids i j hi h
    ·split at h
     ·exact zhm (nO c kids) i j hi h
     ·split at h
      ·exact zgD (nO c kids) (zhm (nO c kids)) i j hi h
      ·split at h
       ·rcases h with h | h
        ·omega
        ·exact nO c kids i j hi h
       ·omega
theorem zhT (c:List Int):∀ps,Kn (c.length+1) (cz c ps)
 | []=>fun i j hi h=>by unfold cz at h;omega
 | p::ps=>fun i j hi h=>by unfold cz at h;exact zgD (zaJ c p) (zhT c ps) i j hi h
theorem zhX (c:List Int):∀ps,Kn (c.length+1) (bO c ps)
 | []=>fun i j hi h=>by unfold bO at h;exact h.elim
 | p::ps=>fun i j hi h=>by
  unfold bO at h
  rcases h with h | h
  ·exact zaJ c p i j hi h
  ·exact zhX c ps i j hi h
theorem nO (c:List Int):∀ps,Kn (c.length+1) (cG c ps)
 | []=>fun i j hi h=>by unfold cG at h;exact h.elim
 | p::ps=>fun i j hi h=>by unfold cG at h;exact zaJ c p i j hi h
end
theorem zvG (R:Nat->Nat->Prop):Cmp (fun i k=>i=k) R=R:=by
 funext i k
 exact propext ⟨fun⟨j,h1,h2⟩=>h1 ▸ h2,fun h=>⟨i,rfl,h⟩⟩
theorem zkz (R S T:Nat->Nat->Prop):Cmp (Cmp R S) T=Cmp R (Cmp S T):=by
 funext i k
 exact propext ⟨fun⟨j,⟨m,h1,h2⟩,h3⟩=>⟨m,h1,j,h2,h3⟩,fun⟨m,h1,j,h2,h3⟩=>⟨j,⟨m,h1,h2⟩,h3⟩⟩
theorem ziA (R:Nat->Nat->Prop):Cmp R (fun i k=>i=k)=R:=by
 funext i k
 exact propext ⟨fun⟨j,h1,h2⟩=>h2 ▸ h1,fun h=>⟨k,h,rfl⟩⟩
theorem ca (c:List Int):cz c []=fun i k=>i=k:=by rw[cz]
theorem bU (c:List Int) (p:ax) (ps:List ax):cz c (p::ps)=Cmp (aO c p) (cz c ps):=by rw[cz]
theorem kS (c:List Int):∀(a b:List ax),cz c (a++b)=Cmp (cz c a) (cz c b)
 | [],b=>by simp only[List.nil_append];rw[ca,zvG]
 | p::a,b=>by
  rw[sK,bU,kS c a b,<- zkz,bU]
theorem zki (c:List Int) (ks:List ax) (j:Nat) (h:j<ks.length):cz c (ks.take (j+1))=Cmp (cz c (ks.take j)) (aO c ks[j]):=by
 rw[sD h,kS]
 congr 1
 rw[bU,ca,ziA]
theorem zkj (c:List Int) (ks:List ax) (j:Nat) (h:j<ks.length) (i k:Nat):bO c (ks.take (j+1)) i k ↔ (bO c (ks.take j) i k\/aO c ks[j] i k):=by
 rw[sD h]
 generalize ks.take j=a
 induction a with
 | nil=>simp[bO]
 | cons p a ih=>simp only[sK,bO,ih,or_assoc]
theorem dB {R:Nat->Nat->Prop} (h:∀i k,R i k->i<=k) {i k:Nat} (hs:cg R i k):i<=k:=by
 induction hs with
 | refl=>exact sL _
 | step h1 _ ih=>exact sJ (h _ _ h1) ih
mutual
theorem ke (c:List Int):∀p i k,aO c p i k->i<=k
 | .mk op cls kids,i,k,h=>by
  have H:=gH c kids;unfold aO at h
  split at h
  ·omega
  ·split at h
   ·exact kR c kids i k h
   ·split at h
    ·exact zhW c kids i k h
    ·split at h
     ·exact dB H h
     ·split at h
      ·obtain⟨j,h1,h2⟩:=h
       exact sJ (H _ _ h1) (dB H h2)
      ·split at h
       ·rcases h with h | h
        ·omega
        ·exact H _ _ h
       ·omega
theorem kR (c:List Int):∀ps i k,cz c ps i k->i<=k
 | [],i,k,h=>by rw[ca] at h;omega
 | p::ps,i,k,h=>by
  rw[bU] at h;obtain⟨j,h1,h2⟩:=h;exact sJ (ke c p _ _ h1) (kR c ps _ _ h2)
theorem zhW (c:List Int):∀ps i k,bO c ps i k->i<=k
 | [],i,k,h=>by unfold bO at h;exact h.elim
 | p::ps,i,k,h=>by
  unfold bO at h
  rcases h with h | h
  ·exact ke c p _ _ h
  ·exact zhW c ps _ _ h
theorem gH (c:List Int):∀ps i k,cG c ps i k->i<=k
 | [],i,k,h=>by unfold cG at h;exact h.elim
 | p::ps,i,k,h=>by unfold cG at h;exact ke c p _ _ h
end
theorem zbV {R S:Nat->Nat->Prop} {f:Nat->Nat} (h:∀i k,R i k->S (f i) (f k)) {i k:Nat} (hs:cg R i k):cg S (f i) (f k):=by
 induction hs with
 | refl=>exact .refl _
 | step h1 _ ih=>exact .step (h _ _ h1) ih
structure Wn (c d:List Int) (a:Nat):Prop where
 at_:∀i z,c[i]? =some z->d[a+i]? =some z
mutual
theorem pj {c d:List Int} {a:Nat} (W:Wn c d a):∀p i k,aO c p i k->aO d p (a+i) (a+k)
 | .mk op cls kids,i,k,h=>by
  have H:=zqy W kids;unfold aO at h⊢
  split at h
  ·rename_i e
   rw[if_pos e];obtain⟨h1,z,h2,h3⟩:=h;exact⟨by omega,z,W.at_ i z h2,h3⟩
  ·rename_i e
   rw[if_neg e]
   split at h
   ·rename_i e
    rw[if_pos e];exact zhS W kids i k h
   ·rename_i e
    rw[if_neg e]
    split at h
    ·rename_i e
     rw[if_pos e];exact zhV W kids i k h
    ·rename_i e
     rw[if_neg e]
     split at h
     ·rename_i e
      rw[if_pos e];exact zbV H h
     ·rename_i e
      rw[if_neg e]
      split at h
      ·rename_i e
       rw[if_pos e];obtain⟨j,h1,h2⟩:=h;exact⟨a+j,H _ _ h1,zbV H h2⟩
      ·rename_i e
       rw[if_neg e]
       split at h
       ·rename_i e
        rw[if_pos e]
        rcases h with h | h
        ·exact .inl (by omega)
        ·exact .inr (H _ _ h)
       ·rename_i e
        rw[if_neg e];omega
theorem zhS {c d:List Int} {a:Nat} (W:Wn c d a):∀ps i k,cz c ps i k->cz d ps (a+i) (a+k)
 | [],i,k,h=>by rw[ca] at h⊢;omega
 | p::ps,i,k,h=>by
  rw[bU] at h⊢;obtain⟨j,h1,h2⟩:=h;exact⟨a+j,pj W p _ _ h1,zhS W ps _ _ h2⟩
theorem zhV {c d:List Int} {a:Nat} (W:Wn c d a):∀ps i k,bO c ps i k->bO d ps (a+i) (a+k)
 | [],i,k,h=>by unfold bO at h;exact h.elim
 | p::ps,i,k,h=>by
  unfold bO at h⊢
  rcases h with h | h
  ·exact .inl (pj W p _ _ h)
  ·exact .inr (zhV W ps _ _ h)
theorem zqy {c d:List Int} {a:Nat} (W:Wn c d a):∀ps i k,cG c ps i k->cG d ps (a+i) (a+k)
 | [],i,k,h=>by unfold cG at h;exact h.elim
 | p::ps,i,k,h=>by unfold cG at h⊢;exact pj W p _ _ h
end
theorem qI {R S : Nat → Nat → Prop} {a m : Nat} (hS : ∀ i k, S i k → i ≤ k) (h : ∀ i k, a + k ≤ m → S (a + i) (a + k) → R i k) {x y : Nat} (hs : cg S x y) : ∀ i k, x = a + i → y = a + k → y ≤ m → cg R i k := by
  induction hs with
  | refl x => intro i k h1 h2 _; have : i = k := by omega
              exact this ▸ .refl _
  | @step x j y h1 h2 ih =>
    intro i k e1 e2 h3
    have h4 := hS _ _ h1
    have h5 := dB hS h2
    obtain ⟨j', rfl⟩ : ∃ j', j = a + j' := ⟨j - a, by omega⟩
    subst e1
    exact .step (h i j' (by omega) h1) (ih j' k rfl e2 h3)
mutual
theorem pk {c d:List Int} {a:Nat} (W:∀i,i<c.length->c[i]? =d[a+i]?):∀p i k,k<=c.length->aO d p (a+i) (a+k)->aO c p i k
 | .mk op cls kids,i,k,hk,h=>by
  have H:=zqz W kids;have HL:=gH d kids;unfold aO at h⊢
  split at h
  ·rename_i e
   rw[if_pos e];obtain⟨h1,z,h2,h3⟩:=h;exact⟨by omega,z,(W i (by omega)).trans h2,h3⟩
  ·rename_i e
   rw[if_neg e]
   split at h
   ·rename_i e
    rw[if_pos e];exact zhU W kids i k hk h
   ·rename_i e
    rw[if_neg e]
    split at h
    ·rename_i e
     rw[if_pos e];exact zhY W kids i k hk h
    ·rename_i e
     rw[if_neg e]
     split at h
     ·rename_i e
      rw[if_pos e];exact qI (m:=a+c.length) HL (fun i k h1 h2=>H i k (by omega) h2) h i k rfl rfl (by omega)
     ·rename_i e
      rw[if_neg e]
      split at h
      ·rename_i e
       rw[if_pos e];obtain⟨j,h1,h2⟩:=h;have h4:=HL _ _ h1;have h5:=dB HL h2;obtain⟨j',rfl⟩:∃j',j=a+j':=⟨j - a,by omega⟩
       exact⟨j',H i j' (by omega) h1,qI (m:=a+c.length) HL (fun i k h1 h2=>H i k (by omega) h2) h2 j' k rfl rfl (by omega)⟩
      ·rename_i e
       rw[if_neg e]
       split at h
       ·rename_i e
        rw[if_pos e]
        rcases h with h | h
        ·exact .inl (by omega)
        ·exact .inr (H _ _ hk h)
       ·rename_i e
        rw[if_neg e];omega
theorem zhU {c d:List Int} {a:Nat} (W:∀i,i<c.length->c[i]? =d[a+i]?):∀ps i k,k<=c.length->cz d ps (a+i) (a+k)->cz c ps i k
 | [],i,k,hk,h=>by rw[ca] at h⊢;omega
 | p::ps,i,k,hk,h=>by
  rw[bU] at h⊢;obtain⟨j,h1,h2⟩:=h;have h4:=ke d p _ _ h1;have h5:=kR d ps _ _ h2;obtain⟨j',rfl⟩:∃j',j=a+j':=⟨j - a,by omega⟩
  exact⟨j',pk W p _ _ (by omega) h1,zhU W ps _ _ hk h2⟩
theorem zhY {c d:List Int} {a:Nat} (W:∀i,i<c.length->c[i]? =d[a+i]?):∀ps i k,k<=c.length->bO d ps (a+i) (a+k)->bO c ps i k
 | [],i,k,hk,h=>by unfold bO at h;exact h.elim
 | p::ps,i,k,hk,h=>by
  unfold bO at h⊢
  rcases h with h | h
  ·exact .inl (pk W p _ _ hk h)
  ·exact .inr (zhY W ps _ _ hk h)
theorem zqz {c d:List Int} {a:Nat} (W:∀i,i<c.length->c[i]? =d[a+i]?):∀ps i k,k<=c.length->cG d ps (a+i) (a+k)->cG c ps i k
 | [],i,k,hk,h=>by unfold cG at h;exact h.elim
 | p::ps,i,k,hk,h=>by unfold cG at h⊢;exact pk W p _ _ hk h
end
theorem zny (c:List Int) (p:ax) (m i k:Nat) (hm:m<=c.length) (hk:k<=m):aO (c.take m) p i k ↔ aO c p i k:=by
 have hl:(c.take m).length=m:=by rw[List.length_take];omega
 constructor
 ·intro h
  have:=pj (c:=c.take m) (d:=c) (a:=0) ⟨fun i z hz=>by
   have h1:=(sG.1 hz).1;rw[sM];rw[sH (by omega)] at hz
   exact hz⟩ p i k h
  simpa using this
 ·intro h
  refine pk (c:=c.take m) (d:=c) (a:=0) (fun i hi=>?_) p i k (by omega) (by simpa using h)
  rw[sM,sH (by omega)]
theorem znz (c:List Int) (p:ax) (m i k:Nat) (hm:m<=c.length) (hk:m+k<=c.length):aO (c.drop m) p i k ↔ aO c p (m+i) (m+k):=by
 constructor
 ·intro h
  exact pj (c:=c.drop m) (d:=c) (a:=m) ⟨fun i z hz=>by rw[sI] at hz;exact hz⟩ p i k h
 ·intro h
  exact pk (c:=c.drop m) (d:=c) (a:=m) (fun i hi=>by rw[sI]) p i k (by rw[List.length_drop];omega) h
end Pt
end
namespace Br
def bds (p:Nat) (P:List (Nat × Nat)):List Nat:=p::P.map (·.2)
end Br
end Go.Proofs.YtbbapnpdfcgjnaaGreatDoor
