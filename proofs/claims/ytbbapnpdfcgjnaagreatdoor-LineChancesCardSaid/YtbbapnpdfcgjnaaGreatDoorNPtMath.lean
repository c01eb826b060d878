/- PtMath, ChMath: parts of the proof, joined. -/
import Derived.Test.YtbbapnpdfcgjnaaGreatDoorProg
open List renaming take_succ_eq_append_getElem->sH, getElem?_eq_some_iff->sJ, getElem?_take_of_lt->sK, getElem?_drop->sL, cons_append->sN
open Bool renaming or_eq_true->sI
open Nat renaming le_trans->sM, le_refl->sO, zero_add->sP
set_option maxHeartbeats 64000000
namespace Go.Proofs.YtbbapnpdfcgjnaaGreatDoor
section
namespace Pt
inductive cg (R:Nat->Nat->Prop):Nat->Nat->Prop where
 | refl (i:Nat):cg R i i
 | step {i j k:Nat}:R i j->cg R j k->cg R i k
theorem cg.trans {R:Nat->Nat->Prop} {i j k:Nat} (h:cg R i j) (h2:cg R j k):cg R i k:=by
 induction h with
 | refl=>exact h2
 | step a _ ih=>exact .step a (ih h2)
def Pk (a:Nat->Nat->Prop):Nat->Nat->Nat->Prop
 | 0=>fun i j=>i=j\/a i j
 | K+1=>fun i j=>Pk a K i j\/(Pk a K i K/\Pk a K K j)
theorem nl {a:Nat->Nat->Prop}:∀(K i j:Nat),Pk a K i j->cg a i j
 | 0,i,j,h=>by
  rcases h with h | h
  ·exact h ▸ .refl i
  ·exact .step h (.refl _)
 | K+1,i,j,h=>by
  rcases h with h | ⟨h,h2⟩
  ·exact nl K i j h
  ·exact(nl K i K h).trans (nl K K j h2)
theorem zls {a:Nat->Nat->Prop} {i j:Nat}:∀(K:Nat),Pk a 0 i j->Pk a K i j
 | 0,h=>h
 | K+1,h=>.inl (zls K h)
inductive Pth (a:Nat->Nat->Prop):Nat->List Nat->Nat->Prop where
 | one {i j:Nat}:a i j->Pth a i [] j
 | more {i m j:Nat} {l:List Nat}:a i m->Pth a m l j->Pth a i (m::l) j
theorem lI {a:Nat->Nat->Prop} {m:Nat}:∀(l1:List Nat) {i j:Nat} {l2:List Nat},Pth a i (l1++m::l2) j->Pth a i l1 m/\Pth a m l2 j
 | [],i,j,l2,h=>by
  cases h with
  | more h1 h2=>exact⟨.one h1,h2⟩
 | x::l1,i,j,l2,h=>by
  cases h with
  | more h1 h2=>
   obtain⟨k1,k2⟩:=lI l1 h2;exact⟨.more h1 k1,k2⟩
theorem gR (K:Nat):∀(l:List Nat),K∈l->∃l1 l2,l=l1++K::l2/\K ∉ l1
 | [],h=>by cases h
 | x::l,h=>by
  by_cases e:x=K
  ·exact⟨[],l,by rw[e];rfl,by simp⟩
  ·have h2:K∈l:=by
    cases h with
    | head=>exact absurd rfl e
    | tail _ h=>exact h
   obtain⟨l1,l2,h3,h4⟩:=gR K l h2;exact⟨x::l1,l2,by rw[h3];rfl,fun h5=>by
    cases h5 with
    | head=>exact e rfl
    | tail _ h=>exact h4 h⟩
theorem oD {a:Nat->Nat->Prop}:∀(K:Nat) (i:Nat) (l:List Nat) (j:Nat),(∀x∈l,x<K)->Pth a i l j->Pk a K i j
 | 0,i,l,j,hl,h=>by
  cases h with
  | one h=>exact .inr h
  | more h1 h2=>exact absurd (hl _ (List.mem_cons_self ..)) (by omega)
 | K+1,i,l,j,hl,h=>by
  have small:∀(l:List Nat),(∀x∈l,x<K+1)->K ∉ l->∀x∈l,x<K:=fun l hl hK x hx=>by
   have:=hl x hx;have:x≠K:=fun e=>hK (e ▸ hx)
   omega
  have behind:∀(n:Nat) (l:List Nat),l.length<=n->(∀x∈l,x<K+1)->Pth a K l j->Pk a K K j:=by
   intro n
   induction n with
   | zero=>
    intro l hn hl h;have:l=[]:=List.length_eq_zero_iff.1 (by omega)
    subst this;exact oD K K [] j (fun x hx=>by cases hx) h
   | succ n ih=>
    intro l hn hl h
    by_cases hK:K∈l
    ·obtain⟨l1,l2,rfl,h4⟩:=gR K l hK
     simp only[List.length_append,List.length_cons] at hn
     exact ih l2 (by omega) (fun x hx=>hl x (by simp[hx])) (lI l1 h).2
    ·exact oD K K l j (small l hl hK) h
  by_cases hK:K∈l
  ·obtain⟨l1,l2,rfl,h4⟩:=gR K l hK
   obtain⟨h5,h6⟩:=lI l1 h;exact .inr ⟨oD K i l1 K (small l1 (fun x hx=>hl x (by simp[hx])) h4) h5,behind _ l2 (sO _) (fun x hx=>hl x (by simp[hx])) h6⟩
  ·exact .inl (oD K i l j (small l hl hK) h)
theorem zkK {a:Nat->Nat->Prop} {n:Nat} (hb:∀i j,i<n->a i j->j<n) {i j:Nat} (h:cg a i j):i<n->i=j\/∃l,(∀x∈l,x<n)/\Pth a i l j:=by
 induction h with
 | refl i=>exact fun _=>.inl rfl
 | step h1 h2 ih=>
  intro hi;have hj:=hb _ _ hi h1
  rcases ih hj with e | ⟨l,hl,hp⟩
  ·exact .inr ⟨[],(fun x hx=>by cases hx),.one (e ▸ h1)⟩
  ·refine .inr ⟨_::l,fun x hx=>?_,.more h1 hp⟩
   cases hx with
   | head=>exact hj
   | tail _ h=>exact hl x h
theorem zsm {a:Nat->Nat->Prop} {n:Nat} (hb:∀i j,i<n->a i j->j<n) {i j:Nat} (hi:i<n):Pk a n i j ↔ cg a i j:=
 ⟨nl n i j,fun h=>by
  rcases zkK hb h hi with e | ⟨l,hl,hp⟩
  ·exact zls n (.inl e)
  ·exact oD n i l j hl hp⟩
def bt (r:Nat->Nat) (k:Nat):Bool:=(r (k / 64)).testBit (k % 64)
def pU (n:Nat) (W:Nat->Nat->Nat) (R:Nat->Nat->Prop):Prop:=∀i k,i<n->k<n->(bt (W i) k=true ↔ R i k)
def mS (r o:Nat->Nat):Nat->Nat:=fun j=>r j ||| o j
theorem rx (r o:Nat->Nat) (k:Nat):bt (mS r o) k=(bt r k || bt o k):=by simp[bt,mS]
def stR (r:Nat->Nat) (k:Nat):Nat->Nat:=fun j=>if j=k / 64 then r j ||| 2 ^ (k % 64) else r j
theorem zrR (r:Nat->Nat) (k x:Nat):bt (stR r k) x=(bt r x || decide (x=k)):=by
 unfold bt stR
 by_cases h:x / 64=k / 64
 ·rw[if_pos h]
  rw[Nat.testBit_or,Nat.testBit_two_pow]
  congr 1
  by_cases e:x=k
  ·subst e;simp
  ·have:¬k % 64=x % 64:=by omega
   simp[e,this]
 ·rw[if_neg h]
  have:¬x=k:=fun e=>h (by rw[e])
  simp[this]
def bhR (n:Nat) (a:Nat->Nat) (B:Nat->Nat->Nat):Nat->Nat->Nat
 | 0=>fun _=>0
 | k+1=>if bt a k=true then mS (bhR n a B k) (B k) else bhR n a B k
theorem zik (n:Nat) (a:Nat->Nat) (B:Nat->Nat->Nat) (x:Nat):∀k,bt (bhR n a B k) x=true ↔ ∃j,j<k/\bt a j=true/\bt (B j) x=true
 | 0=>by simp[bhR,bt]
 | k+1=>by
  unfold bhR
  constructor
  ·intro h
   split at h
   ·rename_i hk
    rw[rx,sI] at h
    rcases h with h | h
    ·obtain⟨j,h1,h2⟩:=(zik n a B x k).1 h
     exact⟨j,by omega,h2⟩
    ·exact⟨k,by omega,hk,h⟩
   ·obtain⟨j,h1,h2⟩:=(zik n a B x k).1 h
    exact⟨j,by omega,h2⟩
  ·rintro ⟨j,h1,h2,h3⟩
   by_cases e:j=k
   ·subst e
    rw[if_pos h2,rx,h3,Bool.or_true]
   ·have h4:=(zik n a B x k).2 ⟨j,by omega,h2,h3⟩
    split
    ·rw[rx,h4,Bool.true_or]
    ·exact h4
def pX (W:Nat->Nat->Nat) (k:Nat):Nat->Nat->Nat->Nat
 | 0=>W
 | i+1=>fun x=>if x=i/\bt (pX W k i i) k=true then mS (pX W k i i) (pX W k i k) else pX W k i x
def mrK (n:Nat) (W:Nat->Nat->Nat):Nat->Nat->Nat->Nat
 | 0=>W
 | k+1=>pX (mrK n W k) k n
theorem zfu (W:Nat->Nat->Nat) (k y:Nat) (hk:bt (W k) k=true):∀i x,bt (pX W k i x) y=if x<i then (bt (W x) y || (bt (W x) k&&bt (W k) y)) else bt (W x) y
 | 0,x=>by simp[pX]
 | i+1,x=>by
  have ih:=zfu W k y hk i;have ihk:=zfu W k k hk i;have hrow:bt (pX W k i k) y=bt (W k) y:=by
   rw[ih k];split
   ·cases bt (W k) y<;>simp[hk]
   ·rfl
  have hcol:bt (pX W k i i) k=bt (W i) k:=by rw[ihk i];simp
  have hself:bt (pX W k i i) y=bt (W i) y:=by rw[ih i];simp
  unfold pX
  by_cases e:x=i
  ·subst e
   rw[if_pos (Nat.lt_succ_self x)]
   by_cases hb:bt (W x) k=true
   ·rw[if_pos ⟨rfl,by rw[hcol];exact hb⟩,rx,hrow,hself,hb,Bool.true_and]
   ·rw[if_neg (fun h=>hb (by rw[<- hcol];exact h.2)),hself]
    simp[hb]
  ·rw[if_neg (fun h=>e h.1),ih x]
   by_cases h:x<i
   ·rw[if_pos h,if_pos (by omega)]
   ·rw[if_neg h,if_neg (by omega)]
theorem zhs (n:Nat) (W:Nat->Nat->Nat) (a:Nat->Nat->Prop) (h:pU n W (Pk a 0)):∀k,k<=n->pU n (mrK n W k) (Pk a k)
 | 0,_=>h
 | k+1,hk=>by
  have ih:=zhs n W a h k (by omega)
  have hkk:bt (mrK n W k k) k=true:=(ih k k (by omega) (by omega)).2 (zls k (.inl rfl))
  intro i j hi hj
  show bt (pX (mrK n W k) k n i) j=true ↔ _
  rw[zfu _ _ _ hkk,if_pos hi,sI,Bool.and_eq_true,ih i j hi hj,ih i k hi (by omega),ih k j (by omega) hj]
  rfl
theorem pU.congr {n:Nat} {W:Nat->Nat->Nat} {R S:Nat->Nat->Prop} (h:pU n W R) (e:∀i k,i<n->k<n->(R i k ↔ S i k)):pU n W S:=fun i k hi hk=>(h i k hi hk).trans (e i k hi hk)
theorem zlm (n:Nat):pU n (fun _ _=>0) (fun _ _=>False):=fun i k _ _=>by simp[bt]
theorem ku (n:Nat):pU n (fun i=>stR (fun _=>0) i) (fun i k=>i=k):=fun i k _ _=>by
 simp only[]
 rw[zrR]
 simp[bt,eq_comm]
theorem oy {n:Nat} {A B:Nat->Nat->Nat} {R S:Nat->Nat->Prop} (h:pU n A R) (h2:pU n B S):pU n (fun i=>mS (mS (fun _=>0) (A i)) (B i)) (fun i k=>R i k\/S i k):=fun i k hi hk=>by
 simp only[]
 rw[rx,rx,sI,sI,h i k hi hk,h2 i k hi hk]
 simp[bt]
def Cmp (R S:Nat->Nat->Prop) (i k:Nat):Prop:=∃j,R i j/\S j k
def Kn (n:Nat) (R:Nat->Nat->Prop):Prop:=∀i j,i<n->R i j->j<n
theorem oz {n:Nat} {A B:Nat->Nat->Nat} {R S:Nat->Nat->Prop} (h:pU n A R) (h2:pU n B S) (hk:Kn n R):pU n (fun i=>bhR n (A i) B n) (Cmp R S):=fun i k hi hk2=>by
 simp only[]
 rw[zik]
 constructor
 ·rintro ⟨j,h3,h4,h5⟩
  exact⟨j,(h i j hi h3).1 h4,(h2 j k h3 hk2).1 h5⟩
 ·rintro ⟨j,h3,h4⟩
  have h5:=hk i j hi h3;exact⟨j,h5,(h i j hi h5).2 h3,(h2 j k h5 hk2).2 h4⟩
theorem zce {n:Nat} {A B:Nat->Nat->Nat} {R:Nat->Nat->Prop} (h:pU n A R) (hB:pU n B (fun i k=>i=k)) (hk:Kn n R):pU n (mrK n (fun i=>mS (mS (fun _=>0) (A i)) (B i)) n) (cg R):=by
 have h0:pU n (fun i=>mS (mS (fun _=>0) (A i)) (B i)) (Pk R 0):=(oy h hB).congr fun i k _ _=>⟨Or.symm,Or.symm⟩
 exact(zhs n _ R h0 n (sO _)).congr fun i k hi _=>zsm hk hi
theorem zgP {n:Nat} {R:Nat->Nat->Prop} (h:Kn n R):Kn n (cg R):=fun i j hi hs=>by
 induction hs with
 | refl=>exact hi
 | step h1 _ ih=>exact ih (h _ _ hi h1)
theorem zgi {n:Nat} {R S:Nat->Nat->Prop} (h:Kn n R) (h2:Kn n S):Kn n (Cmp R S):=fun i j hi ⟨m,h3,h4⟩=>h2 m j (h i m hi h3) h4
inductive aw where
 | mk (op:Int) (cls:List Int) (kids:List aw)
mutual
def aN (c:List Int):aw->Nat->Nat->Prop
 | .mk op cls kids=>fun i k=>
  if op=1 then k=i+1/\∃z,c[i]? =some z/\z∈cls
  else if op=2 then cv c kids i k
  else if op=3 then bP c kids i k
  else if op=4 then cg (cE c kids) i k
  else if op=5 then Cmp (cE c kids) (cg (cE c kids)) i k
  else if op=6 then i=k\/cE c kids i k
  else i=k
def cv (c:List Int):List aw->Nat->Nat->Prop
 | []=>fun i k=>i=k
 | p::ps=>Cmp (aN c p) (cv c ps)
def bP (c:List Int):List aw->Nat->Nat->Prop
 | []=>fun _ _=>False
 | p::ps=>fun i k=>aN c p i k\/bP c ps i k
def cE (c:List Int):List aw->Nat->Nat->Prop
 | []=>fun _ _=>False
 | p::_=>aN c p
end
mutual
theorem zas (c:List Int):∀p,Kn (c.length+1) (aN c p)
 | .mk op cls kids=>by
  intro i j hi h;unfold aN at h
  split at h
  ·obtain⟨h1,z,h2,_⟩:=h
   have:=(sJ.1 h2).1;omega
  ·split at h
   ·exact zhA c kids i j hi h
   ·split at h
    ·exact zhE c kids i j hi h
    ·split at h
     ·exact zgP (nH c kids) i j hi h
     ·split at h
      ·exact zgi (nH c kids) (zgP (nH c kids)) i j hi h
      ·split at h
       ·rcases h with h | h
        ·omega
        ·exact nH c kids i j hi h
       ·omega
theorem zhA (c:List Int):∀ps,Kn (c.length+1) (cv c ps)
 | []=>fun i j hi h=>by unfold cv at h;omega
 | p::ps=>fun i j hi h=>by unfold cv at h;exact zgi (zas c p) (zhA c ps) i j hi h
theorem zhE (c:List Int):∀ps,Kn (c.length+1) (bP c ps)
 | []=>fun i j hi h=>by unfold bP at h;exact h.elim
 | p::ps=>fun i j hi h=>by
  unfold bP at h
  rcases h with h | h
  ·exact zas c p i j hi h
  ·exact zhE c ps i j hi h
theorem nH (c:List Int):∀ps,Kn (c.length+1) (cE c ps)
 | []=>fun i j hi h=>by unfold cE at h;exact h.elim
 | p::ps=>fun i j hi h=>by unfold cE at h;exact zas c p i j hi h
end
theorem zvm (R:Nat->Nat->Prop):Cmp (fun i k=>i=k) R=R:=by
 funext i k
 exact propext ⟨fun⟨j,h1,h2⟩=>h1 ▸ h2,fun h=>⟨i,rfl,h⟩⟩
theorem zkb (R S T:Nat->Nat->Prop):Cmp (Cmp R S) T=Cmp R (Cmp S T):=by
 funext i k
 exact propext ⟨fun⟨j,⟨m,h1,h2⟩,h3⟩=>⟨m,h1,j,h2,h3⟩,fun⟨m,h1,j,h2,h3⟩=>⟨j,⟨m,h1,h2⟩,h3⟩⟩
theorem zif (R:Nat->Nat->Prop):Cmp R (fun i k=>i=k)=R:=by
 funext i k
 exact propext ⟨fun⟨j,h1,h2⟩=>h2 ▸ h1,fun h=>⟨k,h,rfl⟩⟩
theorem ca (c:List Int):cv c []=fun i k=>i=k:=by rw[cv]
theorem bV (c:List Int) (p:aw) (ps:List aw):cv c (p::ps)=Cmp (aN c p) (cv c ps):=by rw[cv]
theorem kK (c:List Int):∀(a b:List aw),cv c (a++b)=Cmp (cv c a) (cv c b)
 | [],b=>by simp only[List.nil_append];rw[ca,zvm]
 | p::a,b=>by
  rw[sN,bV,kK c a b,<- zkb,bV]
theorem zjH (c:List Int) (ks:List aw) (j:Nat) (h:j<ks.length):cv c (ks.take (j+1))=Cmp (cv c (ks.take j)) (aN c ks[j]):=by
 rw[sH h,kK]
 congr 1
 rw[bV,ca,zif]
theorem zjI (c:List Int) (ks:List aw) (j:Nat) (h:j<ks.length) (i k:Nat):bP c (ks.take (j+1)) i k ↔ (bP c (ks.take j) i k\/aN c ks[j] i k):=by
 rw[sH h]
 generalize ks.take j=a
 induction a with
 | nil=>simp[bP]
 | cons p a ih=>simp only[sN,bP,ih,or_assoc]
theorem dy {R:Nat->Nat->Prop} (h:∀i k,R i k->i<=k) {i k:Nat} (hs:cg R i k):i<=k:=by
 induction hs with
 | refl=>exact sO _
 | step h1 _ ih=>exact sM (h _ _ h1) ih
mutual
theorem jV (c:List Int):∀p i k,aN c p i k->i<=k
 | .mk op cls kids,i,k,h=>by
  have H:=gA c kids;unfold aN at h
  split at h
  ·omega
  ·split at h
   ·exact kJ c kids i k h
   ·split at h
    ·exact zhD c kids i k h
    ·split at h
     ·exact dy H h
     ·split at h
      ·obtain⟨j,h1,h2⟩:=h
       exact sM (H _ _ h1) (dy H h2)
      ·split at h
       ·rcases h with h | h
        ·omega
        ·exact H _ _ h
       ·omega
theorem kJ (c:List Int):∀ps i k,cv c ps i k->i<=k
 | [],i,k,h=>by rw[ca] at h;omega
 | p::ps,i,k,h=>by
  rw[bV] at h;obtain⟨j,h1,h2⟩:=h;exact sM (jV c p _ _ h1) (kJ c ps _ _ h2)
theorem zhD (c:List Int):∀ps i k,bP c ps i k->i<=k
 | [],i,k,h=>by unfold bP at h;exact h.elim
 | p::ps,i,k,h=>by
  unfold bP at h
  rcases h with h | h
  ·exact jV c p _ _ h
  ·exact zhD c ps _ _ h
theorem gA (c:List Int):∀ps i k,cE c ps i k->i<=k
 | [],i,k,h=>by unfold cE at h;exact h.elim
 | p::ps,i,k,h=>by unfold cE at h;exact jV c p _ _ h
end
theorem zbD {R S:Nat->Nat->Prop} {f:Nat->Nat} (h:∀i k,R i k->S (f i) (f k)) {i k:Nat} (hs:cg R i k):cg S (f i) (f k):=by
 induction hs with
 | refl=>exact .refl _
 | step h1 _ ih=>exact .step (h _ _ h1) ih
structure Wn (c d:List Int) (a:Nat):Prop where
 at_:∀i z,c[i]? =some z->d[a+i]? =some z
mutual
theorem o7 {c d:List Int} {a:Nat} (W:Wn c d a):∀p i k,aN c p i k->aN d p (a+i) (a+k)
 | .mk op cls kids,i,k,h=>by
  have H:=zpZ W kids;unfold aN at h⊢
  split at h
  ·rename_i e
   rw[if_pos e];obtain⟨h1,z,h2,h3⟩:=h;exact⟨by omega,z,W.at_ i z h2,h3⟩
  ·rename_i e
   rw[if_neg e]
   split at h
   ·rename_i e
    rw[if_pos e];exact zhz W kids i k h
   ·rename_i e
    rw[if_neg e]
    split at h
    ·rename_i e
     rw[if_pos e];exact zhC W kids i k h
    ·rename_i e
     rw[if_neg e]
     split at h
     ·rename_i e
      rw[if_pos e];exact zbD H h
     ·rename_i e
      rw[if_neg e]
      split at h
      ·rename_i e
       rw[if_pos e];obtain⟨j,h1,h2⟩:=h;exact⟨a+j,H _ _ h1,zbD H h2⟩
      ·rename_i e
       rw[if_neg e]
       split at h
       ·rename_i e
        rw[if_pos e]
        rcases h with h | h
        ·exact .inl (by omega)
        ·exact .inr (H _ _ h)
       ·rename_i e
        rw[if_neg e];omega
theorem zhz {c d:List Int} {a:Nat} (W:Wn c d a):∀ps i k,cv c ps i k->cv d ps (a+i) (a+k)
 | [],i,k,h=>by rw[ca] at h⊢;omega
 | p::ps,i,k,h=>by
  rw[bV] at h⊢;obtain⟨j,h1,h2⟩:=h;exact⟨a+j,o7 W p _ _ h1,zhz W ps _ _ h2⟩
theorem zhC {c d:List Int} {a:Nat} (W:Wn c d a):∀ps i k,bP c ps i k->bP d ps (a+i) (a+k)
 | [],i,k,h=>by unfold bP at h;exact h.elim
 | p::ps,i,k,h=>by
  unfold bP at h⊢
  rcases h with h | h
  ·exact .inl (o7 W p _ _ h)
  ·exact .inr (zhC W ps _ _ h)
theorem zpZ {c d:List Int} {a:Nat} (W:Wn c d a):∀ps i k,cE c ps i k->cE d ps (a+i) (a+k)
 | [],i,k,h=>by unfold cE at h;exact h.elim
 | p::ps,i,k,h=>by unfold cE at h⊢;exact o7 W p _ _ h
end
theorem qw {R S : Nat → Nat → Prop} {a m : Nat} (hS : ∀ i k, S i k → i ≤ k) (h : ∀ i k, a + k ≤ m → S (a + i) (a + k) → R i k) {x y : Nat} (hs : cg S x y) : ∀ i k, x = a + i → y = a + k → y ≤ m → cg R i k := by
  induction hs with
  | refl x => intro i k h1 h2 _; have : i = k := by omega
              exact this ▸ .refl _
  | @step x j y h1 h2 ih =>
    intro i k e1 e2 h3
    have h4 := hS _ _ h1
    have h5 := dy hS h2
    obtain ⟨j', rfl⟩ : ∃ j', j = a + j' := ⟨j - a, by omega⟩
    subst e1
    exact .step (h i j' (by omega) h1) (ih j' k rfl e2 h3)
mutual
theorem o9 {c d:List Int} {a:Nat} (W:∀i,i<c.length->c[i]? =d[a+i]?):∀p i k,k<=c.length->aN d p (a+i) (a+k)->aN c p i k
 | .mk op cls kids,i,k,hk,h=>by
  have H:=zqa W kids;have HL:=gA d kids;unfold aN at h⊢
  split at h
  ·rename_i e
   rw[if_pos e];obtain⟨h1,z,h2,h3⟩:=h;exact⟨by omega,z,(W i (by omega)).trans h2,h3⟩
  ·rename_i e
   rw[if_neg e]
   split at h
   ·rename_i e
    rw[if_pos e];exact zhB W kids i k hk h
   ·rename_i e
    rw[if_neg e]
    split at h
    ·rename_i e
     rw[if_pos e];exact zhF W kids i k hk h
    ·rename_i e
     rw[if_neg e]
     split at h
     ·rename_i e
      rw[if_pos e];exact qw (m:=a+c.length) HL (fun i k h1 h2=>H i k (by omega) h2) h i k rfl rfl (by omega)
     ·rename_i e
      rw[if_neg e]
      split at h
      ·rename_i e
       rw[if_pos e];obtain⟨j,h1,h2⟩:=h;have h4:=HL _ _ h1;have h5:=dy HL h2;obtain⟨j',rfl⟩:∃j',j=a+j':=⟨j - a,by omega⟩
       exact⟨j',H i j' (by omega) h1,qw (m:=a+c.length) HL (fun i k h1 h2=>H i k (by omega) h2) h2 j' k rfl rfl (by omega)⟩
      ·rename_i e
       rw[if_neg e]
       split at h
       ·rename_i e
        rw[if_pos e]
        rcases h with h | h
        ·exact .inl (by omega)
        ·exact .inr (H _ _ hk h)
       ·rename_i e
        rw[if_neg e];omega
theorem zhB {c d:List Int} {a:Nat} (W:∀i,i<c.length->c[i]? =d[a+i]?):∀ps i k,k<=c.length->cv d ps (a+i) (a+k)->cv c ps i k
 | [],i,k,hk,h=>by rw[ca] at h⊢;omega
 | p::ps,i,k,hk,h=>by
  rw[bV] at h⊢;obtain⟨j,h1,h2⟩:=h;have h4:=jV d p _ _ h1;have h5:=kJ d ps _ _ h2;obtain⟨j',rfl⟩:∃j',j=a+j':=⟨j - a,by omega⟩
  exact⟨j',o9 W p _ _ (by omega) h1,zhB W ps _ _ hk h2⟩
theorem zhF {c d:List Int} {a:Nat} (W:∀i,i<c.length->c[i]? =d[a+i]?):∀ps i k,k<=c.length->bP d ps (a+i) (a+k)->bP c ps i k
 | [],i,k,hk,h=>by unfold bP at h;exact h.elim
 | p::ps,i,k,hk,h=>by
  unfold bP at h⊢
  rcases h with h | h
  ·exact .inl (o9 W p _ _ hk h)
  ·exact .inr (zhF W ps _ _ hk h)
theorem zqa {c d:List Int} {a:Nat} (W:∀i,i<c.length->c[i]? =d[a+i]?):∀ps i k,k<=c.length->cE d ps (a+i) (a+k)->cE c ps i k
 | [],i,k,hk,h=>by unfold cE at h;exact h.elim
 | p::ps,i,k,hk,h=>by unfold cE at h⊢;exact o9 W p _ _ hk h
end
theorem zna (c:List Int) (p:aw) (m i k:Nat) (hm:m<=c.length) (hk:k<=m):aN (c.take m) p i k ↔ aN c p i k:=by
 have hl:(c.take m).length=m:=by rw[List.length_take];omega
 constructor
 ·intro h
  have:=o7 (c:=c.take m) (d:=c) (a:=0) ⟨fun i z hz=>by
   have h1:=(sJ.1 hz).1;rw[sP];rw[sK (by omega)] at hz
   exact hz⟩ p i k h
  simpa using this
 ·intro h
  refine o9 (c:=c.take m) (d:=c) (a:=0) (fun i hi=>?_) p i k (by omega) (by simpa using h)
  rw[sP,sK (by omega)]
theorem znb (c:List Int) (p:aw) (m i k:Nat) (hm:m<=c.length) (hk:m+k<=c.length):aN (c.drop m) p i k ↔ aN c p (m+i) (m+k):=by
 constructor
 ·intro h
  exact o7 (c:=c.drop m) (d:=c) (a:=m) ⟨fun i z hz=>by rw[sL] at hz;exact hz⟩ p i k h
 ·intro h
  exact o9 (c:=c.drop m) (d:=c) (a:=m) (fun i hi=>by rw[sL]) p i k (by rw[List.length_drop];omega) h
end Pt
end
namespace Br
def bds (p:Nat) (P:List (Nat × Nat)):List Nat:=p::P.map (·.2)
end Br
end Go.Proofs.YtbbapnpdfcgjnaaGreatDoor
