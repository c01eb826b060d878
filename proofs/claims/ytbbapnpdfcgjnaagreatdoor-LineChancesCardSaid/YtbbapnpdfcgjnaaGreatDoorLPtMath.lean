/- PtMath, ChMath: parts of the proof, joined. -/
import Derived.Test.YtbbapnpdfcgjnaaGreatDoorProg
open List renaming take_succ_eq_append_getElem->xa, getElem?_eq_some_iff->xd, getElem?_take_of_lt->xe, getElem?_drop->xf, cons_append->xh
open Bool renaming or_eq_true->xb
open Nat renaming le_trans->xg, le_refl->xi, zero_add->xj
set_option maxHeartbeats 64000000
namespace Go.Proofs.YtbbapnpdfcgjnaaGreatDoor
section
namespace Pt
inductive zcR (R:Nat->Nat->Prop):Nat->Nat->Prop where
 | refl (i:Nat):zcR R i i
 | step {i j k:Nat}:R i j->zcR R j k->zcR R i k
theorem zcR.trans {R:Nat->Nat->Prop} {i j k:Nat} (h:zcR R i j) (h2:zcR R j k):zcR R i k:=by
 induction h with
 | refl=>exact h2
 | step a _ ih=>exact .step a (ih h2)
def Pk (a:Nat->Nat->Prop):Nat->Nat->Nat->Prop
 | 0=>fun i j=>i=j\/a i j
 | K+1=>fun i j=>Pk a K i j\/(Pk a K i K/\Pk a K K j)
theorem zio {a:Nat->Nat->Prop}:∀(K i j:Nat),Pk a K i j->zcR a i j
 | 0,i,j,h=>by
  rcases h with h | h
  ·exact h ▸ .refl i
  ·exact .step h (.refl _)
 | K+1,i,j,h=>by
  rcases h with h | ⟨h,h2⟩
  ·exact zio K i j h
  ·exact(zio K i K h).trans (zio K K j h2)
theorem zAx {a:Nat->Nat->Prop} {i j:Nat}:∀(K:Nat),Pk a 0 i j->Pk a K i j
 | 0,h=>h
 | K+1,h=>.inl (zAx K h)
inductive Pth (a:Nat->Nat->Prop):Nat->List Nat->Nat->Prop where
 | one {i j:Nat}:a i j->Pth a i [] j
 | more {i m j:Nat} {l:List Nat}:a i m->Pth a m l j->Pth a i (m::l) j
theorem zfM {a:Nat->Nat->Prop} {m:Nat}:∀(l1:List Nat) {i j:Nat} {l2:List Nat},Pth a i (l1++m::l2) j->Pth a i l1 m/\Pth a m l2 j
 | [],i,j,l2,h=>by
  cases h with
  | more h1 h2=>exact⟨.one h1,h2⟩
 | x::l1,i,j,l2,h=>by
  cases h with
  | more h1 h2=>
   obtain⟨k1,k2⟩:=zfM l1 h2;exact⟨.more h1 k1,k2⟩
theorem zdF (K:Nat):∀(l:List Nat),K∈l->∃l1 l2,l=l1++K::l2/\K ∉ l1
 | [],h=>by cases h
 | x::l,h=>by
  by_cases e:x=K
  ·exact⟨[],l,by rw[e];rfl,by simp⟩
  ·have h2:K∈l:=by
    cases h with
    | head=>exact absurd rfl e
    | tail _ h=>exact h
   obtain⟨l1,l2,h3,h4⟩:=zdF K l h2;exact⟨x::l1,l2,by rw[h3];rfl,fun h5=>by
    cases h5 with
    | head=>exact e rfl
    | tail _ h=>exact h4 h⟩
theorem zjW {a:Nat->Nat->Prop}:∀(K:Nat) (i:Nat) (l:List Nat) (j:Nat),(∀x∈l,x<K)->Pth a i l j->Pk a K i j
 | 0,i,l,j,hl,h=>by
  cases h with
  | one h=>exact .inr h
  | more h1 h2=>exact absurd (hl _ (List.mem_cons_self ..)) (by omega)
 | K+1,i,l,j,hl,h=>by
  have small:∀(l:List Nat),(∀x∈l,x<K+1)->K ∉ l->∀x∈l,x<K:=fun l hl hK x hx=>by
   have:=hl x hx;have:x≠K:=fun e=>hK (e ▸ hx)
   omega
  have behind:∀(n:Nat) (l:List Nat),l.length<=n->(∀x∈l,x<K+1)->Pth a K l j->Pk a K K j:=by
   intro n
   induction n with
   | zero=>
    intro l hn hl h;have:l=[]:=List.length_eq_zero_iff.1 (by omega)
    subst this;exact zjW K K [] j (fun x hx=>by cases hx) h
   | succ n ih=>
    intro l hn hl h
    by_cases hK:K∈l
    ·obtain⟨l1,l2,rfl,h4⟩:=zdF K l hK
     simp only[List.length_append,List.length_cons] at hn
     exact ih l2 (by omega) (fun x hx=>hl x (by simp[hx])) (zfM l1 h).2
    ·exact zjW K K l j (small l hl hK) h
  by_cases hK:K∈l
  ·obtain⟨l1,l2,rfl,h4⟩:=zdF K l hK
   obtain⟨h5,h6⟩:=zfM l1 h;exact .inr ⟨zjW K i l1 K (small l1 (fun x hx=>hl x (by simp[hx])) h4) h5,behind _ l2 (xi _) (fun x hx=>hl x (by simp[hx])) h6⟩
  ·exact .inl (zjW K i l j (small l hl hK) h)
theorem zvV {a:Nat->Nat->Prop} {n:Nat} (hb:∀i j,i<n->a i j->j<n) {i j:Nat} (h:zcR a i j):i<n->i=j\/∃l,(∀x∈l,x<n)/\Pth a i l j:=by
 induction h with
 | refl i=>exact fun _=>.inl rfl
 | step h1 h2 ih=>
  intro hi;have hj:=hb _ _ hi h1
  rcases ih hj with e | ⟨l,hl,hp⟩
  ·exact .inr ⟨[],(fun x hx=>by cases hx),.one (e ▸ h1)⟩
  ·refine .inr ⟨_::l,fun x hx=>?_,.more h1 hp⟩
   cases hx with
   | head=>exact hj
   | tail _ h=>exact hl x h
theorem zCF {a:Nat->Nat->Prop} {n:Nat} (hb:∀i j,i<n->a i j->j<n) {i j:Nat} (hi:i<n):Pk a n i j ↔ zcR a i j:=
 ⟨zio n i j,fun h=>by
  rcases zvV hb h hi with e | ⟨l,hl,hp⟩
  ·exact zAx n (.inl e)
  ·exact zjW n i l j hl hp⟩
def bt (r:Nat->Nat) (k:Nat):Bool:=(r (k / 64)).testBit (k % 64)
def Rep (n:Nat) (W:Nat->Nat->Nat) (R:Nat->Nat->Prop):Prop:=∀i k,i<n->k<n->(bt (W i) k=true ↔ R i k)
def orR (r o:Nat->Nat):Nat->Nat:=fun j=>r j ||| o j
theorem zqA (r o:Nat->Nat) (k:Nat):bt (orR r o) k=(bt r k || bt o k):=by simp[bt,orR]
def stR (r:Nat->Nat) (k:Nat):Nat->Nat:=fun j=>if j=k / 64 then r j ||| 2 ^ (k % 64) else r j
theorem zGw (r:Nat->Nat) (k x:Nat):bt (stR r k) x=(bt r x || decide (x=k)):=by
 unfold bt stR
 by_cases h:x / 64=k / 64
 ·rw[if_pos h]
  rw[Nat.testBit_or,Nat.testBit_two_pow]
  congr 1
  by_cases e:x=k
  ·subst e;simp
  ·have:¬k % 64=x % 64:=by omega
   simp[e,this]
 ·rw[if_neg h]
  have:¬x=k:=fun e=>h (by rw[e])
  simp[this]
def bhR (n:Nat) (a:Nat->Nat) (B:Nat->Nat->Nat):Nat->Nat->Nat
 | 0=>fun _=>0
 | k+1=>if bt a k=true then orR (bhR n a B k) (B k) else bhR n a B k
theorem zxU (n:Nat) (a:Nat->Nat) (B:Nat->Nat->Nat) (x:Nat):∀k,bt (bhR n a B k) x=true ↔ ∃j,j<k/\bt a j=true/\bt (B j) x=true
 | 0=>by simp[bhR,bt]
 | k+1=>by
  unfold bhR
  constructor
  ·intro h
   split at h
   ·rename_i hk
    rw[zqA,xb] at h
    rcases h with h | h
    ·obtain⟨j,h1,h2⟩:=(zxU n a B x k).1 h
     exact⟨j,by omega,h2⟩
    ·exact⟨k,by omega,hk,h⟩
   ·obtain⟨j,h1,h2⟩:=(zxU n a B x k).1 h
    exact⟨j,by omega,h2⟩
  ·rintro ⟨j,h1,h2,h3⟩
   by_cases e:j=k
   ·subst e
    rw[if_pos h2,zqA,h3,Bool.or_true]
   ·have h4:=(zxU n a B x k).2 ⟨j,by omega,h2,h3⟩
    split
    ·rw[zqA,h4,Bool.true_or]
    ·exact h4
def mrI (W:Nat->Nat->Nat) (k:Nat):Nat->Nat->Nat->Nat
 | 0=>W
 | i+1=>fun x=>if x=i/\bt (mrI W k i i) k=true then orR (mrI W k i i) (mrI W k i k) else mrI W k i x
def mrK (n:Nat) (W:Nat->Nat->Nat):Nat->Nat->Nat->Nat
 | 0=>W
 | k+1=>mrI (mrK n W k) k n
theorem zsk (W:Nat->Nat->Nat) (k y:Nat) (hk:bt (W k) k=true):∀i x,bt (mrI W k i x) y=if x<i then (bt (W x) y || (bt (W x) k&&bt (W k) y)) else bt (W x) y
 | 0,x=>by simp[mrI]
 | i+1,x=>by
  have ih:=zsk W k y hk i;have ihk:=zsk W k k hk i;have hrow:bt (mrI W k i k) y=bt (W k) y:=by
   rw[ih k];split
   ·cases bt (W k) y<;>simp[hk]
   ·rfl
  have hcol:bt (mrI W k i i) k=bt (W i) k:=by rw[ihk i];simp
  have hself:bt (mrI W k i i) y=bt (W i) y:=by rw[ih i];simp
  unfold mrI
  by_cases e:x=i
  ·subst e
   rw[if_pos (Nat.lt_succ_self x)]
   by_cases hb:bt (W x) k=true
   ·rw[if_pos ⟨rfl,by rw[hcol];exact hb⟩,zqA,hrow,hself,hb,Bool.true_and]
   ·rw[if_neg (fun h=>hb (by rw[<- hcol];exact h.2)),hself]
    simp[hb]
  ·rw[if_neg (fun h=>e h.1),ih x]
   by_cases h:x<i
   ·rw[if_pos h,if_pos (by omega)]
   ·rw[if_neg h,if_neg (by omega)]
theorem zsj (n:Nat) (W:Nat->Nat->Nat) (a:Nat->Nat->Prop) (h:Rep n W (Pk a 0)):∀k,k<=n->Rep n (mrK n W k) (Pk a k)
 | 0,_=>h
 | k+1,hk=>by
  have ih:=zsj n W a h k (by omega)
  have hkk:bt (mrK n W k k) k=true:=(ih k k (by omega) (by omega)).2 (zAx k (.inl rfl))
  intro i j hi hj
  show bt (mrI (mrK n W k) k n i) j=true ↔ _
  rw[zsk _ _ _ hkk,if_pos hi,xb,Bool.and_eq_true,ih i j hi hj,ih i k hi (by omega),ih k j (by omega) hj]
  rfl
theorem Rep.congr {n:Nat} {W:Nat->Nat->Nat} {R S:Nat->Nat->Prop} (h:Rep n W R) (e:∀i k,i<n->k<n->(R i k ↔ S i k)):Rep n W S:=fun i k hi hk=>(h i k hi hk).trans (e i k hi hk)
theorem zwl (n:Nat):Rep n (fun _ _=>0) (fun _ _=>False):=fun i k _ _=>by simp[bt]
theorem zfK (n:Nat):Rep n (fun i=>stR (fun _=>0) i) (fun i k=>i=k):=fun i k _ _=>by
 simp only[]
 rw[zGw]
 simp[bt,eq_comm]
theorem zif {n:Nat} {A B:Nat->Nat->Nat} {R S:Nat->Nat->Prop} (h:Rep n A R) (h2:Rep n B S):Rep n (fun i=>orR (orR (fun _=>0) (A i)) (B i)) (fun i k=>R i k\/S i k):=fun i k hi hk=>by
 simp only[]
 rw[zqA,zqA,xb,xb,h i k hi hk,h2 i k hi hk]
 simp[bt]
def Cmp (R S:Nat->Nat->Prop) (i k:Nat):Prop:=∃j,R i j/\S j k
def Kn (n:Nat) (R:Nat->Nat->Prop):Prop:=∀i j,i<n->R i j->j<n
theorem zhp {n:Nat} {A B:Nat->Nat->Nat} {R S:Nat->Nat->Prop} (h:Rep n A R) (h2:Rep n B S) (hk:Kn n R):Rep n (fun i=>bhR n (A i) B n) (Cmp R S):=fun i k hi hk2=>by
 simp only[]
 rw[zxU]
 constructor
 ·rintro ⟨j,h3,h4,h5⟩
  exact⟨j,(h i j hi h3).1 h4,(h2 j k h3 hk2).1 h5⟩
 ·rintro ⟨j,h3,h4⟩
  have h5:=hk i j hi h3;exact⟨j,h5,(h i j hi h5).2 h3,(h2 j k h5 hk2).2 h4⟩
theorem zoa {n:Nat} {A B:Nat->Nat->Nat} {R:Nat->Nat->Prop} (h:Rep n A R) (hB:Rep n B (fun i k=>i=k)) (hk:Kn n R):Rep n (mrK n (fun i=>orR (orR (fun _=>0) (A i)) (B i)) n) (zcR R):=by
 have h0:Rep n (fun i=>orR (orR (fun _=>0) (A i)) (B i)) (Pk R 0):=(zif h hB).congr fun i k _ _=>⟨Or.symm,Or.symm⟩
 exact(zsj n _ R h0 n (xi _)).congr fun i k hi _=>zCF hk hi
theorem zrj {n:Nat} {R:Nat->Nat->Prop} (h:Kn n R):Kn n (zcR R):=fun i j hi hs=>by
 induction hs with
 | refl=>exact hi
 | step h1 _ ih=>exact ih (h _ _ hi h1)
theorem zuP {n:Nat} {R S:Nat->Nat->Prop} (h:Kn n R) (h2:Kn n S):Kn n (Cmp R S):=fun i j hi ⟨m,h3,h4⟩=>h2 m j (h i m hi h3) h4
inductive Pat where
 | mk (op:Int) (cls:List Int) (kids:List Pat)
mutual
def led (c:List Int):Pat->Nat->Nat->Prop
 | .mk op cls kids=>fun i k=>
  if op=1 then k=i+1/\∃z,c[i]? =some z/\z∈cls
  else if op=2 then zcX c kids i k
  else if op=3 then zcn c kids i k
  else if op=4 then zcR (zdm c kids) i k
  else if op=5 then Cmp (zdm c kids) (zcR (zdm c kids)) i k
  else if op=6 then i=k\/zdm c kids i k
  else i=k
def zcX (c:List Int):List Pat->Nat->Nat->Prop
 | []=>fun i k=>i=k
 | p::ps=>Cmp (led c p) (zcX c ps)
def zcn (c:List Int):List Pat->Nat->Nat->Prop
 | []=>fun _ _=>False
 | p::ps=>fun i k=>led c p i k\/zcn c ps i k
def zdm (c:List Int):List Pat->Nat->Nat->Prop
 | []=>fun _ _=>False
 | p::_=>led c p
end
mutual
theorem zov (c:List Int):∀p,Kn (c.length+1) (led c p)
 | .mk op cls kids=>by
  intro i j hi h;unfold led at h
  split at h
  ·obtain⟨h1,z,h2,_⟩:=h
   have:=(xd.1 h2).1;omega
  ·split at h
   ·exact ztO c kids i j hi h
   ·split at h
    ·exact ztT c kids i j hi h
    ·split at h
     ·exact zrj (ziI c kids) i j hi h
     ·split at h
      ·exact zuP (ziI c kids) (zrj (ziI c kids)) i j hi h
      ·split at h
       ·rcases h with h | h
        ·omega
        ·exact ziI c kids i j hi h
       ·omega
theorem ztO (c:List Int):∀ps,Kn (c.length+1) (zcX c ps)
 | []=>fun i j hi h=>by unfold zcX at h;omega
 | p::ps=>fun i j hi h=>by unfold zcX at h;exact zuP (zov c p) (ztO c ps) i j hi h
theorem ztT (c:List Int):∀ps,Kn (c.length+1) (zcn c ps)
 | []=>fun i j hi h=>by unfold zcn at h;exact h.elim
 | p::ps=>fun i j hi h=>by
  unfold zcn at h
  rcases h with h | h
  ·exact zov c p i j hi h
  ·exact ztT c ps i j hi h
theorem ziI (c:List Int):∀ps,Kn (c.length+1) (zdm c ps)
 | []=>fun i j hi h=>by unfold zdm at h;exact h.elim
 | p::ps=>fun i j hi h=>by unfold zdm at h;exact zov c p i j hi h
end
theorem zGt (R:Nat->Nat->Prop):Cmp (fun i k=>i=k) R=R:=by
 funext i k
 exact propext ⟨fun⟨j,h1,h2⟩=>h1 ▸ h2,fun h=>⟨i,rfl,h⟩⟩
theorem zuR (R S T:Nat->Nat->Prop):Cmp (Cmp R S) T=Cmp R (Cmp S T):=by
 funext i k
 exact propext ⟨fun⟨j,⟨m,h1,h2⟩,h3⟩=>⟨m,h1,j,h2,h3⟩,fun⟨m,h1,j,h2,h3⟩=>⟨j,⟨m,h1,h2⟩,h3⟩⟩
theorem zuQ (R:Nat->Nat->Prop):Cmp R (fun i k=>i=k)=R:=by
 funext i k
 exact propext ⟨fun⟨j,h1,h2⟩=>h2 ▸ h1,fun h=>⟨k,h,rfl⟩⟩
theorem zbh (c:List Int):zcX c []=fun i k=>i=k:=by rw[zcX]
theorem zaY (c:List Int) (p:Pat) (ps:List Pat):zcX c (p::ps)=Cmp (led c p) (zcX c ps):=by rw[zcX]
theorem zfo (c:List Int):∀(a b:List Pat),zcX c (a++b)=Cmp (zcX c a) (zcX c b)
 | [],b=>by simp only[List.nil_append];rw[zbh,zGt]
 | p::a,b=>by
  rw[xh,zaY,zfo c a b,<- zuR,zaY]
theorem ztN (c:List Int) (ks:List Pat) (j:Nat) (h:j<ks.length):zcX c (ks.take (j+1))=Cmp (zcX c (ks.take j)) (led c ks[j]):=by
 rw[xa h,zfo]
 congr 1
 rw[zaY,zbh,zuQ]
theorem ztR (c:List Int) (ks:List Pat) (j:Nat) (h:j<ks.length) (i k:Nat):zcn c (ks.take (j+1)) i k ↔ (zcn c (ks.take j) i k\/led c ks[j] i k):=by
 rw[xa h]
 generalize ks.take j=a
 induction a with
 | nil=>simp[zcn]
 | cons p a ih=>simp only[xh,zcn,ih,or_assoc]
theorem zbN {R:Nat->Nat->Prop} (h:∀i k,R i k->i<=k) {i k:Nat} (hs:zcR R i k):i<=k:=by
 induction hs with
 | refl=>exact xi _
 | step h1 _ ih=>exact xg (h _ _ h1) ih
mutual
theorem zgi (c:List Int):∀p i k,led c p i k->i<=k
 | .mk op cls kids,i,k,h=>by
  have H:=zdJ c kids;unfold led at h
  split at h
  ·omega
  ·split at h
   ·exact zgj c kids i k h
   ·split at h
    ·exact ztS c kids i k h
    ·split at h
     ·exact zbN H h
     ·split at h
      ·obtain⟨j,h1,h2⟩:=h
       exact xg (H _ _ h1) (zbN H h2)
      ·split at h
       ·rcases h with h | h
        ·omega
        ·exact H _ _ h
       ·omega
theorem zgj (c:List Int):∀ps i k,zcX c ps i k->i<=k
 | [],i,k,h=>by rw[zbh] at h;omega
 | p::ps,i,k,h=>by
  rw[zaY] at h;obtain⟨j,h1,h2⟩:=h;exact xg (zgi c p _ _ h1) (zgj c ps _ _ h2)
theorem ztS (c:List Int):∀ps i k,zcn c ps i k->i<=k
 | [],i,k,h=>by unfold zcn at h;exact h.elim
 | p::ps,i,k,h=>by
  unfold zcn at h
  rcases h with h | h
  ·exact zgi c p _ _ h
  ·exact ztS c ps _ _ h
theorem zdJ (c:List Int):∀ps i k,zdm c ps i k->i<=k
 | [],i,k,h=>by unfold zdm at h;exact h.elim
 | p::ps,i,k,h=>by unfold zdm at h;exact zgi c p _ _ h
end
theorem znC {R S:Nat->Nat->Prop} {f:Nat->Nat} (h:∀i k,R i k->S (f i) (f k)) {i k:Nat} (hs:zcR R i k):zcR S (f i) (f k):=by
 induction hs with
 | refl=>exact .refl _
 | step h1 _ ih=>exact .step (h _ _ h1) ih
structure Wn (c d:List Int) (a:Nat):Prop where
 at_:∀i z,c[i]? =some z->d[a+i]? =some z
mutual
theorem zko {c d:List Int} {a:Nat} (W:Wn c d a):∀p i k,led c p i k->led d p (a+i) (a+k)
 | .mk op cls kids,i,k,h=>by
  have H:=zAR W kids;unfold led at h⊢
  split at h
  ·rename_i e
   rw[if_pos e];obtain⟨h1,z,h2,h3⟩:=h;exact⟨by omega,z,W.at_ i z h2,h3⟩
  ·rename_i e
   rw[if_neg e]
   split at h
   ·rename_i e
    rw[if_pos e];exact ztM W kids i k h
   ·rename_i e
    rw[if_neg e]
    split at h
    ·rename_i e
     rw[if_pos e];exact ztQ W kids i k h
    ·rename_i e
     rw[if_neg e]
     split at h
     ·rename_i e
      rw[if_pos e];exact znC H h
     ·rename_i e
      rw[if_neg e]
      split at h
      ·rename_i e
       rw[if_pos e];obtain⟨j,h1,h2⟩:=h;exact⟨a+j,H _ _ h1,znC H h2⟩
      ·rename_i e
       rw[if_neg e]
       split at h
       ·rename_i e
        rw[if_pos e]
        rcases h with h | h
        ·exact .inl (by omega)
        ·exact .inr (H _ _ h)
       ·rename_i e
        rw[if_neg e];omega
theorem ztM {c d:List Int} {a:Nat} (W:Wn c d a):∀ps i k,zcX c ps i k->zcX d ps (a+i) (a+k)
 | [],i,k,h=>by rw[zbh] at h⊢;omega
 | p::ps,i,k,h=>by
  rw[zaY] at h⊢;obtain⟨j,h1,h2⟩:=h;exact⟨a+j,zko W p _ _ h1,ztM W ps _ _ h2⟩
theorem ztQ {c d:List Int} {a:Nat} (W:Wn c d a):∀ps i k,zcn c ps i k->zcn d ps (a+i) (a+k)
 | [],i,k,h=>by unfold zcn at h;exact h.elim
 | p::ps,i,k,h=>by
  unfold zcn at h⊢
  rcases h with h | h
  ·exact .inl (zko W p _ _ h)
  ·exact .inr (ztQ W ps _ _ h)
theorem zAR {c d:List Int} {a:Nat} (W:Wn c d a):∀ps i k,zdm c ps i k->zdm d ps (a+i) (a+k)
 | [],i,k,h=>by unfold zdm at h;exact h.elim
 | p::ps,i,k,h=>by unfold zdm at h⊢;exact zko W p _ _ h
end
theorem zjB {R S : Nat → Nat → Prop} {a m : Nat} (hS : ∀ i k, S i k → i ≤ k) (h : ∀ i k, a + k ≤ m → S (a + i) (a + k) → R i k) {x y : Nat} (hs : zcR S x y) : ∀ i k, x = a + i → y = a + k → y ≤ m → zcR R i k := by
  induction hs with
  | refl x => intro i k h1 h2 _; have : i = k := by omega
              exact this ▸ .refl _
  | @step x j y h1 h2 ih =>
    intro i k e1 e2 h3
    have h4 := hS _ _ h1
    have h5 := zbN hS h2
    obtain ⟨j', rfl⟩ : ∃ j', j = a + j' := ⟨j - a, by omega⟩
    subst e1
    exact .step (h i j' (by omega) h1) (ih j' k rfl e2 h3)
mutual
theorem zkp {c d:List Int} {a:Nat} (W:∀i,i<c.length->c[i]? =d[a+i]?):∀p i k,k<=c.length->led d p (a+i) (a+k)->led c p i k
 | .mk op cls kids,i,k,hk,h=>by
  have H:=zAS W kids;have HL:=zdJ d kids;unfold led at h⊢
  split at h
  ·rename_i e
   rw[if_pos e];obtain⟨h1,z,h2,h3⟩:=h;exact⟨by omega,z,(W i (by omega)).trans h2,h3⟩
  ·rename_i e
   rw[if_neg e]
   split at h
   ·rename_i e
    rw[if_pos e];exact ztP W kids i k hk h
   ·rename_i e
    rw[if_neg e]
    split at h
    ·rename_i e
     rw[if_pos e];exact ztU W kids i k hk h
    ·rename_i e
     rw[if_neg e]
     split at h
     ·rename_i e
      rw[if_pos e];exact zjB (m:=a+c.length) HL (fun i k h1 h2=>H i k (by omega) h2) h i k rfl rfl (by omega)
     ·rename_i e
      rw[if_neg e]
      split at h
      ·rename_i e
       rw[if_pos e];obtain⟨j,h1,h2⟩:=h;have h4:=HL _ _ h1;have h5:=zbN HL h2;obtain⟨j',rfl⟩:∃j',j=a+j':=⟨j - a,by omega⟩
       exact⟨j',H i j' (by omega) h1,zjB (m:=a+c.length) HL (fun i k h1 h2=>H i k (by omega) h2) h2 j' k rfl rfl (by omega)⟩
      ·rename_i e
       rw[if_neg e]
       split at h
       ·rename_i e
        rw[if_pos e]
        rcases h with h | h
        ·exact .inl (by omega)
        ·exact .inr (H _ _ hk h)
       ·rename_i e
        rw[if_neg e];omega
theorem ztP {c d:List Int} {a:Nat} (W:∀i,i<c.length->c[i]? =d[a+i]?):∀ps i k,k<=c.length->zcX d ps (a+i) (a+k)->zcX c ps i k
 | [],i,k,hk,h=>by rw[zbh] at h⊢;omega
 | p::ps,i,k,hk,h=>by
  rw[zaY] at h⊢;obtain⟨j,h1,h2⟩:=h;have h4:=zgi d p _ _ h1;have h5:=zgj d ps _ _ h2;obtain⟨j',rfl⟩:∃j',j=a+j':=⟨j - a,by omega⟩
  exact⟨j',zkp W p _ _ (by omega) h1,ztP W ps _ _ hk h2⟩
theorem ztU {c d:List Int} {a:Nat} (W:∀i,i<c.length->c[i]? =d[a+i]?):∀ps i k,k<=c.length->zcn d ps (a+i) (a+k)->zcn c ps i k
 | [],i,k,hk,h=>by unfold zcn at h;exact h.elim
 | p::ps,i,k,hk,h=>by
  unfold zcn at h⊢
  rcases h with h | h
  ·exact .inl (zkp W p _ _ hk h)
  ·exact .inr (ztU W ps _ _ hk h)
theorem zAS {c d:List Int} {a:Nat} (W:∀i,i<c.length->c[i]? =d[a+i]?):∀ps i k,k<=c.length->zdm d ps (a+i) (a+k)->zdm c ps i k
 | [],i,k,hk,h=>by unfold zdm at h;exact h.elim
 | p::ps,i,k,hk,h=>by unfold zdm at h⊢;exact zkp W p _ _ hk h
end
theorem zwR (c:List Int) (p:Pat) (m i k:Nat) (hm:m<=c.length) (hk:k<=m):led (c.take m) p i k ↔ led c p i k:=by
 have hl:(c.take m).length=m:=by rw[List.length_take];omega
 constructor
 ·intro h
  have:=zko (c:=c.take m) (d:=c) (a:=0) ⟨fun i z hz=>by
   have h1:=(xd.1 hz).1;rw[xj];rw[xe (by omega)] at hz
   exact hz⟩ p i k h
  simpa using this
 ·intro h
  refine zkp (c:=c.take m) (d:=c) (a:=0) (fun i hi=>?_) p i k (by omega) (by simpa using h)
  rw[xj,xe (by omega)]
theorem zwS (c:List Int) (p:Pat) (m i k:Nat) (hm:m<=c.length) (hk:m+k<=c.length):led (c.drop m) p i k ↔ led c p (m+i) (m+k):=by
 constructor
 ·intro h
  exact zko (c:=c.drop m) (d:=c) (a:=m) ⟨fun i z hz=>by rw[xf] at hz;exact hz⟩ p i k h
 ·intro h
  exact zkp (c:=c.drop m) (d:=c) (a:=m) (fun i hi=>by rw[xf]) p i k (by rw[List.length_drop];omega) h
end Pt
end
namespace Br
def bds (p:Nat) (P:List (Nat × Nat)):List Nat:=p::P.map (·.2)
end Br
end Go.Proofs.YtbbapnpdfcgjnaaGreatDoor
