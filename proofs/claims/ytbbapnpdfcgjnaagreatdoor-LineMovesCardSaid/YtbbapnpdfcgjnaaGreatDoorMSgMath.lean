/- SgMath: parts of the proof, joined. -/
import Derived.Test.YtbbapnpdfcgjnaaGreatDoorMPtMath
import Derived.Test.YtbbapnpdfcgjnaaGreatDoorMUMath
open Nat renaming le_refl->sD, eq_or_lt_of_le->sG, add_sub_cancel->sH, le_antisymm->sI, lt_or_ge->sL
open List renaming range'->sE, append_nil->sJ, map_cons->sK, map_map->sM
set_option maxHeartbeats 64000000
namespace Go.Proofs.YtbbapnpdfcgjnaaGreatDoor
namespace Sg
open Wt Br
def up (C:Nat->Bool):Nat->Nat->Nat
 | 0,i=>i
 | f+1,i=>if C i then i else up C f (i+1)
theorem zrC (C:Nat->Bool):∀f i,i<=up C f i
 | 0,i=>sD _
 | f+1,i=>by
  unfold up;have:=zrC C f (i+1)
  split<;>omega
theorem zrB (C:Nat->Bool):∀f i,up C f i<=i+f
 | 0,i=>sD _
 | f+1,i=>by
  unfold up;have:=zrB C f (i+1)
  split<;>omega
theorem zrA (C:Nat->Bool):∀f i m,i<=m->m<up C f i->C m=false
 | 0,i,m,h1,h2=>by unfold up at h2;omega
 | f+1,i,m,h1,h2=>by
  unfold up at h2
  split at h2
  ·omega
  ·rename_i h
   rcases sG h1 with e | e
   ·subst e;simpa using h
   ·exact zrA C f (i+1) m e h2
theorem zkV (C:Nat->Bool):∀f i,up C f i<i+f->C (up C f i)=true
 | 0,i,h=>by unfold up at h;omega
 | f+1,i,h=>by
  unfold up at h⊢
  split
  ·rename_i h2;exact h2
  ·rename_i h2
   rw[if_neg h2] at h;exact zkV C f (i+1) (by omega)
def dn (C:Nat->Bool):Nat->Nat
 | 0=>0
 | i+1=>if C (i+1) then i+1 else dn C i
theorem zeR (C:Nat->Bool):∀i,dn C i<=i
 | 0=>sD _
 | i+1=>by
  unfold dn;have:=zeR C i
  split<;>omega
theorem ziu (C:Nat->Bool):∀i m,dn C i<m->m<=i->C m=false
 | 0,m,h1,h2=>by omega
 | i+1,m,h1,h2=>by
  unfold dn at h1
  split at h1
  ·omega
  ·rename_i h
   rcases sG h2 with e | e
   ·subst e;simpa using h
   ·exact ziu C i m h1 (by omega)
theorem zgB (C:Nat->Bool):∀i,0<dn C i->C (dn C i)=true
 | 0,h=>by unfold dn at h;omega
 | i+1,h=>by
  unfold dn at h⊢
  split
  ·rename_i h2;exact h2
  ·rename_i h2
   rw[if_neg h2] at h;exact zgB C i h
theorem zxy {C:Nat->Bool} {a i:Nat} (h1:a<=i) (h2:∀m,a<m->m<=i->C m=false) (h3:a=0\/C a=true):dn C i=a:=by
 rcases Nat.lt_trichotomy (dn C i) a with h | h | h
 ·rcases h3 with h3 | h3
  ·omega
  ·rw[ziu C i a h h1] at h3;cases h3
 ·exact h
 ·have:=zgB C i (by omega)
  rw[h2 _ h (zeR C i)] at this
  cases this
def nx (C:Nat->Bool) (n i:Nat):Nat:=up C (n - (i+1)) (i+1)
theorem zcM (C:Nat->Bool) (n i:Nat):i<nx C n i:=zrC C _ (i+1)
theorem zcL {C:Nat->Bool} {n i:Nat} (h:i<n):nx C n i<=n:=by
 have:=zrB C (n - (i+1)) (i+1);unfold nx;omega
theorem zlZ {C:Nat->Bool} {n i m:Nat} (h1:i<m) (h2:m<nx C n i):C m=false:=zrA C _ (i+1) m h1 h2
theorem zfI {C:Nat->Bool} {n i:Nat} (h:i<n):nx C n i=n\/C (nx C n i)=true:=by
 rcases sL (nx C n i) n with h1 | h1
 ·exact .inr (zkV C _ _ (by unfold nx at h1;omega))
 ·exact .inl (sI (zcL h) h1)
def pcs (C:Nat->Bool) (n:Nat):Nat->Nat->List (Nat × Nat)
 | 0,_=>[]
 | f+1,j=>if j<n then (j,nx C n j)::pcs C n f (nx C n j) else []
theorem zaq (C:Nat->Bool) (n:Nat):∀f g j,n - j<=f->n - j<=g->pcs C n f j=pcs C n g j
 | 0,0,j,_,_=>rfl
 | 0,g+1,j,hf,hg=>by unfold pcs;rw[if_neg (by omega)]
 | f+1,0,j,hf,hg=>by unfold pcs;rw[if_neg (by omega)]
 | f+1,g+1,j,hf,hg=>by
  unfold pcs;have:=zcM C n j
  split
  ·rw[zaq C n f g _ (by omega) (by omega)]
  ·rfl
def pcF (C:Nat->Bool) (n j:Nat):List (Nat × Nat):=pcs C n (n - j) j
theorem zcD {C:Nat->Bool} {n j:Nat} (h:j<n):pcF C n j=(j,nx C n j)::pcF C n (nx C n j):=by
 have:=zcM C n j;unfold pcF;rw[zaq C n (n - j) (n - (j+1)+1) j (by omega) (by omega)]
 conv=>lhs;unfold pcs
 rw[if_pos h,zaq C n _ (n - nx C n j) _ (by omega) (by omega)]
theorem zar {C:Nat->Bool} {n j:Nat} (h:n<=j):pcF C n j=[]:=by
 unfold pcF;rw[show n - j=0 by omega]
 rfl
def bks (C:Nat->Bool):Nat->Nat->List (Nat × Nat)
 | 0,_=>[]
 | f+1,k=>if 0<k then (dn C (k - 1),k)::bks C f (dn C (k - 1)) else []
theorem ziG (C:Nat->Bool):∀f g k,k<=f->k<=g->bks C f k=bks C g k
 | 0,0,k,_,_=>rfl
 | 0,g+1,k,hf,hg=>by unfold bks;rw[if_neg (by omega)]
 | f+1,0,k,hf,hg=>by unfold bks;rw[if_neg (by omega)]
 | f+1,g+1,k,hf,hg=>by
  unfold bks;have:=zeR C (k - 1)
  split
  ·rw[ziG C f g _ (by omega) (by omega)]
  ·rfl
def bkF (C:Nat->Bool) (k:Nat):List (Nat × Nat):=bks C k k
theorem zoM (C:Nat->Bool) (k:Nat):bkF C (k+1)=(dn C k,k+1)::bkF C (dn C k):=by
 have:=zeR C k;unfold bkF
 conv=>lhs;unfold bks
 rw[if_pos (by omega),sH,ziG C k (dn C k) _ (by omega) (sD _)]
theorem zvK (C:Nat->Bool) (n:Nat):∀d j pre,n - j<=d->j<=n->(j=0\/C j=true)->bkF C j=pre.reverse->bkF C n=(pre++pcF C n j).reverse
 | d,j,pre,hd,hj,hb,hp=>by
  by_cases h:j<n
  ·cases d with
   | zero=>omega
   | succ d=>
    have h1:=zcM C n j;have h2:=zcL (C:=C) h;have e:dn C (nx C n j - 1)=j:=zxy (by omega) (fun m h3 h4=>zlZ (n:=n) h3 (by omega)) hb
    obtain⟨k,hk⟩:∃k,nx C n j=k+1:=⟨nx C n j - 1,by omega⟩
    rw[zcD h,show pre++(j,nx C n j)::pcF C n (nx C n j)=(pre++[(j,nx C n j)])++pcF C n (nx C n j) by simp]
    have hs:bkF C (nx C n j)=(pre++[(j,nx C n j)]).reverse:=by
     rw[hk] at e⊢;rw[sH] at e;rw[zoM,e,hp]
     simp
    rcases zfI (C:=C) h with h5 | h5
    ·rw[zar (n:=n) (j:=nx C n j) (by omega),sJ]
     rw[h5] at hs⊢;exact hs
    ·exact zvK C n d _ _ (by omega) h2 (.inr h5) hs
  ·obtain rfl:j=n:=by omega
   rw[zar (sD _),sJ];exact hp
def byt (s:List UInt8) (P:List (Nat × Nat)):List (Nat × Nat):=P.map fun x=>(pos s x.1,pos s x.2)
theorem gC (s:List UInt8) {i j:Nat} (h:i<j) (hj:j<=(rl s).length):pos s i<pos s j:=by
 have:=ig s (j - i) i (by omega)
 rw[show i+(j - i)=j by omega] at this
 omega
theorem znU {C D:Nat->Bool} {n:Nat} (hn:D n=true) (hD:∀k,0<k->k<n->D k=C k):∀d j,n - j<=d->j<=n->D j=true->(sE j (n+1 - j)).filter D=j::(pcF C n j).map (·.2)
 | d,j,hd,hj,hb=>by
  by_cases h:j<n
  ·cases d with
   | zero=>omega
   | succ d=>
    have h1:=zcM C n j;have h2:=zcL (C:=C) h;have hk:D (nx C n j)=true:=by
     rcases sL (nx C n j) n with h3 | h3
     ·rw[hD _ (by omega) h3]
      rcases zfI (C:=C) h with h4 | h4
      ·omega
      ·exact h4
     ·rw[sI h2 h3];exact hn
    have ih:=znU hn hD d _ (by omega) h2 hk
    rw[zcD h,sK,<- ih];have e:sE j (n+1 - j)=j::(sE (j+1) (nx C n j - (j+1))++sE (nx C n j) (n+1 - nx C n j)):=by
     have e1:=List.range'_append_1 (s:=j+1) (m:=nx C n j - (j+1)) (n:=n+1 - nx C n j);rw[show j+1+(nx C n j - (j+1))=nx C n j by omega] at e1
     rw[e1,show n+1 - j=(nx C n j - (j+1)+(n+1 - nx C n j))+1 by omega,List.range'_succ]
    rw[e,List.filter_cons,if_pos hb,List.filter_append]
    congr 1
    have:(sE (j+1) (nx C n j - (j+1))).filter D=[]:=by
     rw[List.filter_eq_nil_iff];intro m hm;rw[List.mem_range'_1] at hm;rw[hD m (by omega) (by omega),zlZ (C:=C) (n:=n) (i:=j) (by omega) (by omega)]
     simp
    rw[this,List.nil_append]
  ·obtain rfl:j=n:=by omega
   rw[zar (sD _),show j+1 - j=1 by omega]
   simp[hb]
theorem zih {C D:Nat->Bool} {n:Nat} (h0:D 0=true) (hn:D n=true) (hD:∀k,0<k->k<n->D k=C k) (s:List UInt8):((List.range (n+1)).filter D).map (pos s)=bds 0 (byt s (pcF C n 0)):=by
 have:=znU hn hD _ 0 (sD _) (Nat.zero_le _) h0;rw[List.range_eq_range',show n+1=n+1 - 0 from rfl,this,sK,ij];unfold bds byt;rw[sM,sM]
 rfl
end Sg
end Go.Proofs.YtbbapnpdfcgjnaaGreatDoor
