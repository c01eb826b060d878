/- SgMath: parts of the proof, joined. -/
import Derived.Test.YtbbapnpdfcgjnaaGreatDoorEPtMath
import Derived.Test.YtbbapnpdfcgjnaaGreatDoorEUMath
open Nat renaming le_refl->sR, eq_or_lt_of_le->sT, add_sub_cancel->sU, le_antisymm->sV, lt_or_ge->sY
open List renaming range'->sS, append_nil->sW, map_cons->sX, map_map->sZ
set_option maxHeartbeats 64000000
namespace Go.Proofs.YtbbapnpdfcgjnaaGreatDoor
namespace Sg
open Wt Br
def up(C:Nat->Bool):Nat->Nat->Nat
 |0,i=>i
 |f+1,i=>if C i then i else up C f (i+1)
theorem zrO(C:Nat->Bool):∀f i,i<=up C f i
 |0,i=>sR _
 |f+1,i=>by
  unfold up;have:=zrO C f (i+1)
  split<;>omega
theorem zrN(C:Nat->Bool):∀f i,up C f i<=i+f
 |0,i=>sR _
 |f+1,i=>by
  unfold up;have:=zrN C f (i+1)
  split<;>omega
theorem zrM(C:Nat->Bool):∀f i m,i<=m->m<up C f i->C m=false
 |0,i,m,h1,h2=>by unfold up at h2;omega
 |f+1,i,m,h1,h2=>by
  unfold up at h2
  split at h2
  ·omega
  ·rename_i h
   rcases sT h1 with e|e
   ·subst e;simpa using h
   ·exact zrM C f (i+1) m e h2
theorem zkW(C:Nat->Bool):∀f i,up C f i<i+f->C (up C f i)=true
 |0,i,h=>by unfold up at h;omega
 |f+1,i,h=>by
  unfold up at h⊢
  split
  ·rename_i h2;exact h2
  ·rename_i h2
   rw[if_neg h2]at h;exact zkW C f (i+1) (by omega)
def dn(C:Nat->Bool):Nat->Nat
 |0=>0
 |i+1=>if C (i+1)then i+1 else dn C i
theorem ziw(C:Nat->Bool):∀i,dn C i<=i
 |0=>sR _
 |i+1=>by
  unfold dn;have:=ziw C i
  split<;>omega
theorem zsv(C:Nat->Bool):∀i m,dn C i<m->m<=i->C m=false
 |0,m,h1,h2=>by omega
 |i+1,m,h1,h2=>by
  unfold dn at h1
  split at h1
  ·omega
  ·rename_i h
   rcases sT h2 with e|e
   ·subst e;simpa using h
   ·exact zsv C i m h1 (by omega)
theorem zoE(C:Nat->Bool):∀i,0<dn C i->C (dn C i)=true
 |0,h=>by unfold dn at h;omega
 |i+1,h=>by
  unfold dn at h⊢
  split
  ·rename_i h2;exact h2
  ·rename_i h2
   rw[if_neg h2]at h;exact zoE C i h
theorem zxN{C:Nat->Bool}{a i:Nat}(h1:a<=i)(h2:∀m,a<m->m<=i->C m=false)(h3:a=0\/C a=true):dn C i=a:=by
 rcases Nat.lt_trichotomy (dn C i) a with h|h|h
 ·rcases h3 with h3|h3
  ·omega
  ·rw[zsv C i a h h1]at h3;cases h3
 ·exact h
 ·have:=zoE C i (by omega)
  rw[h2 _ h (ziw C i)]at this
  cases this
def nx(C:Nat->Bool)(n i:Nat):Nat:=up C (n-(i+1)) (i+1)
theorem zcK(C:Nat->Bool)(n i:Nat):i<nx C n i:=zrO C _ (i+1)
theorem zhJ{C:Nat->Bool}{n i:Nat}(h:i<n):nx C n i<=n:=by
 have:=zrN C (n-(i+1)) (i+1);unfold nx;omega
theorem zrT{C:Nat->Bool}{n i m:Nat}(h1:i<m)(h2:m<nx C n i):C m=false:=zrM C _ (i+1) m h1 h2
theorem zfI{C:Nat->Bool}{n i:Nat}(h:i<n):nx C n i=n\/C (nx C n i)=true:=by
 rcases sY (nx C n i) n with h1|h1
 ·exact .inr (zkW C _ _ (by unfold nx at h1;omega))
 ·exact .inl (sV (zhJ h) h1)
def pcs(C:Nat->Bool)(n:Nat):Nat->Nat->List (Nat×Nat)
 |0,_=>[]
 |f+1,j=>if j<n then (j,nx C n j)::pcs C n f (nx C n j)else []
theorem zaw(C:Nat->Bool)(n:Nat):∀f g j,n-j<=f->n-j<=g->pcs C n f j=pcs C n g j
 |0,0,j,_,_=>rfl
 |0,g+1,j,hf,hg=>by unfold pcs;rw[if_neg (by omega)]
 |f+1,0,j,hf,hg=>by unfold pcs;rw[if_neg (by omega)]
 |f+1,g+1,j,hf,hg=>by
  unfold pcs;have:=zcK C n j
  split
  ·rw[zaw C n f g _ (by omega) (by omega)]
  ·rfl
def pcF(C:Nat->Bool)(n j:Nat):List (Nat×Nat):=pcs C n (n-j) j
theorem pb{C:Nat->Bool}{n j:Nat}(h:j<n):pcF C n j=(j,nx C n j)::pcF C n (nx C n j):=by
 have:=zcK C n j;unfold pcF;rw[zaw C n (n-j) (n-(j+1)+1) j (by omega) (by omega)]
 conv=>lhs;unfold pcs
 rw[if_pos h,zaw C n _ (n-nx C n j) _ (by omega) (by omega)]
theorem kQ{C:Nat->Bool}{n j:Nat}(h:n<=j):pcF C n j=[]:=by
 unfold pcF;rw[show n-j=0 by omega]
 rfl
def bks(C:Nat->Bool):Nat->Nat->List (Nat×Nat)
 |0,_=>[]
 |f+1,k=>if 0<k then (dn C (k-1),k)::bks C f (dn C (k-1))else []
theorem ziK(C:Nat->Bool):∀f g k,k<=f->k<=g->bks C f k=bks C g k
 |0,0,k,_,_=>rfl
 |0,g+1,k,hf,hg=>by unfold bks;rw[if_neg (by omega)]
 |f+1,0,k,hf,hg=>by unfold bks;rw[if_neg (by omega)]
 |f+1,g+1,k,hf,hg=>by
  unfold bks;have:=ziw C (k-1)
  split
  ·rw[ziK C f g _ (by omega) (by omega)]
  ·rfl
def bkF(C:Nat->Bool)(k:Nat):List (Nat×Nat):=bks C k k
theorem zoU(C:Nat->Bool)(k:Nat):bkF C (k+1)=(dn C k,k+1)::bkF C (dn C k):=by
 have:=ziw C k;unfold bkF
 conv=>lhs;unfold bks
 rw[if_pos (by omega),sU,ziK C k (dn C k) _ (by omega) (sR _)]
theorem zvY(C:Nat->Bool)(n:Nat):∀d j pre,n-j<=d->j<=n->(j=0\/C j=true)->bkF C j=pre.reverse->bkF C n=(pre++pcF C n j).reverse
 |d,j,pre,hd,hj,hb,hp=>by
  by_cases h:j<n
  ·cases d with
   |zero=>omega
   |succ d=>
    have h1:=zcK C n j;have h2:=zhJ (C:=C) h;have e:dn C (nx C n j-1)=j:=zxN (by omega) (fun m h3 h4=>zrT (n:=n) h3 (by omega)) hb
    obtain⟨k,hk⟩:∃k,nx C n j=k+1:=⟨nx C n j-1,by omega⟩
    rw[pb h,show pre++(j,nx C n j)::pcF C n (nx C n j)=(pre++[(j,nx C n j)])++pcF C n (nx C n j) by simp]
    have hs:bkF C (nx C n j)=(pre++[(j,nx C n j)]).reverse:=by
     rw[hk]at e⊢;rw[sU]at e;rw[zoU,e,hp]
     simp
    rcases zfI (C:=C) h with h5|h5
    ·rw[kQ (n:=n) (j:=nx C n j) (by omega),sW]
     rw[h5]at hs⊢;exact hs
    ·exact zvY C n d _ _ (by omega) h2 (.inr h5) hs
  ·obtain rfl:j=n:=by omega
   rw[kQ (sR _),sW];exact hp
def byt(s:List UInt8)(P:List (Nat×Nat)):List (Nat×Nat):=P.map fun x=>(pos s x.1,pos s x.2)
theorem zhA(s:List UInt8){i j:Nat}(h:i<j)(hj:j<=(rl s).length):pos s i<pos s j:=by
 have:=im s (j-i) i (by omega)
 rw[show i+(j-i)=j by omega]at this
 omega
theorem znY{C D:Nat->Bool}{n:Nat}(hn:D n=true)(hD:∀k,0<k->k<n->D k=C k):∀d j,n-j<=d->j<=n->D j=true->(sS j (n+1-j)).filter D=j::(pcF C n j).map (·.2)
 |d,j,hd,hj,hb=>by
  by_cases h:j<n
  ·cases d with
   |zero=>omega
   |succ d=>
    have h1:=zcK C n j;have h2:=zhJ (C:=C) h;have hk:D (nx C n j)=true:=by
     rcases sY (nx C n j) n with h3|h3
     ·rw[hD _ (by omega) h3]
      rcases zfI (C:=C) h with h4|h4
      ·omega
      ·exact h4
     ·rw[sV h2 h3];exact hn
    have ih:=znY hn hD d _ (by omega) h2 hk
    rw[pb h,sX,<- ih];have e:sS j (n+1-j)=j::(sS (j+1) (nx C n j-(j+1))++sS (nx C n j) (n+1-nx C n j)):=by
     have e1:=List.range'_append_1 (s:=j+1) (m:=nx C n j-(j+1)) (n:=n+1-nx C n j);rw[show j+1+(nx C n j-(j+1))=nx C n j by omega]at e1
     rw[e1,show n+1-j=(nx C n j-(j+1)+(n+1-nx C n j))+1 by omega,List.range'_succ]
    rw[e,List.filter_cons,if_pos hb,List.filter_append]
    congr 1
    have:(sS (j+1) (nx C n j-(j+1))).filter D=[]:=by
     rw[List.filter_eq_nil_iff];intro m hm;rw[List.mem_range'_1]at hm;rw[hD m (by omega) (by omega),zrT (C:=C) (n:=n) (i:=j) (by omega) (by omega)]
     simp
    rw[this,List.nil_append]
  ·obtain rfl:j=n:=by omega
   rw[kQ (sR _),show j+1-j=1 by omega]
   simp[hb]
theorem zij{C D:Nat->Bool}{n:Nat}(h0:D 0=true)(hn:D n=true)(hD:∀k,0<k->k<n->D k=C k)(s:List UInt8):((List.range (n+1)).filter D).map (pos s)=bds 0 (byt s (pcF C n 0)):=by
 have:=znY hn hD _ 0 (sR _) (Nat.zero_le _) h0;rw[List.range_eq_range',show n+1=n+1-0 from rfl,this,sX,zrQ];unfold bds byt;rw[sZ,sZ]
 rfl
end Sg
end Go.Proofs.YtbbapnpdfcgjnaaGreatDoor
