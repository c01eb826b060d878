/- SgMath: parts of the proof, joined. -/
import Derived.Test.YtbbapnpdfcgjnaaGreatDoorWUMath
import Derived.Test.YtbbapnpdfcgjnaaGreatDoorWPtMath
open Nat renaming le_refl->sD, eq_or_lt_of_le->sH, add_sub_cancel->sI, lt_trichotomy->sJ, le_antisymm->sK, lt_or_ge->sN
open List renaming range'->sE, map_cons->sG, append_nil->sL, nil_append->sM, map_map->sO
set_option maxHeartbeats 64000000
namespace Go.Proofs.YtbbapnpdfcgjnaaGreatDoor
namespace Sg
open Wt Br
def up(C:Nat->Bool):Nat->Nat->Nat
 |0,i=>i
 |f+1,i=>if C i then i else up C f (i+1)
theorem zst(C:Nat->Bool):∀f i,i<=up C f i
 |0,i=>sD _
 |f+1,i=>by unfold up;have:=zst C f (i+1);split<;>omega
theorem zss(C:Nat->Bool):∀f i,up C f i<=i+f
 |0,i=>sD _
 |f+1,i=>by unfold up;have:=zss C f (i+1);split<;>omega
theorem zsr(C:Nat->Bool):∀f i m,i<=m->m<up C f i->C m=false
 |0,i,m,h1,h2=>by unfold up at h2;omega
 |f+1,i,m,h1,h2=>by
  unfold up at h2;split at h2
  ·omega
  ·rename_i h;rcases sH h1 with e|e
   ·subst e;simpa using h
   ·exact zsr C f (i+1) m e h2
theorem zmz(C:Nat->Bool):∀f i,up C f i<i+f->C (up C f i)=true
 |0,i,h=>by unfold up at h;omega
 |f+1,i,h=>by
  unfold up at h⊢;split
  ·rename_i h2;exact h2
  ·rename_i h2;rw[if_neg h2]at h;exact zmz C f (i+1) (by omega)
def dn(C:Nat->Bool):Nat->Nat
 |0=>0
 |i+1=>if C (i+1)then i+1 else dn C i
theorem fj(C:Nat->Bool):∀i,dn C i<=i
 |0=>sD _
 |i+1=>by unfold dn;have:=fj C i;split<;>omega
theorem zfk(C:Nat->Bool):∀i m,dn C i<m->m<=i->C m=false
 |0,m,h1,h2=>by omega
 |i+1,m,h1,h2=>by
  unfold dn at h1;split at h1
  ·omega
  ·rename_i h;rcases sH h2 with e|e
   ·subst e;simpa using h
   ·exact zfk C i m h1 (by omega)
theorem qC(C:Nat->Bool):∀i,0<dn C i->C (dn C i)=true
 |0,h=>by unfold dn at h;omega
 |i+1,h=>by
  unfold dn at h⊢;split
  ·rename_i h2;exact h2
  ·rename_i h2;rw[if_neg h2]at h;exact qC C i h
theorem zjl{C:Nat->Bool}{a i:Nat}(h1:a<=i)(h2:∀m,a<m->m<=i->C m=false)(h3:a=0\/C a=true):dn C i=a:=by
 rcases sJ (dn C i) a with h|h|h
 ·rcases h3 with h3|h3
  ·omega
  ·rw[zfk C i a h h1]at h3;cases h3
 ·exact h
 ·have:=qC C i (by omega);rw[h2 _ h (fj C i)]at this;cases this
def nx(C:Nat->Bool)(n i:Nat):Nat:=up C (n-(i+1)) (i+1)
theorem dS(C:Nat->Bool)(n i:Nat):i<nx C n i:=zst C _ (i+1)
theorem eu{C:Nat->Bool}{n i:Nat}(h:i<n):nx C n i<=n:=by have:=zss C (n-(i+1)) (i+1);unfold nx;omega
theorem nF{C:Nat->Bool}{n i m:Nat}(h1:i<m)(h2:m<nx C n i):C m=false:=zsr C _ (i+1) m h1 h2
theorem gM{C:Nat->Bool}{n i:Nat}(h:i<n):nx C n i=n\/C (nx C n i)=true:=by
 rcases sN (nx C n i) n with h1|h1
 ·exact .inr (zmz C _ _ (by unfold nx at h1;omega))
 ·exact .inl (sK (eu h) h1)
theorem znz{C:Nat->Bool}{n i k:Nat}(h1:i<k)(hk:k<=n)(h2:∀m,i<m->m<k->C m=false)(h3:k=n\/C k=true):nx C n i=k:=by
 have hl:=eu (C:=C) (n:=n) (i:=i) (by omega);have hg:=dS C n i;rcases sJ (nx C n i) k with h|h|h
 ·rcases gM (C:=C) (n:=n) (i:=i) (by omega)with h4|h4
  ·omega
  ·rw[h2 _ hg h]at h4;cases h4
 ·exact h
 ·rcases h3 with h3|h3
  ·omega
  ·rw[nF h1 h]at h3;cases h3
def pcs(C:Nat->Bool)(n:Nat):Nat->Nat->List (Nat×Nat)
 |0,_=>[]
 |f+1,j=>if j<n then (j,nx C n j)::pcs C n f (nx C n j)else []
theorem zbC(C:Nat->Bool)(n:Nat):∀f g j,n-j<=f->n-j<=g->pcs C n f j=pcs C n g j
 |0,0,j,_,_=>rfl
 |0,g+1,j,hf,hg=>by unfold pcs;rw[if_neg (by omega)]
 |f+1,0,j,hf,hg=>by unfold pcs;rw[if_neg (by omega)]
 |f+1,g+1,j,hf,hg=>by
  unfold pcs;have:=dS C n j;split
  ·rw[zbC C n f g _ (by omega) (by omega)]
  ·rfl
def pcF(C:Nat->Bool)(n j:Nat):List (Nat×Nat):=pcs C n (n-j) j
theorem iD{C:Nat->Bool}{n j:Nat}(h:j<n):pcF C n j=(j,nx C n j)::pcF C n (nx C n j):=by
 have:=dS C n j;unfold pcF;rw[zbC C n (n-j) (n-(j+1)+1) j (by omega) (by omega)]
 conv=>lhs;unfold pcs
 rw[if_pos h,zbC C n _ (n-nx C n j) _ (by omega) (by omega)]
theorem lA{C:Nat->Bool}{n j:Nat}(h:n<=j):pcF C n j=[]:=by unfold pcF;rw[show n-j=0 by omega];rfl
def bks(C:Nat->Bool):Nat->Nat->List (Nat×Nat)
 |0,_=>[]
 |f+1,k=>if 0<k then (dn C (k-1),k)::bks C f (dn C (k-1))else []
theorem zjz(C:Nat->Bool):∀f g k,k<=f->k<=g->bks C f k=bks C g k
 |0,0,k,_,_=>rfl
 |0,g+1,k,hf,hg=>by unfold bks;rw[if_neg (by omega)]
 |f+1,0,k,hf,hg=>by unfold bks;rw[if_neg (by omega)]
 |f+1,g+1,k,hf,hg=>by
  unfold bks;have:=fj C (k-1);split
  ·rw[zjz C f g _ (by omega) (by omega)]
  ·rfl
def bkF(C:Nat->Bool)(k:Nat):List (Nat×Nat):=bks C k k
theorem zfw(C:Nat->Bool)(k:Nat):bkF C (k+1)=(dn C k,k+1)::bkF C (dn C k):=by
 have:=fj C k;unfold bkF
 conv=>lhs;unfold bks
 rw[if_pos (by omega),sI,zjz C k (dn C k) _ (by omega) (sD _)]
theorem zpq(C:Nat->Bool)(n:Nat):∀d j pre,n-j<=d->j<=n->(j=0\/C j=true)->bkF C j=pre.reverse->bkF C n=(pre++pcF C n j).reverse
 |d,j,pre,hd,hj,hb,hp=>by
  by_cases h:j<n
  ·cases d with
   |zero=>omega
   |succ d=>
    have h1:=dS C n j;have h2:=eu (C:=C) h;have e:dn C (nx C n j-1)=j:=zjl (by omega) (fun m h3 h4=>nF (n:=n) h3 (by omega)) hb;obtain⟨k,hk⟩:∃k,nx C n j=k+1:=⟨nx C n j-1,by omega⟩;rw[iD h,show pre++(j,nx C n j)::pcF C n (nx C n j)=(pre++[(j,nx C n j)])++pcF C n (nx C n j) by simp];have hs:bkF C (nx C n j)=(pre++[(j,nx C n j)]).reverse:=by rw[hk]at e⊢;rw[sI]at e;rw[zfw,e,hp];simp
    rcases gM (C:=C) h with h5|h5
    ·rw[lA (n:=n) (j:=nx C n j) (by omega),sL];rw[h5]at hs⊢;exact hs
    ·exact zpq C n d _ _ (by omega) h2 (.inr h5) hs
  ·obtain rfl:j=n:=by omega
   rw[lA (sD _),sL];exact hp
theorem zvo(C:Nat->Bool)(n:Nat):bkF C n=(pcF C n 0).reverse:=by have:=zpq C n _ 0 [] (sD _) (Nat.zero_le _) (.inl rfl) rfl;rwa [sM]at this
theorem znu{C:Nat->Bool}{n:Nat}:∀d j i,n-j<=d->j<=i->i<n->(j=0\/C j=true)->(dn C i,nx C n i)∈pcF C n j
 |d,j,i,hd,hj,hi,hb=>by
  have hjn:j<n:=by omega
  have h1:=dS C n j;have h2:=eu (C:=C) hjn;rw[iD hjn];by_cases h:i<nx C n j
  ·have e:dn C i=j:=zjl hj (fun m h3 h4=>nF (n:=n) h3 (by omega)) hb;have e2:nx C n i=nx C n j:=znz h h2 (fun m h3 h4=>nF (i:=j) (by omega) h4) (gM hjn);rw[e,e2];exact List.mem_cons_self ..
  ·cases d with
   |zero=>omega
   |succ d=>
    refine List.mem_cons_of_mem _ (znu d _ i (by omega) (by omega) hi ?_);rcases gM (C:=C) hjn with h5|h5
    ·omega
    ·exact .inr h5
def byt(s:List UInt8)(P:List (Nat×Nat)):List (Nat×Nat):=P.map fun x=>(pos s x.1,pos s x.2)
theorem fe(s:List UInt8){i j:Nat}(h:i<j)(hj:j<=(rl s).length):pos s i<pos s j:=by have:=cz s (j-i) i (by omega);rw[show i+(j-i)=j by omega]at this;omega
theorem znv(s:List UInt8)(C:Nat->Bool):∀d j,(rl s).length-j<=d->j<=(rl s).length->jH (pos s j) s.length (byt s (pcF C (rl s).length j))
 |d,j,hd,hj=>by
  by_cases h:j<(rl s).length
  ·cases d with
   |zero=>omega
   |succ d=>have h1:=dS C (rl s).length j;have h2:=eu (C:=C) h;rw[iD h];exact .cons (fe s h1 h2) (znv s C d _ (by omega) h2)
  ·obtain rfl:j=(rl s).length:=by omega
   rw[lA (sD _),bY s _ (sD _)];exact .nil _
theorem zov{C D:Nat->Bool}{n:Nat}(hn:D n=true)(hD:∀k,0<k->k<n->D k=C k):∀d j,n-j<=d->j<=n->D j=true->(sE j (n+1-j)).filter D=j::(pcF C n j).map (·.2)
 |d,j,hd,hj,hb=>by
  by_cases h:j<n
  ·cases d with
   |zero=>omega
   |succ d=>
    have h1:=dS C n j;have h2:=eu (C:=C) h;have hk:D (nx C n j)=true:=by
     rcases sN (nx C n j) n with h3|h3
     ·rw[hD _ (by omega) h3];rcases gM (C:=C) h with h4|h4
      ·omega
      ·exact h4
     ·rw[sK h2 h3];exact hn
    have ih:=zov hn hD d _ (by omega) h2 hk;rw[iD h,sG,<-ih];have e:sE j (n+1-j)=j::(sE (j+1) (nx C n j-(j+1))++sE (nx C n j) (n+1-nx C n j)):=by have e1:=List.range'_append_1 (s:=j+1) (m:=nx C n j-(j+1)) (n:=n+1-nx C n j);rw[show j+1+(nx C n j-(j+1))=nx C n j by omega]at e1;rw[e1,show n+1-j=(nx C n j-(j+1)+(n+1-nx C n j))+1 by omega,List.range'_succ]
    rw[e,List.filter_cons,if_pos hb,List.filter_append];congr 1;have:(sE (j+1) (nx C n j-(j+1))).filter D=[]:=by rw[List.filter_eq_nil_iff];intro m hm;rw[List.mem_range'_1]at hm;rw[hD m (by omega) (by omega),nF (C:=C) (n:=n) (i:=j) (by omega) (by omega)];simp
    rw[this,sM]
  ·obtain rfl:j=n:=by omega
   rw[lA (sD _),show j+1-j=1 by omega];simp[hb]
theorem zja{C D:Nat->Bool}{n:Nat}(h0:D 0=true)(hn:D n=true)(hD:∀k,0<k->k<n->D k=C k)(s:List UInt8):((List.range (n+1)).filter D).map (pos s)=kf 0 (byt s (pcF C n 0)):=by have:=zov hn hD _ 0 (sD _) (Nat.zero_le _) h0;rw[List.range_eq_range',show n+1=n+1-0 from rfl,this,sG,pW];unfold kf byt;rw[sO,sO];rfl
structure Pl(l:List UInt8) where
 v:Nat×Nat
 lt:v.1<v.2
 le:v.2<=l.length
def zoU{l:List UInt8}(x:Pl l):Array Value:=#[.int .i64 (x.v.1:Nat),.int .i64 (x.v.2:Nat)]
theorem zgA(l:List UInt8):∀(P:List (Nat×Nat))(p:Nat),jH p l.length P->∃L:List (Pl l),L.map Pl.v=P
 |[],p,_=>⟨[],rfl⟩
 |(f,t)::P,p,h=>by
  cases h with
  |cons h1 h2=>obtain⟨L,hL⟩:=zgA l P t h2;exact⟨⟨(f,t),h1,h2.le⟩::L,by rw[sG,hL]⟩
end Sg
end Go.Proofs.YtbbapnpdfcgjnaaGreatDoor
