/- UMath, RMath, REdge: parts of the proof, joined. -/
import Derived.Shelf.Unicode.DecodeLast
import Derived.Lib.MapLaws
open List renaming length_eq_zero_iff->xa, length_drop->xb, length_pos_iff->xe, mem_cons->xf, drop_of_length_le->xg, length_take->xh, drop_drop->xi, length->xj, getD->xk, take_of_length_le->xm, length_nil->xn, drop_take->xp
open Nat renaming le_refl->xd, lt_irrefl->xq, add_zero->xr, zero_add->xt, lt_or_ge->xu
set_option maxHeartbeats 64000000
namespace Go.Proofs.YtbbapnpdfcgjnaaGreatDoor
section
structure Mk where
 pl:Int
 wd:Int
 ru:Int
 bad:Bool
def dec (l:List UInt8):Nat × Nat:=if l=[] then (0,0) else Lib.decodeGo ⟨l.toArray⟩
def zaH (l:List UInt8):Nat × Nat:=if l=[] then (0,0) else Lib.decodeLastL l
theorem ext_drop (l:List UInt8) (t:Nat):(⟨l.toArray⟩:ByteArray).extract t l.length=⟨(l.drop t).toArray⟩:=by
 apply ByteArray.ext
 simp[ByteArray.data_extract,xm]
def byt (l:List UInt8) (i:Nat):Int:=((l.getD i 0).toNat:Int)
def bgF (l:List UInt8) (p:Nat):Nat->Nat
 | 0=>p
 | f+1=>if p<3 - f then p else if Lib.runeStart (byt l (p - (3 - f))) then (if p<p - (3 - f)+(dec (l.drop (p - (3 - f)))).2 then p - (3 - f) else p) else bgF l p f
theorem dec_le4 (l:List UInt8):(dec l).2<=4:=by
 unfold dec
 split
 ·simp
 ·unfold Lib.decodeGo
  split
  ·simp
  ·unfold Utf8.decode
   simp only[]
   repeat' split
   all_goals simp
theorem zBH (l:List UInt8) (p f:Nat) (h:p<4 - f):bgF l p f=p:=by
 cases f with
 | zero=>rfl
 | succ f=>unfold bgF;rw[if_pos (by omega)]
theorem zcb (l:List UInt8) (p f t:Nat) (ht:t+(3 - f)=p) (h:Lib.runeStart (byt l t)=false):bgF l p (f+1)=bgF l p f:=by
 have e:p - (3 - f)=t:=by omega
 conv=>lhs;unfold bgF
 rw[if_neg (by omega),e,h];simp
theorem zpm (l:List UInt8) (p f t:Nat) (ht:t+(3 - f)=p) (h:Lib.runeStart (byt l t)=true) (hn:p<t+(dec (l.drop t)).2):bgF l p (f+1)=t:=by
 have e:p - (3 - f)=t:=by omega
 unfold bgF;rw[if_neg (by omega),e,h,if_pos rfl,if_pos hn]
theorem zBI (l:List UInt8) (p f t:Nat) (ht:t+(3 - f)=p) (h:Lib.runeStart (byt l t)=true) (hn:¬p<t+(dec (l.drop t)).2):bgF l p (f+1)=p:=by
 have e:p - (3 - f)=t:=by omega
 unfold bgF;rw[if_neg (by omega),e,h,if_pos rfl,if_neg hn]
theorem zoM (l:List UInt8) (i:Nat):(⟨l.toArray⟩:ByteArray).get! i=l.getD i 0:=by
 show l.toArray.getD i default=l.getD i 0
 by_cases h:i<l.length
 ·simp[Array.getD,xk,h]
 ·simp[Array.getD,xk,h];rfl
theorem zbx (l:List UInt8) (h:l≠ []):dec l=Lib.decodeN l.length (l.getD 0 0).toNat (l.getD 1 0).toNat (l.getD 2 0).toNat (l.getD 3 0).toNat:=by
 unfold dec;rw[if_neg h];unfold Lib.decodeGo;have hs:(⟨l.toArray⟩:ByteArray).size=l.length:=by show l.toArray.size=_;simp
 rw[if_neg (by rw[hs];exact fun e=>h (xa.1 e)),Lib.decode_at,hs]
 simp only[zoM,xt,Nat.sub_zero]
theorem dec_eqL (l:List UInt8) (h:l≠ []):dec l=Lib.decodeL l:=by
 unfold dec;rw[if_neg h];unfold Lib.decodeGo;have hs:(⟨l.toArray⟩:ByteArray).size=l.length:=by show l.toArray.size=_;simp
 rw[if_neg (by rw[hs];exact fun e=>h (xa.1 e))]
 rfl
theorem dec_ge (l:List UInt8) (h:l≠ []):1<=(dec l).2:=by rw[dec_eqL l h];exact Lib.decodeL_width l
theorem dec_le (l:List UInt8) (h:l≠ []):(dec l).2<=l.length:=by rw[dec_eqL l h];exact Lib.decodeL_le l h
theorem dec_rune (l:List UInt8) (h:l≠ []):(dec l).1<=1114111:=by rw[dec_eqL l h];exact Lib.decodeL_rune l
def mk1 (p:Nat) (l:List UInt8):Mk:=⟨p,(dec l).2,(dec l).1,decide ((dec l).2=1)&&decide ((dec l).1=65533)⟩
def zyK:Nat->Nat->List UInt8->List Mk
 | 0,_,_=>[]
 | k+1,p,l=>if l=[] then [] else mk1 p l::zyK k (p+(dec l).2) (l.drop (dec l).2)
theorem ziB:∀(k k' p:Nat) (l:List UInt8),l.length<=k->l.length<=k'->zyK k p l=zyK k' p l
 | 0,0,_,_,_,_=>rfl
 | 0,k'+1,p,l,h,_=>by
  have:l=[]:=xa.1 (by omega)
  subst this;simp[zyK]
 | k+1,0,p,l,_,h=>by
  have:l=[]:=xa.1 (by omega)
  subst this;simp[zyK]
 | k+1,k'+1,p,l,h,h'=>by
  unfold zyK
  by_cases e:l=[]
  ·simp[e]
  ·rw[if_neg e,if_neg e]
   have:=dec_ge l e;rw[ziB k k' (p+(dec l).2) (l.drop (dec l).2) (by simp;omega) (by simp;omega)]
def mks (p:Nat) (l:List UInt8):List Mk:=zyK l.length p l
theorem zsl (p:Nat):mks p []=[]:=rfl
theorem zdZ (p:Nat) (l:List UInt8) (h:l≠ []):mks p l=mk1 p l::mks (p+(dec l).2) (l.drop (dec l).2):=by
 have h1:=dec_ge l h;have h2:=dec_le l h;unfold mks;rw[ziB l.length (l.length - 1+1) p l (by omega) (by omega)]
 conv=>lhs;unfold zyK
 rw[if_neg h,ziB (l.length - 1) (l.drop (dec l).2).length _ _ (by simp;omega) (by omega)]
theorem zxl (l:List UInt8) (t j:Nat):(l.drop t).getD j 0=l.getD (t+j) 0:=by simp[xk]
theorem zeY (l:List UInt8) (t:Nat) (h:t<l.length):Utf8.decode ⟨l.toArray⟩ t=dec (l.drop t):=by
 have hne:l.drop t≠ []:=fun e=>by have:=congrArg xj e;simp at this;omega
 have hs:(⟨l.toArray⟩:ByteArray).size=l.length:=by show l.toArray.size=_;simp
 rw[zbx _ hne,Lib.decode_at,hs]
 simp only[zoM,zxl,xb,xr]
def prs (l:List UInt8):List (Int × Int):=(mks 0 l).map fun m=>(m.pl,m.ru)
def prF (l:List UInt8) (t:Nat):List (Int × Int):=(mks t (l.drop t)).map fun m=>(m.pl,m.ru)
theorem prF_end (l:List UInt8) (t:Nat) (h:¬t<l.length):prF l t=[]:=by
 unfold prF;rw[xg (by omega),zsl];rfl
theorem zpj (l:List UInt8) (t j:Nat):byt (l.drop t) j=byt l (t+j):=by simp[byt,xk]
def wid (l:List UInt8) (t:Nat):Nat:=(dec (l.drop t)).2
theorem zaT (l:List UInt8) (t:Nat) (h:t<l.length):l.drop t≠ []:=fun e=>by have:=congrArg xj e;simp at this;omega
theorem zfA (l:List UInt8) (t:Nat) (h:t<l.length):1<=wid l t:=dec_ge _ (zaT l t h)
theorem zyj (l:List UInt8) (t:Nat) (h:t<l.length):t+wid l t<=l.length:=by
 have:=dec_le _ (zaT l t h);simp only[xb] at this;unfold wid;omega
theorem zqP (l:List UInt8) (t:Nat):wid l t<=4:=dec_le4 _
theorem zuJ (l:List UInt8) (h:l≠ []) (j:Nat) (h1:1<=j) (h2:j<(dec l).2):Lib.runeStart (byt l j)=false/\Lib.runeStart (byt l 0)=true:=by
 have h4:=dec_le4 l;have hj:j=1\/j=2\/j=3:=by omega
 have key:byt l j / 64=2/\¬byt l 0 / 64=2:=by
  rw[zbx l h] at h2
  rcases hj with rfl | rfl | rfl
  all_goals
   unfold byt
   generalize (l.getD 0 0).toNat=b0 at *
   generalize (l.getD 1 0).toNat=b1 at *
   generalize (l.getD 2 0).toNat=b2 at *
   generalize (l.getD 3 0).toNat=b3 at *
   unfold Lib.decodeN at h2
   split at h2
   ·exfalso;simp at h2
   ·split at h2
    ·split at h2
     ·simp at h2<;>omega
     ·exfalso;simp at h2
    ·split at h2
     ·split at h2
      ·simp at h2<;>omega
      ·exfalso;simp at h2
     ·split at h2
      ·split at h2
       ·simp at h2<;>omega
       ·exfalso;simp at h2
      ·exfalso;simp at h2
 unfold Lib.runeStart
 simp[key]
theorem zbd (l:List UInt8) (t q:Nat) (ht:t<l.length) (h1:t<q) (h2:q<t+wid l t):Lib.runeStart (byt l q)=false/\Lib.runeStart (byt l t)=true:=by
 have h:=zuJ (l.drop t) (zaT l t ht) (q - t) (by omega) (by unfold wid at h2;omega)
 rw[zpj,zpj] at h;rw[show t+(q - t)=q by omega,xr] at h
 exact h
theorem zhs (l:List UInt8) (t:Nat) (h:t<l.length):mks t (l.drop t)=mk1 t (l.drop t)::mks (t+wid l t) (l.drop (t+wid l t)):=by
 rw[zdZ t (l.drop t) (zaT l t h),xi];rfl
theorem ziA (l:List UInt8) (t:Nat) (h:¬t<l.length):mks t (l.drop t)=[]:=by rw[xg (by omega)];rfl
theorem zon (l:List UInt8):∀(n t:Nat),l.length - t<=n->∀m∈mks t (l.drop t),(t:Int)<=m.pl/\m.pl<l.length
 | 0,t,h,m,hm=>by rw[ziA l t (by omega)] at hm;cases hm
 | n+1,t,h,m,hm=>by
  by_cases ht:t<l.length
  ·rw[zhs l t ht] at hm
   have hw:=zfA l t ht
   rcases xf.1 hm with rfl | hm
   ·exact⟨Int.le_refl _,by show(t:Int)<_;omega⟩
   ·have:=zon l n (t+wid l t) (by omega) m hm
    omega
  ·rw[ziA l t ht] at hm;cases hm
theorem zso (l:List UInt8) (q:Nat) (hq:q<l.length):∀(n t:Nat),l.length - t<=n->t<=q->
  ∃(e:Nat) (P:List Mk),t<=e/\e<=q/\q<e+wid l e/\mks t (l.drop t)=P++mk1 e (l.drop e)::mks (e+wid l e) (l.drop (e+wid l e))/\∀m∈P,m.pl<(e:Int)
 | 0,t,h,ht=>by omega
 | n+1,t,h,ht=>by
  have htl:t<l.length:=by omega
  have hw:=zfA l t htl
  by_cases hc:q<t+wid l t
  ·exact⟨t,[],xd _,ht,hc,zhs l t htl,fun m hm=>by cases hm⟩
  ·obtain⟨e,P,h1,h2,h3,h4,h5⟩:=zso l q hq n (t+wid l t) (by omega) (by omega)
   refine⟨e,mk1 t (l.drop t)::P,by omega,h2,h3,by rw[zhs l t htl,h4];rfl,fun m hm=>?_⟩
   rcases xf.1 hm with rfl | hm
   ·show(t:Int)<e;omega
   ·exact h5 m hm
theorem chain (l:List UInt8) (e x:Nat) (P:List Mk) (h:mks 0 l=P++mk1 e (l.drop e)::mks (e+wid l e) (l.drop (e+wid l e))) (hP:∀m∈P,m.pl<(e:Int)) (hx:∃m∈mks 0 l,m.pl=(x:Int)) (hlt:e<x):e+wid l e<=x:=by
 obtain⟨m,hm,he⟩:=hx;rw[h] at hm
 rcases List.mem_append.1 hm with hm | hm
 ·have:=hP m hm;omega
 ·rcases xf.1 hm with rfl | hm
  ·have:(e:Int)=x:=he
   omega
  ·have:=(zon l (l.length - (e+wid l e)) (e+wid l e) (xd _) m hm).1
   omega
theorem zpl (l:List UInt8) (q:Nat) (h:∀t,t<q->Lib.runeStart (byt l t)=true->¬q<t+wid l t):∀f,f<=3->bgF l q f=q
 | 0,_=>rfl
 | f+1,hf=>by
  by_cases ho:q<4 - (f+1)
  ·exact zBH l q (f+1) ho
  ·have ht:(q - (3 - f))+(3 - f)=q:=by omega
   cases hr:Lib.runeStart (byt l (q - (3 - f))) with
   | false=>rw[zcb l q f _ ht hr];exact zpl l q h f (by omega)
   | true=>exact zBI l q f _ ht hr (h _ (by omega) hr)
theorem zxX (l:List UInt8) (q e:Nat) (P:List Mk) (hq:q<l.length) (h1:e<=q) (h2:q<e+wid l e) (h:mks 0 l=P++mk1 e (l.drop e)::mks (e+wid l e) (l.drop (e+wid l e))):bgF l q 4=e:=by
 have h4:=zqP l e;have hel:e<l.length:=by omega
 by_cases he:e=q
 ·subst he
  cases hr:Lib.runeStart (byt l e) with
  | true=>exact zpm l e 3 e (by omega) hr (by exact h2)
  | false=>
   rw[zcb l e 3 e (by omega) hr]
   refine zpl l e (fun t ht hs hc=>?_) 3 (xd _)
   obtain⟨e',P',g1,g2,g3,g4,g5⟩:=zso l t (by omega) l.length 0 (by omega) (Nat.zero_le _)
   have ee:e'=t:=by
    rcases xu e' t with hlt | hge
    ·have:=(zbd l e' t (by omega) hlt g3).1
     rw[this] at hs;cases hs
    ·omega
   subst ee;have:=chain l e' e P' g4 g5 ⟨mk1 e (l.drop e),by rw[h];simp,rfl⟩ ht
   omega
 ·have hin:∀t,e<t->t<=q->Lib.runeStart (byt l t)=false:=fun t a b=>(zbd l e t hel a (by omega)).1
  have hst:Lib.runeStart (byt l e)=true:=(zbd l e q hel (by omega) h2).2
  have hj:q=e+1\/q=e+2\/q=e+3:=by omega
  rcases hj with rfl | rfl | rfl
  ·rw[zcb l (e+1) 3 (e+1) (by omega) (hin _ (by omega) (by omega))]
   exact zpm l (e+1) 2 e (by omega) hst h2
  ·rw[zcb l (e+2) 3 (e+2) (by omega) (hin _ (by omega) (by omega)),zcb l (e+2) 2 (e+1) (by omega) (hin _ (by omega) (by omega))]
   exact zpm l (e+2) 1 e (by omega) hst h2
  ·rw[zcb l (e+3) 3 (e+3) (by omega) (hin _ (by omega) (by omega)),zcb l (e+3) 2 (e+2) (by omega) (hin _ (by omega) (by omega)),zcb l (e+3) 1 (e+1) (by omega) (hin _ (by omega) (by omega))]
   exact zpm l (e+3) 0 e (by omega) hst h2
theorem pl_ge (l:List UInt8):∀m∈mks 0 l,0<=m.pl/\m.pl<l.length:=fun m hm=>by
 have h:=zon l l.length 0 (by omega) m (by simpa using hm)
 exact⟨h.1,h.2⟩
theorem getD_take (l:List UInt8) (n i:Nat):((l.take n).getD i 0).toNat=if i<n then (l.getD i 0).toNat else 0:=by
 by_cases h:i<n<;>simp[xk,List.getElem?_take,h]
theorem decodeN_cut (N n b0 b1 b2 b3:Nat) (h1:1<=n) (h:(Lib.decodeN N b0 b1 b2 b3).2<=n):
  Lib.decodeN (min n N) b0 (if 1<n then b1 else 0) (if 2<n then b2 else 0) (if 3<n then b3 else 0)=Lib.decodeN N b0 b1 b2 b3:=by
 have c:n=1\/n=2\/n=3\/4<=n:=by omega
 rcases c with rfl | rfl | rfl | c
 ·simp only[xq,if_false,Nat.reduceLT]
  unfold Lib.decodeN at *
  revert h
  repeat' split
  all_goals first | (intro h;dsimp only at h;exfalso;omega) | (intro _;rfl)
 ·simp only[xq,if_false,if_true,Nat.reduceLT]
  unfold Lib.decodeN at *
  revert h
  repeat' split
  all_goals first | (intro h;dsimp only at h;exfalso;omega) | (intro _;rfl)
 ·simp only[xq,if_false,if_true,Nat.reduceLT]
  unfold Lib.decodeN at *
  revert h
  repeat' split
  all_goals first | (intro h;dsimp only at h;exfalso;omega) | (intro _;rfl)
 ·rw[if_pos (by omega),if_pos (by omega),if_pos (by omega)]
  unfold Lib.decodeN;have e1:(1<min n N)=(1<N):=propext ⟨fun h=>by omega,fun h=>by omega⟩
  have e2:(2<min n N)=(2<N):=propext ⟨fun h=>by omega,fun h=>by omega⟩
  have e3:(3<min n N)=(3<N):=propext ⟨fun h=>by omega,fun h=>by omega⟩
  simp only[e1,e2,e3]
theorem dec_take (l:List UInt8) (h:l≠ []) (n:Nat) (hn:(dec l).2<=n):dec (l.take n)=dec l:=by
 have h1:=dec_ge l h;have hp:0<l.length:=xe.2 h;have hne:l.take n≠ []:=fun e=>by have:=congrArg xj e;rw[xh] at this;simp only[xn] at this;omega
 have hn1:1<=n:=by omega
 rw[zbx _ hne,zbx l h,xh];rw[zbx l h] at hn
 simp only[getD_take]
 rw[if_pos (by omega:0<n)]
 exact decodeN_cut _ _ _ _ _ _ (by omega) hn
theorem zoB (l:List UInt8):∀(n t:Nat),l.length - t<=n->t<l.length->
  ∃e,t<=e/\e<l.length/\e+wid l e=l.length/\mks t (l.drop t)=mks t ((l.take e).drop t)++[mk1 e (l.drop e)]
 | 0,t,h,ht=>by omega
 | n+1,t,h,ht=>by
  have h1:=zfA l t ht;have h2:=zyj l t ht
  by_cases hc:t+wid l t=l.length
  ·refine⟨t,xd _,ht,hc,?_⟩
   rw[zhs l t ht,hc,ziA l l.length (by omega),(show(l.take t).drop t=[] from xg (by simp;omega)),zsl];rfl
  ·obtain⟨e,g1,g2,g3,g4⟩:=zoB l n (t+wid l t) (by omega) (by omega)
   refine⟨e,by omega,g2,g3,?_⟩
   have hd:(l.take e).drop t=(l.drop t).take (e - t):=xp ..;have hl:(l.take e).length=e:=by simp;omega
   have hdec:dec ((l.take e).drop t)=dec (l.drop t):=by rw[hd];exact dec_take _ (zaT l t ht) _ (by unfold wid at g1;omega)
   have hw:wid (l.take e) t=wid l t:=by unfold wid;rw[hdec]
   rw[zhs l t ht,g4,zhs (l.take e) t (by omega),hw]
   have hm:mk1 t ((l.take e).drop t)=mk1 t (l.drop t):=by unfold mk1;rw[hdec]
   rw[hm];rfl
theorem zhA (l:List UInt8) (h:l≠ []):∃e,e<l.length/\e+wid l e=l.length/\mks 0 l=mks 0 (l.take e)++[mk1 e (l.drop e)]:=by
 obtain⟨e,_,g2,g3,g4⟩:=zoB l l.length 0 (by omega) (xe.2 h)
 exact⟨e,g2,g3,by simpa using g4⟩
theorem zlq (l:List UInt8) (s e:Nat) (hs:s<l.length) (hr:Lib.runeStart (byt l s)=true) (he:∃m∈mks 0 l,m.pl=(e:Int)) (hlt:s<e):s+wid l s<=e:=by
 obtain⟨e',P',g1,g2,g3,g4,g5⟩:=zso l s hs l.length 0 (by omega) (Nat.zero_le _)
 have ee:e'=s:=by
  rcases xu e' s with hlt | hge
  ·have:=(zbd l e' s (by omega) hlt g3).1
   rw[this] at hr;cases hr
  ·omega
 subst ee;exact chain l e' e P' g4 g5 he hlt
theorem zhl (l:List UInt8) (i:Nat):Lib.runeStartB (l.getD i 0)=Lib.runeStart (byt l i):=Lib.runeStartB_eq _
theorem zks (l:List UInt8) (h:2<=l.length):Lib.lastStart l<=l.length - 2:=by
 unfold Lib.lastStart
 simp only
 repeat' split
 all_goals omega
theorem ztX (l:List UInt8) (h:l≠ []) (e:Nat) (he:e<l.length) (hw:e+wid l e=l.length) (hm:mks 0 l=mks 0 (l.take e)++[mk1 e (l.drop e)]):zaH l=dec (l.drop e):=by
 have hp:0<l.length:=xe.2 h;have hge:=zfA l e he;have h4:=zqP l e;unfold zaH;rw[if_neg h];unfold Lib.decodeLastL;rw[if_neg h]
 by_cases h1:wid l e=1
 ·have ee:e=l.length - 1:=by omega
  have hdl:(l.drop e).length=1:=by simp;omega
  have hb0:(l.drop e).getD 0 0=l.getD e 0:=by simp[xk]
  have hN:dec (l.drop e)=if (l.getD e 0).toNat<128 then ((l.getD e 0).toNat,1) else (65533,1):=by
   rw[zbx _ (zaT l e he),hdl,hb0];unfold Lib.decodeN
   simp
  rw[hN,<- ee]
  by_cases ha:(l.getD e 0).toNat<128
  ·rw[if_pos ha,if_pos ha]
  ·rw[if_neg ha,if_neg ha]
   by_cases hl1:l.length=1
   ·have hs:=Lib.lastStart_one l hl1
    have e0:e=0:=by omega
    simp only[hs]
    rw[<- dec_eqL _ (zaT l 0 hp)];rw[e0] at hN ha;rw[hN,if_neg ha]
    simp[Utf8.runeError]
   ·have hsl:=zks l (by omega)
    have hslt:Lib.lastStart l<l.length:=by omega
    simp only
    rw[<- dec_eqL _ (zaT l _ hslt),if_neg]
    ·rfl
    ·intro hc
     change Lib.lastStart l+wid l (Lib.lastStart l)=l.length at hc
     generalize Lib.lastStart l=s at *
     cases hr:Lib.runeStart (byt l s) with
     | true=>
      have:=zlq l s e hslt hr ⟨mk1 e (l.drop e),by rw[hm];simp,rfl⟩ (by omega)
      omega
     | false=>
      have hg:=zfA l s hslt;have:¬1<wid l s:=fun hw1=>by
       have:=(zbd l s (s+1) hslt (by omega) (by omega)).2
       rw[this] at hr;cases hr
      omega
 ·have hlast:=(zbd l e (l.length - 1) he (by omega) (by omega)).1
  have hst:=(zbd l e (l.length - 1) he (by omega) (by omega)).2
  have ha:¬(l.getD (l.length - 1) 0).toNat<128:=by
   have:((l.getD (l.length - 1) 0).toNat:Int) / 64=2:=by simpa[Lib.runeStart,byt] using hlast
   omega
  rw[if_neg ha];have hs:Lib.lastStart l=e:=by
   have hc:wid l e=2\/wid l e=3\/wid l e=4:=by omega
   rcases hc with hc | hc | hc
   ·exact Lib.lastStart_at2 l e (by omega) (by rw[zhl];exact hst)
   ·exact Lib.lastStart_at3 l e (by omega) (by rw[zhl];exact(zbd l e (e+1) he (by omega) (by omega)).1) (by rw[zhl];exact hst)
   ·exact Lib.lastStart_at4 l e (by omega) (by rw[zhl];exact(zbd l e (e+2) he (by omega) (by omega)).1) (by rw[zhl];exact(zbd l e (e+1) he (by omega) (by omega)).1) (by rw[zhl];exact hst)
  simp only[hs]
  rw[<- dec_eqL _ (zaT l e he),if_pos (show e+(dec (l.drop e)).2=l.length from hw)]
theorem ztW (l:List UInt8) (h:l≠ []):∃e n c:Nat,zaH l=(c,n)/\1<=n/\e+n=l.length/\c<=1114111/\bgF l (l.length - 1) 4=e/\prs l=prs (l.take e)++[((e:Int),(c:Int))]:=by
 obtain⟨e,h1,h2,h3⟩:=zhA l h;refine⟨e,wid l e,(dec (l.drop e)).1,ztX l h e h1 h2 h3,zfA l e h1,h2,dec_rune _ (zaT l e h1),?_,?_⟩
 ·refine zxX l (l.length - 1) e (mks 0 (l.take e)) (by omega) (by omega) (by omega) ?_
  rw[h3,ziA l (e+wid l e) (by omega)]
 ·unfold prs
  rw[h3,List.map_append];rfl
def Mk.on (e:Nat) (m:Mk):Mk:={m with pl:=m.pl+e}
theorem zkd (e:Nat):∀(n k:Nat) (l:List UInt8),l.length<=n->mks (e+k) l=(mks k l).map (Mk.on e)
 | 0,k,l,h=>by
  have:l=[]:=xa.1 (by omega)
  subst this;rfl
 | n+1,k,l,h=>by
  by_cases hl:l=[]
  ·subst hl;rfl
  ·have h1:=dec_ge l hl
   have hp:0<l.length:=xe.2 hl;rw[zdZ _ l hl,zdZ k l hl,Nat.add_assoc,zkd e n (k+(dec l).2) (l.drop (dec l).2) (by simp;omega),List.map_cons]
   congr 1
   unfold mk1 Mk.on
   simp
   omega
end
section
def rlF:Nat->List UInt8->List (Nat × Nat)
 | 0,_=>[]
 | f+1,l=>if l=[] then [] else dec l::rlF f (l.drop (dec l).2)
theorem zlA:∀(f g:Nat) (l:List UInt8),l.length<=f->l.length<=g->rlF f l=rlF g l
 | 0,0,_,_,_=>rfl
 | 0,g+1,l,hf,hg=>by
  have:l=[]:=xa.1 (by omega)
  subst this;rfl
 | f+1,0,l,hf,hg=>by
  have:l=[]:=xa.1 (by omega)
  subst this;rfl
 | f+1,g+1,l,hf,hg=>by
  unfold rlF
  by_cases h:l=[]
  ·rw[if_pos h,if_pos h]
  ·have h1:=dec_ge l h
   rw[if_neg h,if_neg h,zlA f g (l.drop (dec l).2) (by rw[xb];omega) (by rw[xb];omega)]
def rl (l:List UInt8):List (Nat × Nat):=rlF l.length l
theorem zeU:rl []=[]:=rfl
theorem zbt (l:List UInt8) (h:l≠ []):rl l=dec l::rl (l.drop (dec l).2):=by
 have h1:=dec_ge l h;have hp:0<l.length:=xe.2 h;unfold rl;rw[zlA l.length (l.length - 1+1) l (by omega) (by omega)]
 conv=>lhs;unfold rlF
 rw[if_neg h,zlA (l.length - 1) _ (l.drop (dec l).2) (by rw[xb];omega) (xd _)]
def psm (X:List (Nat × Nat)):Nat:=(X.map (·.2)).sum
theorem zfj (x:Nat × Nat) (X:List (Nat × Nat)):psm (x::X)=x.2+psm X:=by simp[psm]
theorem zAv (X Y:List (Nat × Nat)):psm (X++Y)=psm X+psm Y:=by simp[psm]
theorem zyv:∀(n:Nat) (l:List UInt8),l.length<=n->psm (rl l)=l.length
 | 0,l,h=>by
  have:l=[]:=xa.1 (by omega)
  subst this;rfl
 | n+1,l,h=>by
  by_cases hl:l=[]
  ·subst hl;rfl
  ·have h1:=dec_ge l hl
   have h2:=dec_le l hl;rw[zbt l hl,zfj,zyv n _ (by rw[xb];omega),xb]
   omega
theorem zyw:∀(n:Nat) (l:List UInt8),l.length<=n->∀x∈rl l,1<=x.2
 | 0,l,h,x,hx=>by
  have:l=[]:=xa.1 (by omega)
  subst this;cases hx
 | n+1,l,h,x,hx=>by
  by_cases hl:l=[]
  ·subst hl;cases hx
  ·have h1:=dec_ge l hl
   rw[zbt l hl] at hx
   rcases xf.1 hx with rfl | hx
   ·exact h1
   ·exact zyw n _ (by rw[xb];omega) x hx
theorem zrE:∀(k:Nat) (l:List UInt8),k<=(rl l).length->rl (l.take (psm ((rl l).take k)))=(rl l).take k/\rl (l.drop (psm ((rl l).take k)))=(rl l).drop k
 | 0,l,_=>by simp[psm,zeU]
 | k+1,l,hk=>by
  by_cases hl:l=[]
  ·subst hl;simp[zeU] at hk
  ·have h1:=dec_ge l hl
   have hc:=zbt l hl;rw[hc,List.length_cons] at hk;obtain⟨i1,i2⟩:=zrE k (l.drop (dec l).2) (by omega)
   rw[hc,List.take_succ_cons,zfj,List.drop_succ_cons];refine⟨?_,by rw[<- xi];exact i2⟩
   have hm:l.take ((dec l).2+psm ((rl (l.drop (dec l).2)).take k))≠ []:=fun e=>by
    have:=congrArg xj e;have h2:=dec_le l hl;rw[xh,xn] at this;omega
   rw[zbt _ hm,dec_take l hl _ (by omega),xp,Nat.add_sub_cancel_left,i1]
def ltl (l:List UInt8):List UInt8:=l.take (l.length - (zaH l).2)
theorem zAr (l:List UInt8) (h:l≠ []):rl l=rl (ltl l)++[zaH l]:=by
 obtain⟨e,h1,h2,h3⟩:=zhA l h;have h4:=ztX l h e h1 h2 h3;have he:l.length - (zaH l).2=e:=by rw[h4];unfold wid at h2;omega
 have hx:rl (l.drop e)=[zaH l]:=by
  rw[zbt _ (zaT l e h1),h4,xi,show e+(dec (l.drop e)).2=l.length from h2,List.drop_length,zeU]
 unfold ltl;rw[he]
 -- e is an edge
 have key:∀(n:Nat) (l:List UInt8) (e:Nat),l.length<=n->e<=l.length->(e=l.length\/∃m∈mks 0 l,m.pl=(e:Int))->rl l=rl (l.take e)++rl (l.drop e):=by
  intro n
  induction n with
  | zero=>
   intro l e hn he _;have:l=[]:=xa.1 (by omega)
   subst this;simp[zeU]
  | succ n ih=>
   intro l e hn he hm
   by_cases hl:l=[]
   ·subst hl;simp[zeU]
   ·by_cases h0:e=0
    ·subst h0;simp[zeU]
    ·have d1:=dec_ge l hl
     have d2:=dec_le l hl;have hle:(dec l).2<=e:=by
      rcases hm with rfl | ⟨m,hm,hp⟩
      ·exact d2
      ·rw[zdZ 0 l hl] at hm
       rcases xf.1 hm with rfl | hm
       ·have:((0:Nat):Int)=(e:Int):=hp
        omega
       ·have hge:=zon l _ (0+(dec l).2) (xd _) m (by simpa using hm)
        omega
     have hm':e - (dec l).2=(l.drop (dec l).2).length\/∃m∈mks 0 (l.drop (dec l).2),m.pl=((e - (dec l).2:Nat):Int):=by
      rcases hm with rfl | ⟨m,hm,hp⟩
      ·left;rw[xb]
      ·rw[zdZ 0 l hl] at hm
       rcases xf.1 hm with rfl | hm
       ·have:((0:Nat):Int)=(e:Int):=hp
        omega
       ·right
        have hs:=zkd (dec l).2 _ 0 (l.drop (dec l).2) (xd _);rw[xt] at hm;rw[xr] at hs;rw[hs] at hm;obtain⟨m',hm',rfl⟩:=List.mem_map.1 hm;refine⟨m',hm',?_⟩;have hp':m'.pl+((dec l).2:Int)=(e:Int):=hp;omega
     have hi:=ih (l.drop (dec l).2) (e - (dec l).2) (by rw[xb];omega) (by rw[xb];omega) hm'
     have hne:l.take e≠ []:=fun h=>by
      have:=congrArg xj h;rw[xh,xn] at this;omega
     rw[zbt l hl,hi,zbt _ hne,dec_take l hl e hle,xp,xi,Nat.add_sub_cancel' hle]
     rfl
 rw[key l.length l e (xd _) (by omega) (.inr ⟨mk1 e (l.drop e),by rw[h3];simp,rfl⟩),hx]
end
namespace Wt
def pos (s:List UInt8) (k:Nat):Nat:=psm ((rl s).take k)
theorem zCE (s:List UInt8):pos s 0=0:=rfl
theorem zdG (s:List UInt8) (k:Nat) (h:(rl s).length<=k):pos s k=s.length:=by
 unfold pos;rw[xm h];exact zyv _ s (xd _)
theorem zod (X:List (Nat × Nat)) (k:Nat) (h:k<X.length):psm (X.take (k+1))=psm (X.take k)+(X[k]).2:=by
 rw[List.take_succ_eq_append_getElem h,zAv]
 simp[psm]
theorem zjY (s:List UInt8) (k:Nat) (h:k<(rl s).length):pos s k<pos s (k+1):=by
 unfold pos;rw[zod _ k h];have:=zyw _ s (xd _) _ (List.getElem_mem h);omega
theorem zdU (s:List UInt8):∀(n i:Nat),i+n<=(rl s).length->pos s i+n<=pos s (i+n)
 | 0,i,_=>xd _
 | n+1,i,h=>by
  have h1:=zdU s n i (by omega)
  have h2:=zjY s (i+n) (by omega)
  show pos s i+(n+1)<=pos s (i+n+1)
  omega
theorem zyy (s:List UInt8) (k:Nat) (h:k<=(rl s).length):pos s k<=s.length:=by
 have h1:=zdU s ((rl s).length - k) k (by omega)
 rw[zdG s (k+((rl s).length - k)) (by omega)] at h1
 omega
theorem zin (s:List UInt8) (k:Nat) (h:k<(rl s).length):pos s k<s.length:=by
 have h1:=zjY s k h;have h2:=zyy s (k+1) h;omega
theorem zlz (s:List UInt8) (k:Nat) (h:k<=(rl s).length):rl (s.take (pos s k))=(rl s).take k:=(zrE k s h).1
theorem zrD (s:List UInt8) (k:Nat) (h:k<=(rl s).length):rl (s.drop (pos s k))=(rl s).drop k:=(zrE k s h).2
theorem zim (s:List UInt8) (k:Nat) (h:k<(rl s).length):pos s k+(dec (s.drop (pos s k))).2=pos s (k+1):=by
 have h1:=zrD s k (Nat.le_of_lt h);have hne:s.drop (pos s k)≠ []:=zaT s _ (zin s k h);rw[zbt _ hne,List.drop_eq_getElem_cons h] at h1;have h2:=(List.cons.inj h1).1;rw[h2]
 show _=psm _
 rw[zod _ k h]
 rfl
theorem zwq (s:List UInt8) (i j:Nat) (hij:i<=j) (hj:j<=(rl s).length):pos (s.take (pos s j)) i=pos s i:=by
 unfold pos;rw[show rl (s.take (psm ((rl s).take j)))=(rl s).take j from zlz s j hj,List.take_take,Nat.min_eq_left hij]
end Wt
end Go.Proofs.YtbbapnpdfcgjnaaGreatDoor
