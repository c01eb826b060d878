/- UMath, RMath, REdge: parts of the proof, joined. -/
import Derived.Shelf.Unicode.DecodeLast
import Derived.Lib.MapLaws
open List renaming length_eq_zero_iff->sD, length_drop->sG, length_pos_iff->sJ, mem_cons->sL, drop_of_length_le->sM, length_take->sN, getD->sO, drop_drop->sP, length->sQ, take_of_length_le->sS, length_nil->sT, drop_take->sU
open Go.Lib renaming runeStart->sE, decodeN->sI, lastStart->sK, decodeGo->sR, decodeLastL->sX, decode_at->sY
open Nat renaming le_refl->sH, lt_irrefl->sV, add_zero->sW, zero_add->sZ, lt_or_ge->ta, le_of_lt->tc
set_option maxHeartbeats 64000000
namespace Go.Proofs.YtbbapnpdfcgjnaaGreatDoor
section
structure Mk where
 pl:Int
 wd:Int
 ru:Int
 bad:Bool
def dec(l:List UInt8):Nat×Nat:=if l=[]then (0,0)else sR ⟨l.toArray⟩
def bw(l:List UInt8):Nat×Nat:=if l=[]then (0,0)else sX l
theorem ext_drop(l:List UInt8)(t:Nat):(⟨l.toArray⟩:ByteArray).extract t l.length=⟨(l.drop t).toArray⟩:=by apply ByteArray.ext;simp[ByteArray.data_extract,sS]
def byt(l:List UInt8)(i:Nat):Int:=((l.getD i 0).toNat:Int)
theorem zvm(l:List UInt8)(i:Nat):0<=byt l i/\byt l i<256:=by have:=(l.getD i 0).toNat_lt;unfold byt;omega
def nR(l:List UInt8)(p:Nat):Nat->Nat
 |0=>p
 |f+1=>if p<3-f then p else if sE (byt l (p-(3-f)))then (if p<p-(3-f)+(dec (l.drop (p-(3-f)))).2 then p-(3-f)else p)else nR l p f
theorem dec_le4(l:List UInt8):(dec l).2<=4:=by
 unfold dec;split
 ·simp
 ·unfold sR;split
  ·simp
  ·unfold Utf8.decode;simp only[]
   repeat' split
   all_goals simp
theorem zhn(l:List UInt8)(t:Nat)(h:t<(⟨l.toArray⟩:ByteArray).size):(((⟨l.toArray⟩:ByteArray)[t]'h).toNat:Int)=byt l t:=by
 have h':t<l.length:=by have:t<l.toArray.size:=h;simpa using this
 unfold byt;rw[show(⟨l.toArray⟩:ByteArray)[t]'h=l[t]from rfl];simp[sO,h']
theorem zjA(l:List UInt8)(p f:Nat)(h:p<4-f):nR l p f=p:=by
 cases f with
 |zero=>rfl
 |succ f=>unfold nR;rw[if_pos (by omega)]
theorem dD(l:List UInt8)(p f t:Nat)(ht:t+(3-f)=p)(h:sE (byt l t)=false):nR l p (f+1)=nR l p f:=by
 have e:p-(3-f)=t:=by omega
 conv=>lhs;unfold nR
 rw[if_neg (by omega),e,h];simp
theorem qM(l:List UInt8)(p f t:Nat)(ht:t+(3-f)=p)(h:sE (byt l t)=true)(hn:p<t+(dec (l.drop t)).2):nR l p (f+1)=t:=by
 have e:p-(3-f)=t:=by omega
 unfold nR;rw[if_neg (by omega),e,h,if_pos rfl,if_pos hn]
theorem zjB(l:List UInt8)(p f t:Nat)(ht:t+(3-f)=p)(h:sE (byt l t)=true)(hn:¬p<t+(dec (l.drop t)).2):nR l p (f+1)=p:=by
 have e:p-(3-f)=t:=by omega
 unfold nR;rw[if_neg (by omega),e,h,if_pos rfl,if_neg hn]
theorem zrM(a b:Nat):(((a:Int)==(b:Int)):Bool)=(a==b):=by rw[Bool.eq_iff_iff];simp;omega
def isE(l:List UInt8)(p:Int):Bool:=if p<=0 then p==0 else if (l.length:Int)<=p then p==l.length else nR l p.toNat 4==p.toNat
theorem zeV(l:List UInt8)(i:Nat):(⟨l.toArray⟩:ByteArray).get! i=l.getD i 0:=by
 show l.toArray.getD i default=l.getD i 0;by_cases h:i<l.length
 ·simp[Array.getD,sO,h]
 ·simp[Array.getD,sO,h];rfl
theorem dm(l:List UInt8)(h:l≠ []):dec l=sI l.length (l.getD 0 0).toNat (l.getD 1 0).toNat (l.getD 2 0).toNat (l.getD 3 0).toNat:=by
 unfold dec;rw[if_neg h];unfold sR;have hs:(⟨l.toArray⟩:ByteArray).size=l.length:=by show l.toArray.size=_;simp
 rw[if_neg (by rw[hs];exact fun e=>h (sD.1 e)),sY,hs];simp only[zeV,sZ,Nat.sub_zero]
theorem dec_eqL(l:List UInt8)(h:l≠ []):dec l=Lib.decodeL l:=by
 unfold dec;rw[if_neg h];unfold sR;have hs:(⟨l.toArray⟩:ByteArray).size=l.length:=by show l.toArray.size=_;simp
 rw[if_neg (by rw[hs];exact fun e=>h (sD.1 e))];rfl
theorem dec_ge(l:List UInt8)(h:l≠ []):1<=(dec l).2:=by rw[dec_eqL l h];exact Lib.decodeL_width l
theorem dec_le(l:List UInt8)(h:l≠ []):(dec l).2<=l.length:=by rw[dec_eqL l h];exact Lib.decodeL_le l h
theorem dec_rune(l:List UInt8)(h:l≠ []):(dec l).1<=1114111:=by rw[dec_eqL l h];exact Lib.decodeL_rune l
def mk1(p:Nat)(l:List UInt8):Mk:=⟨p,(dec l).2,(dec l).1,decide ((dec l).2=1)&&decide ((dec l).1=65533)⟩
def zeC:Nat->Nat->List UInt8->List Mk
 |0,_,_=>[]
 |k+1,p,l=>if l=[]then []else mk1 p l::zeC k (p+(dec l).2) (l.drop (dec l).2)
theorem p9:∀(k k' p:Nat)(l:List UInt8),l.length<=k->l.length<=k'->zeC k p l=zeC k' p l
 |0,0,_,_,_,_=>rfl
 |0,k'+1,p,l,h,_=>by have:l=[]:=sD.1 (by omega);subst this;simp[zeC]
 |k+1,0,p,l,_,h=>by have:l=[]:=sD.1 (by omega);subst this;simp[zeC]
 |k+1,k'+1,p,l,h,h'=>by
  unfold zeC;by_cases e:l=[]
  ·simp[e]
  ·rw[if_neg e,if_neg e];have:=dec_ge l e;rw[p9 k k' (p+(dec l).2) (l.drop (dec l).2) (by simp;omega) (by simp;omega)]
def j6(p:Nat)(l:List UInt8):List Mk:=zeC l.length p l
theorem ziI(p:Nat):j6 p []=[]:=rfl
theorem iH(p:Nat)(l:List UInt8)(h:l≠ []):j6 p l=mk1 p l::j6 (p+(dec l).2) (l.drop (dec l).2):=by
 have h1:=dec_ge l h;have h2:=dec_le l h;unfold j6;rw[p9 l.length (l.length-1+1) p l (by omega) (by omega)]
 conv=>lhs;unfold zeC
 rw[if_neg h,p9 (l.length-1) (l.drop (dec l).2).length _ _ (by simp;omega) (by omega)]
theorem zos(l:List UInt8)(t j:Nat):(l.drop t).getD j 0=l.getD (t+j) 0:=by simp[sO]
theorem ca(l:List UInt8)(t:Nat)(h:t<l.length):Utf8.decode ⟨l.toArray⟩ t=dec (l.drop t):=by
 have hne:l.drop t≠ []:=fun e=>by have:=congrArg sQ e;simp at this;omega
 have hs:(⟨l.toArray⟩:ByteArray).size=l.length:=by show l.toArray.size=_;simp
 rw[dm _ hne,sY,hs];simp only[zeV,zos,sG,sW]
def prs(l:List UInt8):List (Int×Int):=(j6 0 l).map fun m=>(m.pl,m.ru)
def prF(l:List UInt8)(t:Nat):List (Int×Int):=(j6 t (l.drop t)).map fun m=>(m.pl,m.ru)
theorem prF_end(l:List UInt8)(t:Nat)(h:¬t<l.length):prF l t=[]:=by unfold prF;rw[sM (by omega),ziI];rfl
theorem zft(l:List UInt8)(t j:Nat):byt (l.drop t) j=byt l (t+j):=by simp[byt,sO]
def dY(l:List UInt8)(t:Nat):Nat:=(dec (l.drop t)).2
theorem aY(l:List UInt8)(t:Nat)(h:t<l.length):l.drop t≠ []:=fun e=>by have:=congrArg sQ e;simp at this;omega
theorem kj(l:List UInt8)(t:Nat)(h:t<l.length):1<=dY l t:=dec_ge _ (aY l t h)
theorem zlH(l:List UInt8)(t:Nat)(h:t<l.length):t+dY l t<=l.length:=by have:=dec_le _ (aY l t h);simp only[sG]at this;unfold dY;omega
theorem zhM(l:List UInt8)(t:Nat):dY l t<=4:=dec_le4 _
theorem zle(l:List UInt8)(h:l≠ [])(j:Nat)(h1:1<=j)(h2:j<(dec l).2):sE (byt l j)=false/\sE (byt l 0)=true:=by
 have h4:=dec_le4 l;have hj:j=1\/j=2\/j=3:=by omega
 have key:byt l j / 64=2/\¬byt l 0 / 64=2:=by
  rw[dm l h]at h2;rcases hj with rfl|rfl|rfl
  all_goals
   unfold byt;generalize (l.getD 0 0).toNat=b0 at*;generalize (l.getD 1 0).toNat=b1 at*;generalize (l.getD 2 0).toNat=b2 at*;generalize (l.getD 3 0).toNat=b3 at*;unfold sI at h2;split at h2
   ·exfalso;simp at h2
   ·split at h2
    ·split at h2
     ·simp at h2<;>omega
     ·exfalso;simp at h2
    ·split at h2
     ·split at h2
      ·simp at h2<;>omega
      ·exfalso;simp at h2
     ·split at h2
      ·split at h2
       ·simp at h2<;>omega
       ·exfalso;simp at h2
      ·exfalso;simp at h2
 unfold sE;simp[key]
theorem cg(l:List UInt8)(t q:Nat)(ht:t<l.length)(h1:t<q)(h2:q<t+dY l t):sE (byt l q)=false/\sE (byt l t)=true:=by have h:=zle (l.drop t) (aY l t ht) (q-t) (by omega) (by unfold dY at h2;omega);rw[zft,zft]at h;rw[show t+(q-t)=q by omega,sW]at h;exact h
theorem gN(l:List UInt8)(t:Nat)(h:t<l.length):j6 t (l.drop t)=mk1 t (l.drop t)::j6 (t+dY l t) (l.drop (t+dY l t)):=by rw[iH t (l.drop t) (aY l t h),sP];rfl
theorem oH(l:List UInt8)(t:Nat)(h:¬t<l.length):j6 t (l.drop t)=[]:=by rw[sM (by omega)];rfl
theorem zbR(l:List UInt8):∀(n t:Nat),l.length-t<=n->∀m∈j6 t (l.drop t),(t:Int)<=m.pl/\m.pl<l.length
 |0,t,h,m,hm=>by rw[oH l t (by omega)]at hm;cases hm
 |n+1,t,h,m,hm=>by
  by_cases ht:t<l.length
  ·rw[gN l t ht]at hm;have hw:=kj l t ht;rcases sL.1 hm with rfl|hm
   ·exact⟨Int.le_refl _,by show(t:Int)<_;omega⟩
   ·have:=zbR l n (t+dY l t) (by omega) m hm;omega
  ·rw[oH l t ht]at hm;cases hm
theorem zgP(l:List UInt8)(q:Nat)(hq:q<l.length):∀(n t:Nat),l.length-t<=n->t<=q->
  ∃(e:Nat)(P:List Mk),t<=e/\e<=q/\q<e+dY l e/\j6 t (l.drop t)=P++mk1 e (l.drop e)::j6 (e+dY l e) (l.drop (e+dY l e))/\∀m∈P,m.pl<(e:Int)
 |0,t,h,ht=>by omega
 |n+1,t,h,ht=>by
  have htl:t<l.length:=by omega
  have hw:=kj l t htl;by_cases hc:q<t+dY l t
  ·exact⟨t,[],sH _,ht,hc,gN l t htl,fun m hm=>by cases hm⟩
  ·obtain⟨e,P,h1,h2,h3,h4,h5⟩:=zgP l q hq n (t+dY l t) (by omega) (by omega);refine⟨e,mk1 t (l.drop t)::P,by omega,h2,h3,by rw[gN l t htl,h4];rfl,fun m hm=>?_⟩;rcases sL.1 hm with rfl|hm
   ·show(t:Int)<e;omega
   ·exact h5 m hm
theorem chain(l:List UInt8)(e x:Nat)(P:List Mk)(h:j6 0 l=P++mk1 e (l.drop e)::j6 (e+dY l e) (l.drop (e+dY l e)))(hP:∀m∈P,m.pl<(e:Int))(hx:∃m∈j6 0 l,m.pl=(x:Int))(hlt:e<x):e+dY l e<=x:=by
 obtain⟨m,hm,he⟩:=hx;rw[h]at hm;rcases List.mem_append.1 hm with hm|hm
 ·have:=hP m hm;omega
 ·rcases sL.1 hm with rfl|hm
  ·have:(e:Int)=x:=he;omega
  ·have:=(zbR l (l.length-(e+dY l e)) (e+dY l e) (sH _) m hm).1;omega
theorem zfx(l:List UInt8)(q:Nat)(h:∀t,t<q->sE (byt l t)=true->¬q<t+dY l t):∀f,f<=3->nR l q f=q
 |0,_=>rfl
 |f+1,hf=>by
  by_cases ho:q<4-(f+1)
  ·exact zjA l q (f+1) ho
  ·have ht:(q-(3-f))+(3-f)=q:=by omega
   cases hr:sE (byt l (q-(3-f)))with
   |false=>rw[dD l q f _ ht hr];exact zfx l q h f (by omega)
   |true=>exact zjB l q f _ ht hr (h _ (by omega) hr)
theorem qO(l:List UInt8)(q e:Nat)(P:List Mk)(hq:q<l.length)(h1:e<=q)(h2:q<e+dY l e)(h:j6 0 l=P++mk1 e (l.drop e)::j6 (e+dY l e) (l.drop (e+dY l e))):nR l q 4=e:=by
 have h4:=zhM l e;have hel:e<l.length:=by omega
 by_cases he:e=q
 ·subst he;cases hr:sE (byt l e)with
  |true=>exact qM l e 3 e (by omega) hr (by exact h2)
  |false=>
   rw[dD l e 3 e (by omega) hr];refine zfx l e (fun t ht hs hc=>?_) 3 (sH _);obtain⟨e',P',g1,g2,g3,g4,g5⟩:=zgP l t (by omega) l.length 0 (by omega) (Nat.zero_le _);have ee:e'=t:=by
    rcases ta e' t with hlt|hge
    ·have:=(cg l e' t (by omega) hlt g3).1;rw[this]at hs;cases hs
    ·omega
   subst ee;have:=chain l e' e P' g4 g5 ⟨mk1 e (l.drop e),by rw[h];simp,rfl⟩ ht;omega
 ·have hin:∀t,e<t->t<=q->sE (byt l t)=false:=fun t a b=>(cg l e t hel a (by omega)).1;have hst:sE (byt l e)=true:=(cg l e q hel (by omega) h2).2;have hj:q=e+1\/q=e+2\/q=e+3:=by omega
  rcases hj with rfl|rfl|rfl
  ·rw[dD l (e+1) 3 (e+1) (by omega) (hin _ (by omega) (by omega))];exact qM l (e+1) 2 e (by omega) hst h2
  ·rw[dD l (e+2) 3 (e+2) (by omega) (hin _ (by omega) (by omega)),dD l (e+2) 2 (e+1) (by omega) (hin _ (by omega) (by omega))];exact qM l (e+2) 1 e (by omega) hst h2
  ·rw[dD l (e+3) 3 (e+3) (by omega) (hin _ (by omega) (by omega)),dD l (e+3) 2 (e+2) (by omega) (hin _ (by omega) (by omega)),dD l (e+3) 1 (e+1) (by omega) (hin _ (by omega) (by omega))];exact qM l (e+3) 0 e (by omega) hst h2
def ft(l:List UInt8)(p:Int):Int:=if p<=0 then 0 else if (l.length:Int)<p then l.length else nR l (p.toNat-1) 4
theorem pl_ge(l:List UInt8):∀m∈j6 0 l,0<=m.pl/\m.pl<l.length:=fun m hm=>by have h:=zbR l l.length 0 (by omega) m (by simpa using hm);exact⟨h.1,h.2⟩
theorem getD_take(l:List UInt8)(n i:Nat):((l.take n).getD i 0).toNat=if i<n then (l.getD i 0).toNat else 0:=by by_cases h:i<n<;>simp[sO,List.getElem?_take,h]
theorem decodeN_cut(N n b0 b1 b2 b3:Nat)(h1:1<=n)(h:(sI N b0 b1 b2 b3).2<=n):
  sI (min n N) b0 (if 1<n then b1 else 0) (if 2<n then b2 else 0) (if 3<n then b3 else 0)=sI N b0 b1 b2 b3:=by
 have c:n=1\/n=2\/n=3\/4<=n:=by omega
 rcases c with rfl|rfl|rfl|c
 ·simp only[sV,if_false,Nat.reduceLT];unfold sI at*;revert h
  repeat' split
  all_goals first|(intro h;dsimp only at h;exfalso;omega)|(intro _;rfl)
 ·simp only[sV,if_false,if_true,Nat.reduceLT];unfold sI at*;revert h
  repeat' split
  all_goals first|(intro h;dsimp only at h;exfalso;omega)|(intro _;rfl)
 ·simp only[sV,if_false,if_true,Nat.reduceLT];unfold sI at*;revert h
  repeat' split
  all_goals first|(intro h;dsimp only at h;exfalso;omega)|(intro _;rfl)
 ·rw[if_pos (by omega),if_pos (by omega),if_pos (by omega)];unfold sI;have e1:(1<min n N)=(1<N):=propext ⟨fun h=>by omega,fun h=>by omega⟩;have e2:(2<min n N)=(2<N):=propext ⟨fun h=>by omega,fun h=>by omega⟩;have e3:(3<min n N)=(3<N):=propext ⟨fun h=>by omega,fun h=>by omega⟩;simp only[e1,e2,e3]
theorem dec_take(l:List UInt8)(h:l≠ [])(n:Nat)(hn:(dec l).2<=n):dec (l.take n)=dec l:=by
 have h1:=dec_ge l h;have hp:0<l.length:=sJ.2 h;have hne:l.take n≠ []:=fun e=>by have:=congrArg sQ e;rw[sN]at this;simp only[sT]at this;omega
 have hn1:1<=n:=by omega
 rw[dm _ hne,dm l h,sN];rw[dm l h]at hn;simp only[getD_take];rw[if_pos (by omega:0<n)];exact decodeN_cut _ _ _ _ _ _ (by omega) hn
theorem zeK(l:List UInt8):∀(n t:Nat),l.length-t<=n->t<l.length->
  ∃e,t<=e/\e<l.length/\e+dY l e=l.length/\j6 t (l.drop t)=j6 t ((l.take e).drop t)++[mk1 e (l.drop e)]
 |0,t,h,ht=>by omega
 |n+1,t,h,ht=>by
  have h1:=kj l t ht;have h2:=zlH l t ht;by_cases hc:t+dY l t=l.length
  ·refine⟨t,sH _,ht,hc,?_⟩;rw[gN l t ht,hc,oH l l.length (by omega),(show(l.take t).drop t=[]from sM (by simp;omega)),ziI];rfl
  ·obtain⟨e,g1,g2,g3,g4⟩:=zeK l n (t+dY l t) (by omega) (by omega);refine⟨e,by omega,g2,g3,?_⟩;have hd:(l.take e).drop t=(l.drop t).take (e-t):=sU ..;have hl:(l.take e).length=e:=by simp;omega
   have hdec:dec ((l.take e).drop t)=dec (l.drop t):=by rw[hd];exact dec_take _ (aY l t ht) _ (by unfold dY at g1;omega)
   have hw:dY (l.take e) t=dY l t:=by unfold dY;rw[hdec]
   rw[gN l t ht,g4,gN (l.take e) t (by omega),hw];have hm:mk1 t ((l.take e).drop t)=mk1 t (l.drop t):=by unfold mk1;rw[hdec]
   rw[hm];rfl
theorem qh(l:List UInt8)(h:l≠ []):∃e,e<l.length/\e+dY l e=l.length/\j6 0 l=j6 0 (l.take e)++[mk1 e (l.drop e)]:=by obtain⟨e,_,g2,g3,g4⟩:=zeK l l.length 0 (by omega) (sJ.2 h);exact⟨e,g2,g3,by simpa using g4⟩
theorem zdI(l:List UInt8)(s e:Nat)(hs:s<l.length)(hr:sE (byt l s)=true)(he:∃m∈j6 0 l,m.pl=(e:Int))(hlt:s<e):s+dY l s<=e:=by
 obtain⟨e',P',g1,g2,g3,g4,g5⟩:=zgP l s hs l.length 0 (by omega) (Nat.zero_le _);have ee:e'=s:=by
  rcases ta e' s with hlt|hge
  ·have:=(cg l e' s (by omega) hlt g3).1;rw[this]at hr;cases hr
  ·omega
 subst ee;exact chain l e' e P' g4 g5 he hlt
theorem mw(l:List UInt8)(i:Nat):Lib.runeStartB (l.getD i 0)=sE (byt l i):=Lib.runeStartB_eq _
theorem zbV(l:List UInt8)(h:2<=l.length):sK l<=l.length-2:=by
 unfold sK;simp only
 repeat' split
 all_goals omega
theorem ziT(l:List UInt8)(h:l≠ [])(e:Nat)(he:e<l.length)(hw:e+dY l e=l.length)(hm:j6 0 l=j6 0 (l.take e)++[mk1 e (l.drop e)]):bw l=dec (l.drop e):=by
 have hp:0<l.length:=sJ.2 h;have hge:=kj l e he;have h4:=zhM l e;unfold bw;rw[if_neg h];unfold sX;rw[if_neg h];by_cases h1:dY l e=1
 ·have ee:e=l.length-1:=by omega
  have hdl:(l.drop e).length=1:=by simp;omega
  have hb0:(l.drop e).getD 0 0=l.getD e 0:=by simp[sO]
  have hN:dec (l.drop e)=if (l.getD e 0).toNat<128 then ((l.getD e 0).toNat,1)else (65533,1):=by rw[dm _ (aY l e he),hdl,hb0];unfold sI;simp
  rw[hN,<-ee];by_cases ha:(l.getD e 0).toNat<128
  ·rw[if_pos ha,if_pos ha]
  ·rw[if_neg ha,if_neg ha];by_cases hl1:l.length=1
   ·have hs:=Lib.lastStart_one l hl1;have e0:e=0:=by omega
    simp only[hs];rw[<-dec_eqL _ (aY l 0 hp)];rw[e0]at hN ha;rw[hN,if_neg ha];simp[Utf8.runeError]
   ·have hsl:=zbV l (by omega);have hslt:sK l<l.length:=by omega
    simp only;rw[<-dec_eqL _ (aY l _ hslt),if_neg]
    ·rfl
    ·intro hc;change sK l+dY l (sK l)=l.length at hc;generalize sK l=s at*;cases hr:sE (byt l s)with
     |true=>have:=zdI l s e hslt hr ⟨mk1 e (l.drop e),by rw[hm];simp,rfl⟩ (by omega);omega
     |false=>
      have hg:=kj l s hslt;have:¬1<dY l s:=fun hw1=>by have:=(cg l s (s+1) hslt (by omega) (by omega)).2;rw[this]at hr;cases hr
      omega
 ·have hlast:=(cg l e (l.length-1) he (by omega) (by omega)).1;have hst:=(cg l e (l.length-1) he (by omega) (by omega)).2;have ha:¬(l.getD (l.length-1) 0).toNat<128:=by
   have:((l.getD (l.length-1) 0).toNat:Int) / 64=2:=by simpa[sE,byt]using hlast
   omega
  rw[if_neg ha];have hs:sK l=e:=by
   have hc:dY l e=2\/dY l e=3\/dY l e=4:=by omega
   rcases hc with hc|hc|hc
   ·exact Lib.lastStart_at2 l e (by omega) (by rw[mw];exact hst)
   ·exact Lib.lastStart_at3 l e (by omega) (by rw[mw];exact(cg l e (e+1) he (by omega) (by omega)).1) (by rw[mw];exact hst)
   ·exact Lib.lastStart_at4 l e (by omega) (by rw[mw];exact(cg l e (e+2) he (by omega) (by omega)).1) (by rw[mw];exact(cg l e (e+1) he (by omega) (by omega)).1) (by rw[mw];exact hst)
  simp only[hs];rw[<-dec_eqL _ (aY l e he),if_pos (show e+(dec (l.drop e)).2=l.length from hw)]
theorem zkR(l:List UInt8)(h:l≠ []):∃e n c:Nat,bw l=(c,n)/\1<=n/\e+n=l.length/\c<=1114111/\nR l (l.length-1) 4=e/\prs l=prs (l.take e)++[((e:Int),(c:Int))]:=by
 obtain⟨e,h1,h2,h3⟩:=qh l h;refine⟨e,dY l e,(dec (l.drop e)).1,ziT l h e h1 h2 h3,kj l e h1,h2,dec_rune _ (aY l e h1),?_,?_⟩
 ·refine qO l (l.length-1) e (j6 0 (l.take e)) (by omega) (by omega) (by omega) ?_;rw[h3,oH l (e+dY l e) (by omega)]
 ·unfold prs;rw[h3,List.map_append];rfl
def Mk.on(e:Nat)(m:Mk):Mk:={m with pl:=m.pl+e}
theorem zar(e:Nat):∀(n k:Nat)(l:List UInt8),l.length<=n->j6 (e+k) l=(j6 k l).map (Mk.on e)
 |0,k,l,h=>by have:l=[]:=sD.1 (by omega);subst this;rfl
 |n+1,k,l,h=>by
  by_cases hl:l=[]
  ·subst hl;rfl
  ·have h1:=dec_ge l hl;have hp:0<l.length:=sJ.2 hl;rw[iH _ l hl,iH k l hl,Nat.add_assoc,zar e n (k+(dec l).2) (l.drop (dec l).2) (by simp;omega),List.map_cons];congr 1;unfold mk1 Mk.on;simp;omega
end
section
def rlF:Nat->List UInt8->List (Nat×Nat)
 |0,_=>[]
 |f+1,l=>if l=[]then []else dec l::rlF f (l.drop (dec l).2)
theorem zbs:∀(f g:Nat)(l:List UInt8),l.length<=f->l.length<=g->rlF f l=rlF g l
 |0,0,_,_,_=>rfl
 |0,g+1,l,hf,hg=>by have:l=[]:=sD.1 (by omega);subst this;rfl
 |f+1,0,l,hf,hg=>by have:l=[]:=sD.1 (by omega);subst this;rfl
 |f+1,g+1,l,hf,hg=>by
  unfold rlF;by_cases h:l=[]
  ·rw[if_pos h,if_pos h]
  ·have h1:=dec_ge l h;rw[if_neg h,if_neg h,zbs f g (l.drop (dec l).2) (by rw[sG];omega) (by rw[sG];omega)]
def rl(l:List UInt8):List (Nat×Nat):=rlF l.length l
theorem iA:rl []=[]:=rfl
theorem bD(l:List UInt8)(h:l≠ []):rl l=dec l::rl (l.drop (dec l).2):=by
 have h1:=dec_ge l h;have hp:0<l.length:=sJ.2 h;unfold rl;rw[zbs l.length (l.length-1+1) l (by omega) (by omega)]
 conv=>lhs;unfold rlF
 rw[if_neg h,zbs (l.length-1) _ (l.drop (dec l).2) (by rw[sG];omega) (sH _)]
def nC(X:List (Nat×Nat)):Nat:=(X.map (·.2)).sum
theorem zqL:nC []=0:=rfl
theorem iC(x:Nat×Nat)(X:List (Nat×Nat)):nC (x::X)=x.2+nC X:=by simp[nC]
theorem oA(X Y:List (Nat×Nat)):nC (X++Y)=nC X+nC Y:=by simp[nC]
theorem zbq:∀(n:Nat)(l:List UInt8),l.length<=n->nC (rl l)=l.length
 |0,l,h=>by have:l=[]:=sD.1 (by omega);subst this;rfl
 |n+1,l,h=>by
  by_cases hl:l=[]
  ·subst hl;rfl
  ·have h1:=dec_ge l hl;have h2:=dec_le l hl;rw[bD l hl,iC,zbq n _ (by rw[sG];omega),sG];omega
theorem zbr:∀(n:Nat)(l:List UInt8),l.length<=n->∀x∈rl l,1<=x.2
 |0,l,h,x,hx=>by have:l=[]:=sD.1 (by omega);subst this;cases hx
 |n+1,l,h,x,hx=>by
  by_cases hl:l=[]
  ·subst hl;cases hx
  ·have h1:=dec_ge l hl;rw[bD l hl]at hx;rcases sL.1 hx with rfl|hx
   ·exact h1
   ·exact zbr n _ (by rw[sG];omega) x hx
theorem pL:∀(k:Nat)(l:List UInt8),k<=(rl l).length->rl (l.take (nC ((rl l).take k)))=(rl l).take k/\rl (l.drop (nC ((rl l).take k)))=(rl l).drop k
 |0,l,_=>by simp[nC,iA]
 |k+1,l,hk=>by
  by_cases hl:l=[]
  ·subst hl;simp[iA]at hk
  ·have h1:=dec_ge l hl;have hc:=bD l hl;rw[hc,List.length_cons]at hk;obtain⟨i1,i2⟩:=pL k (l.drop (dec l).2) (by omega);rw[hc,List.take_succ_cons,iC,List.drop_succ_cons];refine⟨?_,by rw[<-sP];exact i2⟩;have hm:l.take ((dec l).2+nC ((rl (l.drop (dec l).2)).take k))≠ []:=fun e=>by have:=congrArg sQ e;have h2:=dec_le l hl;rw[sN,sT]at this;omega
   rw[bD _ hm,dec_take l hl _ (by omega),sU,Nat.add_sub_cancel_left,i1]
def eV(l:List UInt8):List UInt8:=l.take (l.length-(bw l).2)
theorem zqE(l:List UInt8)(h:l≠ []):rl l=rl (eV l)++[bw l]:=by
 obtain⟨e,h1,h2,h3⟩:=qh l h;have h4:=ziT l h e h1 h2 h3;have he:l.length-(bw l).2=e:=by rw[h4];unfold dY at h2;omega
 have hx:rl (l.drop e)=[bw l]:=by rw[bD _ (aY l e h1),h4,sP,show e+(dec (l.drop e)).2=l.length from h2,List.drop_length,iA]
 unfold eV;rw[he]
 -- e is an edge
 have key:∀(n:Nat)(l:List UInt8)(e:Nat),l.length<=n->e<=l.length->(e=l.length\/∃m∈j6 0 l,m.pl=(e:Int))->rl l=rl (l.take e)++rl (l.drop e):=by
  intro n
  induction n with
  |zero=>intro l e hn he _;have:l=[]:=sD.1 (by omega);subst this;simp[iA]
  |succ n ih=>
   intro l e hn he hm;by_cases hl:l=[]
   ·subst hl;simp[iA]
   ·by_cases h0:e=0
    ·subst h0;simp[iA]
    ·have d1:=dec_ge l hl;have d2:=dec_le l hl;have hle:(dec l).2<=e:=by
      rcases hm with rfl|⟨m,hm,hp⟩
      ·exact d2
      ·rw[iH 0 l hl]at hm;rcases sL.1 hm with rfl|hm
       ·have:((0:Nat):Int)=(e:Int):=hp;omega
       ·have hge:=zbR l _ (0+(dec l).2) (sH _) m (by simpa using hm);omega
     have hm':e-(dec l).2=(l.drop (dec l).2).length\/∃m∈j6 0 (l.drop (dec l).2),m.pl=((e-(dec l).2:Nat):Int):=by
      rcases hm with rfl|⟨m,hm,hp⟩
      ·left;rw[sG]
      ·rw[iH 0 l hl]at hm;rcases sL.1 hm with rfl|hm
       ·have:((0:Nat):Int)=(e:Int):=hp;omega
       ·right;have hs:=zar (dec l).2 _ 0 (l.drop (dec l).2) (sH _);rw[sZ]at hm;rw[sW]at hs;rw[hs]at hm;obtain⟨m',hm',rfl⟩:=List.mem_map.1 hm;refine⟨m',hm',?_⟩;have hp':m'.pl+((dec l).2:Int)=(e:Int):=hp;omega
     have hi:=ih (l.drop (dec l).2) (e-(dec l).2) (by rw[sG];omega) (by rw[sG];omega) hm';have hne:l.take e≠ []:=fun h=>by have:=congrArg sQ h;rw[sN,sT]at this;omega
     rw[bD l hl,hi,bD _ hne,dec_take l hl e hle,sU,sP,Nat.add_sub_cancel' hle];rfl
 rw[key l.length l e (sH _) (by omega) (.inr ⟨mk1 e (l.drop e),by rw[h3];simp,rfl⟩),hx]
end
namespace Wt
def pos(s:List UInt8)(k:Nat):Nat:=nC ((rl s).take k)
theorem pW(s:List UInt8):pos s 0=0:=rfl
theorem bY(s:List UInt8)(k:Nat)(h:(rl s).length<=k):pos s k=s.length:=by unfold pos;rw[sS h];exact zbq _ s (sH _)
theorem zep(X:List (Nat×Nat))(k:Nat)(h:k<X.length):nC (X.take (k+1))=nC (X.take k)+(X[k]).2:=by rw[List.take_succ_eq_append_getElem h,oA];simp[nC]
theorem dJ(s:List UInt8)(k:Nat)(h:k<(rl s).length):pos s k<pos s (k+1):=by unfold pos;rw[zep _ k h];have:=zbr _ s (sH _) _ (List.getElem_mem h);omega
theorem cz(s:List UInt8):∀(n i:Nat),i+n<=(rl s).length->pos s i+n<=pos s (i+n)
 |0,i,_=>sH _
 |n+1,i,h=>by have h1:=cz s n i (by omega);have h2:=dJ s (i+n) (by omega);show pos s i+(n+1)<=pos s (i+n+1);omega
theorem dZ(s:List UInt8)(k:Nat)(h:k<=(rl s).length):pos s k<=s.length:=by have h1:=cz s ((rl s).length-k) k (by omega);rw[bY s (k+((rl s).length-k)) (by omega)]at h1;omega
theorem cU(s:List UInt8)(k:Nat)(h:k<(rl s).length):pos s k<s.length:=by have h1:=dJ s k h;have h2:=dZ s (k+1) h;omega
theorem rl_take(s:List UInt8)(k:Nat)(h:k<=(rl s).length):rl (s.take (pos s k))=(rl s).take k:=(pL k s h).1
theorem rl_drop(s:List UInt8)(k:Nat)(h:k<=(rl s).length):rl (s.drop (pos s k))=(rl s).drop k:=(pL k s h).2
theorem cM(s:List UInt8)(k:Nat)(h:k<(rl s).length):pos s k+(dec (s.drop (pos s k))).2=pos s (k+1):=by have h1:=rl_drop s k (tc h);have hne:s.drop (pos s k)≠ []:=aY s _ (cU s k h);rw[bD _ hne,List.drop_eq_getElem_cons h]at h1;have h2:=(List.cons.inj h1).1;rw[h2];show _=nC _;rw[zep _ k h];rfl
theorem zbQ(s:List UInt8):∀k:Nat,k<=(rl s).length->∃P,j6 0 s=P++j6 (pos s k) (s.drop (pos s k))
 |0,_=>⟨[],by rw[pW];simp⟩
 |k+1,h=>by obtain⟨P,hP⟩:=zbQ s k (by omega);refine⟨P++[mk1 (pos s k) (s.drop (pos s k))],?_⟩;rw[hP,gN s (pos s k) (cU s k h)];have e:pos s k+dY s (pos s k)=pos s (k+1):=cM s k h;rw[e];simp
theorem qR(s:List UInt8)(k:Nat)(h:k<(rl s).length):ft s (pos s (k+1))=(pos s k:Nat):=by have h1:=dJ s k h;have h2:=dZ s (k+1) h;obtain⟨P,hP⟩:=zbQ s k (tc h);have hl:=cU s k h;rw[gN s _ hl]at hP;have e:pos s k+dY s (pos s k)=pos s (k+1):=cM s k h;unfold ft;rw[if_neg (by omega),if_neg (by omega),Int.toNat_natCast,qO s (pos s (k+1)-1) (pos s k) P (by omega) (by omega) (by omega) hP]
theorem znr(s:List UInt8)(i j:Nat)(hij:i<=j)(hj:j<=(rl s).length):pos (s.take (pos s j)) i=pos s i:=by unfold pos;rw[show rl (s.take (nC ((rl s).take j)))=(rl s).take j from rl_take s j hj,List.take_take,Nat.min_eq_left hij]
end Wt
end Go.Proofs.YtbbapnpdfcgjnaaGreatDoor
