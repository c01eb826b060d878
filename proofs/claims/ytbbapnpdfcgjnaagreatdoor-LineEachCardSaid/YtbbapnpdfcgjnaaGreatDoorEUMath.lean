/- UMath, RMath, REdge: parts of the proof, joined. -/
import Derived.Shelf.Unicode.DecodeLast
import Derived.Lib.MapLaws
open List renaming length_eq_zero_iff->sR, length_drop->sT, length_pos_iff->sW, mem_cons->sY, drop_of_length_le->sZ, length_take->ta, drop_drop->tc, length->td, getD->te, take_of_length_le->tg, length_nil->ti, drop_take->tj
open Go.Lib renaming runeStart->sS, decodeN->sV, lastStart->sX, decodeGo->tf, decodeLastL->tp, decode_at->tq
open Nat renaming le_refl->sU, lt_irrefl->tk, add_zero->tn, zero_add->tr, lt_or_ge->tt
set_option maxHeartbeats 64000000
namespace Go.Proofs.YtbbapnpdfcgjnaaGreatDoor
section
structure Mk where
 pl:Int
 wd:Int
 ru:Int
 bad:Bool
def dec(l:List UInt8):Nat×Nat:=if l=[]then (0,0)else tf ⟨l.toArray⟩
def aY(l:List UInt8):Nat×Nat:=if l=[]then (0,0)else tp l
theorem ext_drop(l:List UInt8)(t:Nat):(⟨l.toArray⟩:ByteArray).extract t l.length=⟨(l.drop t).toArray⟩:=by
 apply ByteArray.ext
 simp[ByteArray.data_extract,tg]
def byt(l:List UInt8)(i:Nat):Int:=((l.getD i 0).toNat:Int)
def bgF(l:List UInt8)(p:Nat):Nat->Nat
 |0=>p
 |f+1=>if p<3-f then p else if sS (byt l (p-(3-f)))then (if p<p-(3-f)+(dec (l.drop (p-(3-f)))).2 then p-(3-f)else p)else bgF l p f
theorem dec_le4(l:List UInt8):(dec l).2<=4:=by
 unfold dec
 split
 ·simp
 ·unfold tf
  split
  ·simp
  ·unfold Utf8.decode
   simp only[]
   repeat' split
   all_goals simp
theorem zrw(l:List UInt8)(p f:Nat)(h:p<4-f):bgF l p f=p:=by
 cases f with
 |zero=>rfl
 |succ f=>unfold bgF;rw[if_pos (by omega)]
theorem dR(l:List UInt8)(p f t:Nat)(ht:t+(3-f)=p)(h:sS (byt l t)=false):bgF l p (f+1)=bgF l p f:=by
 have e:p-(3-f)=t:=by omega
 conv=>lhs;unfold bgF
 rw[if_neg (by omega),e,h];simp
theorem zbv(l:List UInt8)(p f t:Nat)(ht:t+(3-f)=p)(h:sS (byt l t)=true)(hn:p<t+(dec (l.drop t)).2):bgF l p (f+1)=t:=by
 have e:p-(3-f)=t:=by omega
 unfold bgF;rw[if_neg (by omega),e,h,if_pos rfl,if_pos hn]
theorem zrx(l:List UInt8)(p f t:Nat)(ht:t+(3-f)=p)(h:sS (byt l t)=true)(hn:¬p<t+(dec (l.drop t)).2):bgF l p (f+1)=p:=by
 have e:p-(3-f)=t:=by omega
 unfold bgF;rw[if_neg (by omega),e,h,if_pos rfl,if_neg hn]
theorem zeB(l:List UInt8)(i:Nat):(⟨l.toArray⟩:ByteArray).get! i=l.getD i 0:=by
 show l.toArray.getD i default=l.getD i 0
 by_cases h:i<l.length
 ·simp[Array.getD,te,h]
 ·simp[Array.getD,te,h];rfl
theorem di(l:List UInt8)(h:l≠ []):dec l=sV l.length (l.getD 0 0).toNat (l.getD 1 0).toNat (l.getD 2 0).toNat (l.getD 3 0).toNat:=by
 unfold dec;rw[if_neg h];unfold tf;have hs:(⟨l.toArray⟩:ByteArray).size=l.length:=by show l.toArray.size=_;simp
 rw[if_neg (by rw[hs];exact fun e=>h (sR.1 e)),tq,hs]
 simp only[zeB,tr,Nat.sub_zero]
theorem dec_eqL(l:List UInt8)(h:l≠ []):dec l=Lib.decodeL l:=by
 unfold dec;rw[if_neg h];unfold tf;have hs:(⟨l.toArray⟩:ByteArray).size=l.length:=by show l.toArray.size=_;simp
 rw[if_neg (by rw[hs];exact fun e=>h (sR.1 e))]
 rfl
theorem dec_ge(l:List UInt8)(h:l≠ []):1<=(dec l).2:=by rw[dec_eqL l h];exact Lib.decodeL_width l
theorem dec_le(l:List UInt8)(h:l≠ []):(dec l).2<=l.length:=by rw[dec_eqL l h];exact Lib.decodeL_le l h
theorem dec_rune(l:List UInt8)(h:l≠ []):(dec l).1<=1114111:=by rw[dec_eqL l h];exact Lib.decodeL_rune l
def mk1(p:Nat)(l:List UInt8):Mk:=⟨p,(dec l).2,(dec l).1,decide ((dec l).2=1)&&decide ((dec l).1=65533)⟩
def zcN:Nat->Nat->List UInt8->List Mk
 |0,_,_=>[]
 |k+1,p,l=>if l=[]then []else mk1 p l::zcN k (p+(dec l).2) (l.drop (dec l).2)
theorem pw:∀(k k' p:Nat)(l:List UInt8),l.length<=k->l.length<=k'->zcN k p l=zcN k' p l
 |0,0,_,_,_,_=>rfl
 |0,k'+1,p,l,h,_=>by
  have:l=[]:=sR.1 (by omega)
  subst this;simp[zcN]
 |k+1,0,p,l,_,h=>by
  have:l=[]:=sR.1 (by omega)
  subst this;simp[zcN]
 |k+1,k'+1,p,l,h,h'=>by
  unfold zcN
  by_cases e:l=[]
  ·simp[e]
  ·rw[if_neg e,if_neg e]
   have:=dec_ge l e;rw[pw k k' (p+(dec l).2) (l.drop (dec l).2) (by simp;omega) (by simp;omega)]
def kA(p:Nat)(l:List UInt8):List Mk:=zcN l.length p l
theorem zhP(p:Nat):kA p []=[]:=rfl
theorem iu(p:Nat)(l:List UInt8)(h:l≠ []):kA p l=mk1 p l::kA (p+(dec l).2) (l.drop (dec l).2):=by
 have h1:=dec_ge l h;have h2:=dec_le l h;unfold kA;rw[pw l.length (l.length-1+1) p l (by omega) (by omega)]
 conv=>lhs;unfold zcN
 rw[if_neg h,pw (l.length-1) (l.drop (dec l).2).length _ _ (by simp;omega) (by omega)]
theorem znW(l:List UInt8)(t j:Nat):(l.drop t).getD j 0=l.getD (t+j) 0:=by simp[te]
theorem lG(l:List UInt8)(t:Nat)(h:t<l.length):Utf8.decode ⟨l.toArray⟩ t=dec (l.drop t):=by
 have hne:l.drop t≠ []:=fun e=>by have:=congrArg td e;simp at this;omega
 have hs:(⟨l.toArray⟩:ByteArray).size=l.length:=by show l.toArray.size=_;simp
 rw[di _ hne,tq,hs]
 simp only[zeB,znW,sT,tn]
def prs(l:List UInt8):List (Int×Int):=(kA 0 l).map fun m=>(m.pl,m.ru)
def prF(l:List UInt8)(t:Nat):List (Int×Int):=(kA t (l.drop t)).map fun m=>(m.pl,m.ru)
theorem prF_end(l:List UInt8)(t:Nat)(h:¬t<l.length):prF l t=[]:=by
 unfold prF;rw[sZ (by omega),zhP];rfl
theorem zeY(l:List UInt8)(t j:Nat):byt (l.drop t) j=byt l (t+j):=by simp[byt,te]
def eu(l:List UInt8)(t:Nat):Nat:=(dec (l.drop t)).2
theorem bD(l:List UInt8)(t:Nat)(h:t<l.length):l.drop t≠ []:=fun e=>by have:=congrArg td e;simp at this;omega
theorem jZ(l:List UInt8)(t:Nat)(h:t<l.length):1<=eu l t:=dec_ge _ (bD l t h)
theorem zkS(l:List UInt8)(t:Nat)(h:t<l.length):t+eu l t<=l.length:=by
 have:=dec_le _ (bD l t h);simp only[sT]at this;unfold eu;omega
theorem zgY(l:List UInt8)(t:Nat):eu l t<=4:=dec_le4 _
theorem zkv(l:List UInt8)(h:l≠ [])(j:Nat)(h1:1<=j)(h2:j<(dec l).2):sS (byt l j)=false/\sS (byt l 0)=true:=by
 have h4:=dec_le4 l;have hj:j=1\/j=2\/j=3:=by omega
 have key:byt l j / 64=2/\¬byt l 0 / 64=2:=by
  rw[di l h]at h2
  rcases hj with rfl|rfl|rfl
  all_goals
   unfold byt
   generalize (l.getD 0 0).toNat=b0 at*
   generalize (l.getD 1 0).toNat=b1 at*
   generalize (l.getD 2 0).toNat=b2 at*
   generalize (l.getD 3 0).toNat=b3 at*
   unfold sV at h2
   split at h2
   ·exfalso;simp at h2
   ·split at h2
    ·split at h2
     ·simp at h2<;>omega
     ·exfalso;simp at h2
    ·split at h2
     ·split at h2
      ·simp at h2<;>omega
      ·exfalso;simp at h2
     ·split at h2
      ·split at h2
       ·simp at h2<;>omega
       ·exfalso;simp at h2
      ·exfalso;simp at h2
 unfold sS
 simp[key]
theorem ct(l:List UInt8)(t q:Nat)(ht:t<l.length)(h1:t<q)(h2:q<t+eu l t):sS (byt l q)=false/\sS (byt l t)=true:=by
 have h:=zkv (l.drop t) (bD l t ht) (q-t) (by omega) (by unfold eu at h2;omega)
 rw[zeY,zeY]at h;rw[show t+(q-t)=q by omega,tn]at h
 exact h
theorem mh(l:List UInt8)(t:Nat)(h:t<l.length):kA t (l.drop t)=mk1 t (l.drop t)::kA (t+eu l t) (l.drop (t+eu l t)):=by
 rw[iu t (l.drop t) (bD l t h),tc];rfl
theorem nY(l:List UInt8)(t:Nat)(h:¬t<l.length):kA t (l.drop t)=[]:=by rw[sZ (by omega)];rfl
theorem zaJ(l:List UInt8):∀(n t:Nat),l.length-t<=n->∀m∈kA t (l.drop t),(t:Int)<=m.pl/\m.pl<l.length
 |0,t,h,m,hm=>by rw[nY l t (by omega)]at hm;cases hm
 |n+1,t,h,m,hm=>by
  by_cases ht:t<l.length
  ·rw[mh l t ht]at hm
   have hw:=jZ l t ht
   rcases sY.1 hm with rfl|hm
   ·exact⟨Int.le_refl _,by show(t:Int)<_;omega⟩
   ·have:=zaJ l n (t+eu l t) (by omega) m hm
    omega
  ·rw[nY l t ht]at hm;cases hm
theorem zfU(l:List UInt8)(q:Nat)(hq:q<l.length):∀(n t:Nat),l.length-t<=n->t<=q->
  ∃(e:Nat)(P:List Mk),t<=e/\e<=q/\q<e+eu l e/\kA t (l.drop t)=P++mk1 e (l.drop e)::kA (e+eu l e) (l.drop (e+eu l e))/\∀m∈P,m.pl<(e:Int)
 |0,t,h,ht=>by omega
 |n+1,t,h,ht=>by
  have htl:t<l.length:=by omega
  have hw:=jZ l t htl
  by_cases hc:q<t+eu l t
  ·exact⟨t,[],sU _,ht,hc,mh l t htl,fun m hm=>by cases hm⟩
  ·obtain⟨e,P,h1,h2,h3,h4,h5⟩:=zfU l q hq n (t+eu l t) (by omega) (by omega)
   refine⟨e,mk1 t (l.drop t)::P,by omega,h2,h3,by rw[mh l t htl,h4];rfl,fun m hm=>?_⟩
   rcases sY.1 hm with rfl|hm
   ·show(t:Int)<e;omega
   ·exact h5 m hm
theorem chain(l:List UInt8)(e x:Nat)(P:List Mk)(h:kA 0 l=P++mk1 e (l.drop e)::kA (e+eu l e) (l.drop (e+eu l e)))(hP:∀m∈P,m.pl<(e:Int))(hx:∃m∈kA 0 l,m.pl=(x:Int))(hlt:e<x):e+eu l e<=x:=by
 obtain⟨m,hm,he⟩:=hx;rw[h]at hm
 rcases List.mem_append.1 hm with hm|hm
 ·have:=hP m hm;omega
 ·rcases sY.1 hm with rfl|hm
  ·have:(e:Int)=x:=he
   omega
  ·have:=(zaJ l (l.length-(e+eu l e)) (e+eu l e) (sU _) m hm).1
   omega
theorem zfb(l:List UInt8)(q:Nat)(h:∀t,t<q->sS (byt l t)=true->¬q<t+eu l t):∀f,f<=3->bgF l q f=q
 |0,_=>rfl
 |f+1,hf=>by
  by_cases ho:q<4-(f+1)
  ·exact zrw l q (f+1) ho
  ·have ht:(q-(3-f))+(3-f)=q:=by omega
   cases hr:sS (byt l (q-(3-f)))with
   |false=>rw[dR l q f _ ht hr];exact zfb l q h f (by omega)
   |true=>exact zrx l q f _ ht hr (h _ (by omega) hr)
theorem zoW(l:List UInt8)(q e:Nat)(P:List Mk)(hq:q<l.length)(h1:e<=q)(h2:q<e+eu l e)(h:kA 0 l=P++mk1 e (l.drop e)::kA (e+eu l e) (l.drop (e+eu l e))):bgF l q 4=e:=by
 have h4:=zgY l e;have hel:e<l.length:=by omega
 by_cases he:e=q
 ·subst he
  cases hr:sS (byt l e)with
  |true=>exact zbv l e 3 e (by omega) hr (by exact h2)
  |false=>
   rw[dR l e 3 e (by omega) hr]
   refine zfb l e (fun t ht hs hc=>?_) 3 (sU _)
   obtain⟨e',P',g1,g2,g3,g4,g5⟩:=zfU l t (by omega) l.length 0 (by omega) (Nat.zero_le _)
   have ee:e'=t:=by
    rcases tt e' t with hlt|hge
    ·have:=(ct l e' t (by omega) hlt g3).1
     rw[this]at hs;cases hs
    ·omega
   subst ee;have:=chain l e' e P' g4 g5 ⟨mk1 e (l.drop e),by rw[h];simp,rfl⟩ ht
   omega
 ·have hin:∀t,e<t->t<=q->sS (byt l t)=false:=fun t a b=>(ct l e t hel a (by omega)).1
  have hst:sS (byt l e)=true:=(ct l e q hel (by omega) h2).2
  have hj:q=e+1\/q=e+2\/q=e+3:=by omega
  rcases hj with rfl|rfl|rfl
  ·rw[dR l (e+1) 3 (e+1) (by omega) (hin _ (by omega) (by omega))]
   exact zbv l (e+1) 2 e (by omega) hst h2
  ·rw[dR l (e+2) 3 (e+2) (by omega) (hin _ (by omega) (by omega)),dR l (e+2) 2 (e+1) (by omega) (hin _ (by omega) (by omega))]
   exact zbv l (e+2) 1 e (by omega) hst h2
  ·rw[dR l (e+3) 3 (e+3) (by omega) (hin _ (by omega) (by omega)),dR l (e+3) 2 (e+2) (by omega) (hin _ (by omega) (by omega)),dR l (e+3) 1 (e+1) (by omega) (hin _ (by omega) (by omega))]
   exact zbv l (e+3) 0 e (by omega) hst h2
theorem pl_ge(l:List UInt8):∀m∈kA 0 l,0<=m.pl/\m.pl<l.length:=fun m hm=>by
 have h:=zaJ l l.length 0 (by omega) m (by simpa using hm)
 exact⟨h.1,h.2⟩
theorem getD_take(l:List UInt8)(n i:Nat):((l.take n).getD i 0).toNat=if i<n then (l.getD i 0).toNat else 0:=by
 by_cases h:i<n<;>simp[te,List.getElem?_take,h]
theorem decodeN_cut(N n b0 b1 b2 b3:Nat)(h1:1<=n)(h:(sV N b0 b1 b2 b3).2<=n):
  sV (min n N) b0 (if 1<n then b1 else 0) (if 2<n then b2 else 0) (if 3<n then b3 else 0)=sV N b0 b1 b2 b3:=by
 have c:n=1\/n=2\/n=3\/4<=n:=by omega
 rcases c with rfl|rfl|rfl|c
 ·simp only[tk,if_false,Nat.reduceLT]
  unfold sV at*
  revert h
  repeat' split
  all_goals first|(intro h;dsimp only at h;exfalso;omega)|(intro _;rfl)
 ·simp only[tk,if_false,if_true,Nat.reduceLT]
  unfold sV at*
  revert h
  repeat' split
  all_goals first|(intro h;dsimp only at h;exfalso;omega)|(intro _;rfl)
 ·simp only[tk,if_false,if_true,Nat.reduceLT]
  unfold sV at*
  revert h
  repeat' split
  all_goals first|(intro h;dsimp only at h;exfalso;omega)|(intro _;rfl)
 ·rw[if_pos (by omega),if_pos (by omega),if_pos (by omega)]
  unfold sV;have e1:(1<min n N)=(1<N):=propext ⟨fun h=>by omega,fun h=>by omega⟩
  have e2:(2<min n N)=(2<N):=propext ⟨fun h=>by omega,fun h=>by omega⟩
  have e3:(3<min n N)=(3<N):=propext ⟨fun h=>by omega,fun h=>by omega⟩
  simp only[e1,e2,e3]
theorem dec_take(l:List UInt8)(h:l≠ [])(n:Nat)(hn:(dec l).2<=n):dec (l.take n)=dec l:=by
 have h1:=dec_ge l h;have hp:0<l.length:=sW.2 h;have hne:l.take n≠ []:=fun e=>by have:=congrArg td e;rw[ta]at this;simp only[ti]at this;omega
 have hn1:1<=n:=by omega
 rw[di _ hne,di l h,ta];rw[di l h]at hn
 simp only[getD_take]
 rw[if_pos (by omega:0<n)]
 exact decodeN_cut _ _ _ _ _ _ (by omega) hn
theorem zeo(l:List UInt8):∀(n t:Nat),l.length-t<=n->t<l.length->
  ∃e,t<=e/\e<l.length/\e+eu l e=l.length/\kA t (l.drop t)=kA t ((l.take e).drop t)++[mk1 e (l.drop e)]
 |0,t,h,ht=>by omega
 |n+1,t,h,ht=>by
  have h1:=jZ l t ht;have h2:=zkS l t ht
  by_cases hc:t+eu l t=l.length
  ·refine⟨t,sU _,ht,hc,?_⟩
   rw[mh l t ht,hc,nY l l.length (by omega),(show(l.take t).drop t=[]from sZ (by simp;omega)),zhP];rfl
  ·obtain⟨e,g1,g2,g3,g4⟩:=zeo l n (t+eu l t) (by omega) (by omega)
   refine⟨e,by omega,g2,g3,?_⟩
   have hd:(l.take e).drop t=(l.drop t).take (e-t):=tj ..;have hl:(l.take e).length=e:=by simp;omega
   have hdec:dec ((l.take e).drop t)=dec (l.drop t):=by rw[hd];exact dec_take _ (bD l t ht) _ (by unfold eu at g1;omega)
   have hw:eu (l.take e) t=eu l t:=by unfold eu;rw[hdec]
   rw[mh l t ht,g4,mh (l.take e) t (by omega),hw]
   have hm:mk1 t ((l.take e).drop t)=mk1 t (l.drop t):=by unfold mk1;rw[hdec]
   rw[hm];rfl
theorem pL(l:List UInt8)(h:l≠ []):∃e,e<l.length/\e+eu l e=l.length/\kA 0 l=kA 0 (l.take e)++[mk1 e (l.drop e)]:=by
 obtain⟨e,_,g2,g3,g4⟩:=zeo l l.length 0 (by omega) (sW.2 h)
 exact⟨e,g2,g3,by simpa using g4⟩
theorem zbX(l:List UInt8)(s e:Nat)(hs:s<l.length)(hr:sS (byt l s)=true)(he:∃m∈kA 0 l,m.pl=(e:Int))(hlt:s<e):s+eu l s<=e:=by
 obtain⟨e',P',g1,g2,g3,g4,g5⟩:=zfU l s hs l.length 0 (by omega) (Nat.zero_le _)
 have ee:e'=s:=by
  rcases tt e' s with hlt|hge
  ·have:=(ct l e' s (by omega) hlt g3).1
   rw[this]at hr;cases hr
  ·omega
 subst ee;exact chain l e' e P' g4 g5 he hlt
theorem lW(l:List UInt8)(i:Nat):Lib.runeStartB (l.getD i 0)=sS (byt l i):=Lib.runeStartB_eq _
theorem zaU(l:List UInt8)(h:2<=l.length):sX l<=l.length-2:=by
 unfold sX
 simp only
 repeat' split
 all_goals omega
theorem zic(l:List UInt8)(h:l≠ [])(e:Nat)(he:e<l.length)(hw:e+eu l e=l.length)(hm:kA 0 l=kA 0 (l.take e)++[mk1 e (l.drop e)]):aY l=dec (l.drop e):=by
 have hp:0<l.length:=sW.2 h;have hge:=jZ l e he;have h4:=zgY l e;unfold aY;rw[if_neg h];unfold tp;rw[if_neg h]
 by_cases h1:eu l e=1
 ·have ee:e=l.length-1:=by omega
  have hdl:(l.drop e).length=1:=by simp;omega
  have hb0:(l.drop e).getD 0 0=l.getD e 0:=by simp[te]
  have hN:dec (l.drop e)=if (l.getD e 0).toNat<128 then ((l.getD e 0).toNat,1)else (65533,1):=by
   rw[di _ (bD l e he),hdl,hb0];unfold sV
   simp
  rw[hN,<- ee]
  by_cases ha:(l.getD e 0).toNat<128
  ·rw[if_pos ha,if_pos ha]
  ·rw[if_neg ha,if_neg ha]
   by_cases hl1:l.length=1
   ·have hs:=Lib.lastStart_one l hl1
    have e0:e=0:=by omega
    simp only[hs]
    rw[<- dec_eqL _ (bD l 0 hp)];rw[e0]at hN ha;rw[hN,if_neg ha]
    simp[Utf8.runeError]
   ·have hsl:=zaU l (by omega)
    have hslt:sX l<l.length:=by omega
    simp only
    rw[<- dec_eqL _ (bD l _ hslt),if_neg]
    ·rfl
    ·intro hc
     change sX l+eu l (sX l)=l.length at hc
     generalize sX l=s at*
     cases hr:sS (byt l s)with
     |true=>
      have:=zbX l s e hslt hr ⟨mk1 e (l.drop e),by rw[hm];simp,rfl⟩ (by omega)
      omega
     |false=>
      have hg:=jZ l s hslt;have:¬1<eu l s:=fun hw1=>by
       have:=(ct l s (s+1) hslt (by omega) (by omega)).2
       rw[this]at hr;cases hr
      omega
 ·have hlast:=(ct l e (l.length-1) he (by omega) (by omega)).1
  have hst:=(ct l e (l.length-1) he (by omega) (by omega)).2
  have ha:¬(l.getD (l.length-1) 0).toNat<128:=by
   have:((l.getD (l.length-1) 0).toNat:Int) / 64=2:=by simpa[sS,byt]using hlast
   omega
  rw[if_neg ha];have hs:sX l=e:=by
   have hc:eu l e=2\/eu l e=3\/eu l e=4:=by omega
   rcases hc with hc|hc|hc
   ·exact Lib.lastStart_at2 l e (by omega) (by rw[lW];exact hst)
   ·exact Lib.lastStart_at3 l e (by omega) (by rw[lW];exact(ct l e (e+1) he (by omega) (by omega)).1) (by rw[lW];exact hst)
   ·exact Lib.lastStart_at4 l e (by omega) (by rw[lW];exact(ct l e (e+2) he (by omega) (by omega)).1) (by rw[lW];exact(ct l e (e+1) he (by omega) (by omega)).1) (by rw[lW];exact hst)
  simp only[hs]
  rw[<- dec_eqL _ (bD l e he),if_pos (show e+(dec (l.drop e)).2=l.length from hw)]
theorem zki(l:List UInt8)(h:l≠ []):∃e n c:Nat,aY l=(c,n)/\1<=n/\e+n=l.length/\c<=1114111/\bgF l (l.length-1) 4=e/\prs l=prs (l.take e)++[((e:Int),(c:Int))]:=by
 obtain⟨e,h1,h2,h3⟩:=pL l h;refine⟨e,eu l e,(dec (l.drop e)).1,zic l h e h1 h2 h3,jZ l e h1,h2,dec_rune _ (bD l e h1),?_,?_⟩
 ·refine zoW l (l.length-1) e (kA 0 (l.take e)) (by omega) (by omega) (by omega) ?_
  rw[h3,nY l (e+eu l e) (by omega)]
 ·unfold prs
  rw[h3,List.map_append];rfl
def Mk.on(e:Nat)(m:Mk):Mk:={m with pl:=m.pl+e}
theorem rG(e:Nat):∀(n k:Nat)(l:List UInt8),l.length<=n->kA (e+k) l=(kA k l).map (Mk.on e)
 |0,k,l,h=>by
  have:l=[]:=sR.1 (by omega)
  subst this;rfl
 |n+1,k,l,h=>by
  by_cases hl:l=[]
  ·subst hl;rfl
  ·have h1:=dec_ge l hl
   have hp:0<l.length:=sW.2 hl;rw[iu _ l hl,iu k l hl,Nat.add_assoc,rG e n (k+(dec l).2) (l.drop (dec l).2) (by simp;omega),List.map_cons]
   congr 1
   unfold mk1 Mk.on
   simp
   omega
end
section
def rlF:Nat->List UInt8->List (Nat×Nat)
 |0,_=>[]
 |f+1,l=>if l=[]then []else dec l::rlF f (l.drop (dec l).2)
theorem zam:∀(f g:Nat)(l:List UInt8),l.length<=f->l.length<=g->rlF f l=rlF g l
 |0,0,_,_,_=>rfl
 |0,g+1,l,hf,hg=>by
  have:l=[]:=sR.1 (by omega)
  subst this;rfl
 |f+1,0,l,hf,hg=>by
  have:l=[]:=sR.1 (by omega)
  subst this;rfl
 |f+1,g+1,l,hf,hg=>by
  unfold rlF
  by_cases h:l=[]
  ·rw[if_pos h,if_pos h]
  ·have h1:=dec_ge l h
   rw[if_neg h,if_neg h,zam f g (l.drop (dec l).2) (by rw[sT];omega) (by rw[sT];omega)]
def rl(l:List UInt8):List (Nat×Nat):=rlF l.length l
theorem ik:rl []=[]:=rfl
theorem cK(l:List UInt8)(h:l≠ []):rl l=dec l::rl (l.drop (dec l).2):=by
 have h1:=dec_ge l h;have hp:0<l.length:=sW.2 h;unfold rl;rw[zam l.length (l.length-1+1) l (by omega) (by omega)]
 conv=>lhs;unfold rlF
 rw[if_neg h,zam (l.length-1) _ (l.drop (dec l).2) (by rw[sT];omega) (sU _)]
def qt(X:List (Nat×Nat)):Nat:=(X.map (·.2)).sum
theorem kN(x:Nat×Nat)(X:List (Nat×Nat)):qt (x::X)=x.2+qt X:=by simp[qt]
theorem zqq(X Y:List (Nat×Nat)):qt (X++Y)=qt X+qt Y:=by simp[qt]
theorem zlE:∀(n:Nat)(l:List UInt8),l.length<=n->qt (rl l)=l.length
 |0,l,h=>by
  have:l=[]:=sR.1 (by omega)
  subst this;rfl
 |n+1,l,h=>by
  by_cases hl:l=[]
  ·subst hl;rfl
  ·have h1:=dec_ge l hl
   have h2:=dec_le l hl;rw[cK l hl,kN,zlE n _ (by rw[sT];omega),sT]
   omega
theorem zlF:∀(n:Nat)(l:List UInt8),l.length<=n->∀x∈rl l,1<=x.2
 |0,l,h,x,hx=>by
  have:l=[]:=sR.1 (by omega)
  subst this;cases hx
 |n+1,l,h,x,hx=>by
  by_cases hl:l=[]
  ·subst hl;cases hx
  ·have h1:=dec_ge l hl
   rw[cK l hl]at hx
   rcases sY.1 hx with rfl|hx
   ·exact h1
   ·exact zlF n _ (by rw[sT];omega) x hx
theorem zfw:∀(k:Nat)(l:List UInt8),k<=(rl l).length->rl (l.take (qt ((rl l).take k)))=(rl l).take k/\rl (l.drop (qt ((rl l).take k)))=(rl l).drop k
 |0,l,_=>by simp[qt,ik]
 |k+1,l,hk=>by
  by_cases hl:l=[]
  ·subst hl;simp[ik]at hk
  ·have h1:=dec_ge l hl
   have hc:=cK l hl;rw[hc,List.length_cons]at hk;obtain⟨i1,i2⟩:=zfw k (l.drop (dec l).2) (by omega)
   rw[hc,List.take_succ_cons,kN,List.drop_succ_cons];refine⟨?_,by rw[<- tc];exact i2⟩
   have hm:l.take ((dec l).2+qt ((rl (l.drop (dec l).2)).take k))≠ []:=fun e=>by
    have:=congrArg td e;have h2:=dec_le l hl;rw[ta,ti]at this;omega
   rw[cK _ hm,dec_take l hl _ (by omega),tj,Nat.add_sub_cancel_left,i1]
def qB(l:List UInt8):List UInt8:=l.take (l.length-(aY l).2)
theorem zqj(l:List UInt8)(h:l≠ []):rl l=rl (qB l)++[aY l]:=by
 obtain⟨e,h1,h2,h3⟩:=pL l h;have h4:=zic l h e h1 h2 h3;have he:l.length-(aY l).2=e:=by rw[h4];unfold eu at h2;omega
 have hx:rl (l.drop e)=[aY l]:=by
  rw[cK _ (bD l e h1),h4,tc,show e+(dec (l.drop e)).2=l.length from h2,List.drop_length,ik]
 unfold qB;rw[he]
 -- e is an edge
 have key:∀(n:Nat)(l:List UInt8)(e:Nat),l.length<=n->e<=l.length->(e=l.length\/∃m∈kA 0 l,m.pl=(e:Int))->rl l=rl (l.take e)++rl (l.drop e):=by
  intro n
  induction n with
  |zero=>
   intro l e hn he _;have:l=[]:=sR.1 (by omega)
   subst this;simp[ik]
  |succ n ih=>
   intro l e hn he hm
   by_cases hl:l=[]
   ·subst hl;simp[ik]
   ·by_cases h0:e=0
    ·subst h0;simp[ik]
    ·have d1:=dec_ge l hl
     have d2:=dec_le l hl;have hle:(dec l).2<=e:=by
      rcases hm with rfl|⟨m,hm,hp⟩
      ·exact d2
      ·rw[iu 0 l hl]at hm
       rcases sY.1 hm with rfl|hm
       ·have:((0:Nat):Int)=(e:Int):=hp
        omega
       ·have hge:=zaJ l _ (0+(dec l).2) (sU _) m (by simpa using hm)
        omega
     have hm':e-(dec l).2=(l.drop (dec l).2).length\/∃m∈kA 0 (l.drop (dec l).2),m.pl=((e-(dec l).2:Nat):Int):=by
      rcases hm with rfl|⟨m,hm,hp⟩
      ·left;rw[sT]
      ·rw[iu 0 l hl]at hm
       rcases sY.1 hm with rfl|hm
       ·have:((0:Nat):Int)=(e:Int):=hp
        omega
       ·right
        have hs:=rG (dec l).2 _ 0 (l.drop (dec l).2) (sU _);rw[tr]at hm;rw[tn]at hs;rw[hs]at hm;obtain⟨m',hm',rfl⟩:=List.mem_map.1 hm;refine⟨m',hm',?_⟩;have hp':m'.pl+((dec l).2:Int)=(e:Int):=hp;omega
     have hi:=ih (l.drop (dec l).2) (e-(dec l).2) (by rw[sT];omega) (by rw[sT];omega) hm'
     have hne:l.take e≠ []:=fun h=>by
      have:=congrArg td h;rw[ta,ti]at this;omega
     rw[cK l hl,hi,cK _ hne,dec_take l hl e hle,tj,tc,Nat.add_sub_cancel' hle]
     rfl
 rw[key l.length l e (sU _) (by omega) (.inr ⟨mk1 e (l.drop e),by rw[h3];simp,rfl⟩),hx]
end
namespace Wt
def pos(s:List UInt8)(k:Nat):Nat:=qt ((rl s).take k)
theorem zrQ(s:List UInt8):pos s 0=0:=rfl
theorem gG(s:List UInt8)(k:Nat)(h:(rl s).length<=k):pos s k=s.length:=by
 unfold pos;rw[tg h];exact zlE _ s (sU _)
theorem zcC(X:List (Nat×Nat))(k:Nat)(h:k<X.length):qt (X.take (k+1))=qt (X.take k)+(X[k]).2:=by
 rw[List.take_succ_eq_append_getElem h,zqq]
 simp[qt]
theorem pa(s:List UInt8)(k:Nat)(h:k<(rl s).length):pos s k<pos s (k+1):=by
 unfold pos;rw[zcC _ k h];have:=zlF _ s (sU _) _ (List.getElem_mem h);omega
theorem im(s:List UInt8):∀(n i:Nat),i+n<=(rl s).length->pos s i+n<=pos s (i+n)
 |0,i,_=>sU _
 |n+1,i,h=>by
  have h1:=im s n i (by omega)
  have h2:=pa s (i+n) (by omega)
  show pos s i+(n+1)<=pos s (i+n+1)
  omega
theorem zlR(s:List UInt8)(k:Nat)(h:k<=(rl s).length):pos s k<=s.length:=by
 have h1:=im s ((rl s).length-k) k (by omega)
 rw[gG s (k+((rl s).length-k)) (by omega)]at h1
 omega
theorem nR(s:List UInt8)(k:Nat)(h:k<(rl s).length):pos s k<s.length:=by
 have h1:=pa s k h;have h2:=zlR s (k+1) h;omega
theorem zak(s:List UInt8)(k:Nat)(h:k<=(rl s).length):rl (s.take (pos s k))=(rl s).take k:=(zfw k s h).1
theorem zhw(s:List UInt8)(k:Nat)(h:k<=(rl s).length):rl (s.drop (pos s k))=(rl s).drop k:=(zfw k s h).2
theorem o9(s:List UInt8)(k:Nat)(h:k<(rl s).length):pos s k+(dec (s.drop (pos s k))).2=pos s (k+1):=by
 have h1:=zhw s k (Nat.le_of_lt h);have hne:s.drop (pos s k)≠ []:=bD s _ (nR s k h);rw[cK _ hne,List.drop_eq_getElem_cons h]at h1;have h2:=(List.cons.inj h1).1;rw[h2]
 show _=qt _
 rw[zcC _ k h]
 rfl
theorem zlQ(s:List UInt8)(i j:Nat)(hij:i<=j)(hj:j<=(rl s).length):pos (s.take (pos s j)) i=pos s i:=by
 unfold pos;rw[show rl (s.take (qt ((rl s).take j)))=(rl s).take j from zak s j hj,List.take_take,Nat.min_eq_left hij]
end Wt
end Go.Proofs.YtbbapnpdfcgjnaaGreatDoor
