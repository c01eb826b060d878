/- UMath, RMath, REdge: parts of the proof, joined. -/
import Derived.Shelf.Unicode.DecodeLast
import Derived.Lib.MapLaws
open List renaming length_eq_zero_iff->sH, length_drop->sJ, length_pos_iff->sM, mem_cons->sO, drop_of_length_le->sP, length_take->sQ, drop_drop->sR, length->sS, getD->sT, take_of_length_le->sV, length_nil->sW, drop_take->sX
open Go.Lib renaming runeStart->sI, decodeN->sL, lastStart->sN, decodeGo->sU, decodeLastL->ta, decode_at->tc
open Nat renaming le_refl->sK, lt_irrefl->sY, add_zero->sZ, zero_add->td, lt_or_ge->te
set_option maxHeartbeats 64000000
namespace Go.Proofs.YtbbapnpdfcgjnaaGreatDoor
section
structure Mk where
 pl:Int
 wd:Int
 ru:Int
 bad:Bool
def dec (l:List UInt8):Nat × Nat:=if l=[] then (0,0) else sU ⟨l.toArray⟩
def aU (l:List UInt8):Nat × Nat:=if l=[] then (0,0) else ta l
theorem ext_drop (l:List UInt8) (t:Nat):(⟨l.toArray⟩:ByteArray).extract t l.length=⟨(l.drop t).toArray⟩:=by
 apply ByteArray.ext
 simp[ByteArray.data_extract,sV]
def byt (l:List UInt8) (i:Nat):Int:=((l.getD i 0).toNat:Int)
def bgF (l:List UInt8) (p:Nat):Nat->Nat
 | 0=>p
 | f+1=>if p<3 - f then p else if sI (byt l (p - (3 - f))) then (if p<p - (3 - f)+(dec (l.drop (p - (3 - f)))).2 then p - (3 - f) else p) else bgF l p f
theorem dec_le4 (l:List UInt8):(dec l).2<=4:=by
 unfold dec
 split
 ·simp
 ·unfold sU
  split
  ·simp
  ·unfold Utf8.decode
   simp only[]
   repeat' split
   all_goals simp
theorem zqP (l:List UInt8) (p f:Nat) (h:p<4 - f):bgF l p f=p:=by
 cases f with
 | zero=>rfl
 | succ f=>unfold bgF;rw[if_pos (by omega)]
theorem dL (l:List UInt8) (p f t:Nat) (ht:t+(3 - f)=p) (h:sI (byt l t)=false):bgF l p (f+1)=bgF l p f:=by
 have e:p - (3 - f)=t:=by omega
 conv=>lhs;unfold bgF
 rw[if_neg (by omega),e,h];simp
theorem zaZ (l:List UInt8) (p f t:Nat) (ht:t+(3 - f)=p) (h:sI (byt l t)=true) (hn:p<t+(dec (l.drop t)).2):bgF l p (f+1)=t:=by
 have e:p - (3 - f)=t:=by omega
 unfold bgF;rw[if_neg (by omega),e,h,if_pos rfl,if_pos hn]
theorem zqQ (l:List UInt8) (p f t:Nat) (ht:t+(3 - f)=p) (h:sI (byt l t)=true) (hn:¬p<t+(dec (l.drop t)).2):bgF l p (f+1)=p:=by
 have e:p - (3 - f)=t:=by omega
 unfold bgF;rw[if_neg (by omega),e,h,if_pos rfl,if_neg hn]
theorem zeh (l:List UInt8) (i:Nat):(⟨l.toArray⟩:ByteArray).get! i=l.getD i 0:=by
 show l.toArray.getD i default=l.getD i 0
 by_cases h:i<l.length
 ·simp[Array.getD,sT,h]
 ·simp[Array.getD,sT,h];rfl
theorem cZ (l:List UInt8) (h:l≠ []):dec l=sL l.length (l.getD 0 0).toNat (l.getD 1 0).toNat (l.getD 2 0).toNat (l.getD 3 0).toNat:=by
 unfold dec;rw[if_neg h];unfold sU;have hs:(⟨l.toArray⟩:ByteArray).size=l.length:=by show l.toArray.size=_;simp
 rw[if_neg (by rw[hs];exact fun e=>h (sH.1 e)),tc,hs]
 simp only[zeh,td,Nat.sub_zero]
theorem dec_eqL (l:List UInt8) (h:l≠ []):dec l=Lib.decodeL l:=by
 unfold dec;rw[if_neg h];unfold sU;have hs:(⟨l.toArray⟩:ByteArray).size=l.length:=by show l.toArray.size=_;simp
 rw[if_neg (by rw[hs];exact fun e=>h (sH.1 e))]
 rfl
theorem dec_ge (l:List UInt8) (h:l≠ []):1<=(dec l).2:=by rw[dec_eqL l h];exact Lib.decodeL_width l
theorem dec_le (l:List UInt8) (h:l≠ []):(dec l).2<=l.length:=by rw[dec_eqL l h];exact Lib.decodeL_le l h
theorem dec_rune (l:List UInt8) (h:l≠ []):(dec l).1<=1114111:=by rw[dec_eqL l h];exact Lib.decodeL_rune l
def mk1 (p:Nat) (l:List UInt8):Mk:=⟨p,(dec l).2,(dec l).1,decide ((dec l).2=1)&&decide ((dec l).1=65533)⟩
def zcs:Nat->Nat->List UInt8->List Mk
 | 0,_,_=>[]
 | k+1,p,l=>if l=[] then [] else mk1 p l::zcs k (p+(dec l).2) (l.drop (dec l).2)
theorem oR:∀(k k' p:Nat) (l:List UInt8),l.length<=k->l.length<=k'->zcs k p l=zcs k' p l
 | 0,0,_,_,_,_=>rfl
 | 0,k'+1,p,l,h,_=>by
  have:l=[]:=sH.1 (by omega)
  subst this;simp[zcs]
 | k+1,0,p,l,_,h=>by
  have:l=[]:=sH.1 (by omega)
  subst this;simp[zcs]
 | k+1,k'+1,p,l,h,h'=>by
  unfold zcs
  by_cases e:l=[]
  ·simp[e]
  ·rw[if_neg e,if_neg e]
   have:=dec_ge l e;rw[oR k k' (p+(dec l).2) (l.drop (dec l).2) (by simp;omega) (by simp;omega)]
def ka (p:Nat) (l:List UInt8):List Mk:=zcs l.length p l
theorem zht (p:Nat):ka p []=[]:=rfl
theorem ic (p:Nat) (l:List UInt8) (h:l≠ []):ka p l=mk1 p l::ka (p+(dec l).2) (l.drop (dec l).2):=by
 have h1:=dec_ge l h;have h2:=dec_le l h;unfold ka;rw[oR l.length (l.length - 1+1) p l (by omega) (by omega)]
 conv=>lhs;unfold zcs
 rw[if_neg h,oR (l.length - 1) (l.drop (dec l).2).length _ _ (by simp;omega) (by omega)]
theorem znu (l:List UInt8) (t j:Nat):(l.drop t).getD j 0=l.getD (t+j) 0:=by simp[sT]
theorem kW (l:List UInt8) (t:Nat) (h:t<l.length):Utf8.decode ⟨l.toArray⟩ t=dec (l.drop t):=by
 have hne:l.drop t≠ []:=fun e=>by have:=congrArg sS e;simp at this;omega
 have hs:(⟨l.toArray⟩:ByteArray).size=l.length:=by show l.toArray.size=_;simp
 rw[cZ _ hne,tc,hs]
 simp only[zeh,znu,sJ,sZ]
def prs (l:List UInt8):List (Int × Int):=(ka 0 l).map fun m=>(m.pl,m.ru)
def prF (l:List UInt8) (t:Nat):List (Int × Int):=(ka t (l.drop t)).map fun m=>(m.pl,m.ru)
theorem prF_end (l:List UInt8) (t:Nat) (h:¬t<l.length):prF l t=[]:=by
 unfold prF;rw[sP (by omega),zht];rfl
theorem zeE (l:List UInt8) (t j:Nat):byt (l.drop t) j=byt l (t+j):=by simp[byt,sT]
def dY (l:List UInt8) (t:Nat):Nat:=(dec (l.drop t)).2
theorem bw (l:List UInt8) (t:Nat) (h:t<l.length):l.drop t≠ []:=fun e=>by have:=congrArg sS e;simp at this;omega
theorem jL (l:List UInt8) (t:Nat) (h:t<l.length):1<=dY l t:=dec_ge _ (bw l t h)
theorem zkt (l:List UInt8) (t:Nat) (h:t<l.length):t+dY l t<=l.length:=by
 have:=dec_le _ (bw l t h);simp only[sJ] at this;unfold dY;omega
theorem zgC (l:List UInt8) (t:Nat):dY l t<=4:=dec_le4 _
theorem zjZ (l:List UInt8) (h:l≠ []) (j:Nat) (h1:1<=j) (h2:j<(dec l).2):sI (byt l j)=false/\sI (byt l 0)=true:=by
 have h4:=dec_le4 l;have hj:j=1\/j=2\/j=3:=by omega
 have key:byt l j / 64=2/\¬byt l 0 / 64=2:=by
  rw[cZ l h] at h2
  rcases hj with rfl | rfl | rfl
  all_goals
   unfold byt
   generalize (l.getD 0 0).toNat=b0 at *
   generalize (l.getD 1 0).toNat=b1 at *
   generalize (l.getD 2 0).toNat=b2 at *
   generalize (l.getD 3 0).toNat=b3 at *
   unfold sL at h2
   split at h2
   ·exfalso;simp at h2
   ·split at h2
    ·split at h2
     ·simp at h2<;>omega
     ·exfalso;simp at h2
    ·split at h2
     ·split at h2
      ·simp at h2<;>omega
      ·exfalso;simp at h2
     ·split at h2
      ·split at h2
       ·simp at h2<;>omega
       ·exfalso;simp at h2
      ·exfalso;simp at h2
 unfold sI
 simp[key]
theorem ci (l:List UInt8) (t q:Nat) (ht:t<l.length) (h1:t<q) (h2:q<t+dY l t):sI (byt l q)=false/\sI (byt l t)=true:=by
 have h:=zjZ (l.drop t) (bw l t ht) (q - t) (by omega) (by unfold dY at h2;omega)
 rw[zeE,zeE] at h;rw[show t+(q - t)=q by omega,sZ] at h
 exact h
theorem lP (l:List UInt8) (t:Nat) (h:t<l.length):ka t (l.drop t)=mk1 t (l.drop t)::ka (t+dY l t) (l.drop (t+dY l t)):=by
 rw[ic t (l.drop t) (bw l t h),sR];rfl
theorem nD (l:List UInt8) (t:Nat) (h:¬t<l.length):ka t (l.drop t)=[]:=by rw[sP (by omega)];rfl
theorem zao (l:List UInt8):∀(n t:Nat),l.length - t<=n->∀m∈ka t (l.drop t),(t:Int)<=m.pl/\m.pl<l.length
 | 0,t,h,m,hm=>by rw[nD l t (by omega)] at hm;cases hm
 | n+1,t,h,m,hm=>by
  by_cases ht:t<l.length
  ·rw[lP l t ht] at hm
   have hw:=jL l t ht
   rcases sO.1 hm with rfl | hm
   ·exact⟨Int.le_refl _,by show(t:Int)<_;omega⟩
   ·have:=zao l n (t+dY l t) (by omega) m hm
    omega
  ·rw[nD l t ht] at hm;cases hm
theorem zfy (l:List UInt8) (q:Nat) (hq:q<l.length):∀(n t:Nat),l.length - t<=n->t<=q->
  ∃(e:Nat) (P:List Mk),t<=e/\e<=q/\q<e+dY l e/\ka t (l.drop t)=P++mk1 e (l.drop e)::ka (e+dY l e) (l.drop (e+dY l e))/\∀m∈P,m.pl<(e:Int)
 | 0,t,h,ht=>by omega
 | n+1,t,h,ht=>by
  have htl:t<l.length:=by omega
  have hw:=jL l t htl
  by_cases hc:q<t+dY l t
  ·exact⟨t,[],sK _,ht,hc,lP l t htl,fun m hm=>by cases hm⟩
  ·obtain⟨e,P,h1,h2,h3,h4,h5⟩:=zfy l q hq n (t+dY l t) (by omega) (by omega)
   refine⟨e,mk1 t (l.drop t)::P,by omega,h2,h3,by rw[lP l t htl,h4];rfl,fun m hm=>?_⟩
   rcases sO.1 hm with rfl | hm
   ·show(t:Int)<e;omega
   ·exact h5 m hm
theorem chain (l:List UInt8) (e x:Nat) (P:List Mk) (h:ka 0 l=P++mk1 e (l.drop e)::ka (e+dY l e) (l.drop (e+dY l e))) (hP:∀m∈P,m.pl<(e:Int)) (hx:∃m∈ka 0 l,m.pl=(x:Int)) (hlt:e<x):e+dY l e<=x:=by
 obtain⟨m,hm,he⟩:=hx;rw[h] at hm
 rcases List.mem_append.1 hm with hm | hm
 ·have:=hP m hm;omega
 ·rcases sO.1 hm with rfl | hm
  ·have:(e:Int)=x:=he
   omega
  ·have:=(zao l (l.length - (e+dY l e)) (e+dY l e) (sK _) m hm).1
   omega
theorem zeH (l:List UInt8) (q:Nat) (h:∀t,t<q->sI (byt l t)=true->¬q<t+dY l t):∀f,f<=3->bgF l q f=q
 | 0,_=>rfl
 | f+1,hf=>by
  by_cases ho:q<4 - (f+1)
  ·exact zqP l q (f+1) ho
  ·have ht:(q - (3 - f))+(3 - f)=q:=by omega
   cases hr:sI (byt l (q - (3 - f))) with
   | false=>rw[dL l q f _ ht hr];exact zeH l q h f (by omega)
   | true=>exact zqQ l q f _ ht hr (h _ (by omega) hr)
theorem zot (l:List UInt8) (q e:Nat) (P:List Mk) (hq:q<l.length) (h1:e<=q) (h2:q<e+dY l e) (h:ka 0 l=P++mk1 e (l.drop e)::ka (e+dY l e) (l.drop (e+dY l e))):bgF l q 4=e:=by
 have h4:=zgC l e;have hel:e<l.length:=by omega
 by_cases he:e=q
 ·subst he
  cases hr:sI (byt l e) with
  | true=>exact zaZ l e 3 e (by omega) hr (by exact h2)
  | false=>
   rw[dL l e 3 e (by omega) hr]
   refine zeH l e (fun t ht hs hc=>?_) 3 (sK _)
   obtain⟨e',P',g1,g2,g3,g4,g5⟩:=zfy l t (by omega) l.length 0 (by omega) (Nat.zero_le _)
   have ee:e'=t:=by
    rcases te e' t with hlt | hge
    ·have:=(ci l e' t (by omega) hlt g3).1
     rw[this] at hs;cases hs
    ·omega
   subst ee;have:=chain l e' e P' g4 g5 ⟨mk1 e (l.drop e),by rw[h];simp,rfl⟩ ht
   omega
 ·have hin:∀t,e<t->t<=q->sI (byt l t)=false:=fun t a b=>(ci l e t hel a (by omega)).1
  have hst:sI (byt l e)=true:=(ci l e q hel (by omega) h2).2
  have hj:q=e+1\/q=e+2\/q=e+3:=by omega
  rcases hj with rfl | rfl | rfl
  ·rw[dL l (e+1) 3 (e+1) (by omega) (hin _ (by omega) (by omega))]
   exact zaZ l (e+1) 2 e (by omega) hst h2
  ·rw[dL l (e+2) 3 (e+2) (by omega) (hin _ (by omega) (by omega)),dL l (e+2) 2 (e+1) (by omega) (hin _ (by omega) (by omega))]
   exact zaZ l (e+2) 1 e (by omega) hst h2
  ·rw[dL l (e+3) 3 (e+3) (by omega) (hin _ (by omega) (by omega)),dL l (e+3) 2 (e+2) (by omega) (hin _ (by omega) (by omega)),dL l (e+3) 1 (e+1) (by omega) (hin _ (by omega) (by omega))]
   exact zaZ l (e+3) 0 e (by omega) hst h2
theorem pl_ge (l:List UInt8):∀m∈ka 0 l,0<=m.pl/\m.pl<l.length:=fun m hm=>by
 have h:=zao l l.length 0 (by omega) m (by simpa using hm)
 exact⟨h.1,h.2⟩
theorem getD_take (l:List UInt8) (n i:Nat):((l.take n).getD i 0).toNat=if i<n then (l.getD i 0).toNat else 0:=by
 by_cases h:i<n<;>simp[sT,List.getElem?_take,h]
theorem decodeN_cut (N n b0 b1 b2 b3:Nat) (h1:1<=n) (h:(sL N b0 b1 b2 b3).2<=n):
  sL (min n N) b0 (if 1<n then b1 else 0) (if 2<n then b2 else 0) (if 3<n then b3 else 0)=sL N b0 b1 b2 b3:=by
 have c:n=1\/n=2\/n=3\/4<=n:=by omega
 rcases c with rfl | rfl | rfl | c
 ·simp only[sY,if_false,Nat.reduceLT]
  unfold sL at *
  revert h
  repeat' split
  all_goals first | (intro h;dsimp only at h;exfalso;omega) | (intro _;rfl)
 ·simp only[sY,if_false,if_true,Nat.reduceLT]
  unfold sL at *
  revert h
  repeat' split
  all_goals first | (intro h;dsimp only at h;exfalso;omega) | (intro _;rfl)
 ·simp only[sY,if_false,if_true,Nat.reduceLT]
  unfold sL at *
  revert h
  repeat' split
  all_goals first | (intro h;dsimp only at h;exfalso;omega) | (intro _;rfl)
 ·rw[if_pos (by omega),if_pos (by omega),if_pos (by omega)]
  unfold sL;have e1:(1<min n N)=(1<N):=propext ⟨fun h=>by omega,fun h=>by omega⟩
  have e2:(2<min n N)=(2<N):=propext ⟨fun h=>by omega,fun h=>by omega⟩
  have e3:(3<min n N)=(3<N):=propext ⟨fun h=>by omega,fun h=>by omega⟩
  simp only[e1,e2,e3]
theorem dec_take (l:List UInt8) (h:l≠ []) (n:Nat) (hn:(dec l).2<=n):dec (l.take n)=dec l:=by
 have h1:=dec_ge l h;have hp:0<l.length:=sM.2 h;have hne:l.take n≠ []:=fun e=>by have:=congrArg sS e;rw[sQ] at this;simp only[sW] at this;omega
 have hn1:1<=n:=by omega
 rw[cZ _ hne,cZ l h,sQ];rw[cZ l h] at hn
 simp only[getD_take]
 rw[if_pos (by omega:0<n)]
 exact decodeN_cut _ _ _ _ _ _ (by omega) hn
theorem zdU (l:List UInt8):∀(n t:Nat),l.length - t<=n->t<l.length->
  ∃e,t<=e/\e<l.length/\e+dY l e=l.length/\ka t (l.drop t)=ka t ((l.take e).drop t)++[mk1 e (l.drop e)]
 | 0,t,h,ht=>by omega
 | n+1,t,h,ht=>by
  have h1:=jL l t ht;have h2:=zkt l t ht
  by_cases hc:t+dY l t=l.length
  ·refine⟨t,sK _,ht,hc,?_⟩
   rw[lP l t ht,hc,nD l l.length (by omega),(show(l.take t).drop t=[] from sP (by simp;omega)),zht];rfl
  ·obtain⟨e,g1,g2,g3,g4⟩:=zdU l n (t+dY l t) (by omega) (by omega)
   refine⟨e,by omega,g2,g3,?_⟩
   have hd:(l.take e).drop t=(l.drop t).take (e - t):=sX ..;have hl:(l.take e).length=e:=by simp;omega
   have hdec:dec ((l.take e).drop t)=dec (l.drop t):=by rw[hd];exact dec_take _ (bw l t ht) _ (by unfold dY at g1;omega)
   have hw:dY (l.take e) t=dY l t:=by unfold dY;rw[hdec]
   rw[lP l t ht,g4,lP (l.take e) t (by omega),hw]
   have hm:mk1 t ((l.take e).drop t)=mk1 t (l.drop t):=by unfold mk1;rw[hdec]
   rw[hm];rfl
theorem pb (l:List UInt8) (h:l≠ []):∃e,e<l.length/\e+dY l e=l.length/\ka 0 l=ka 0 (l.take e)++[mk1 e (l.drop e)]:=by
 obtain⟨e,_,g2,g3,g4⟩:=zdU l l.length 0 (by omega) (sM.2 h)
 exact⟨e,g2,g3,by simpa using g4⟩
theorem zbB (l:List UInt8) (s e:Nat) (hs:s<l.length) (hr:sI (byt l s)=true) (he:∃m∈ka 0 l,m.pl=(e:Int)) (hlt:s<e):s+dY l s<=e:=by
 obtain⟨e',P',g1,g2,g3,g4,g5⟩:=zfy l s hs l.length 0 (by omega) (Nat.zero_le _)
 have ee:e'=s:=by
  rcases te e' s with hlt | hge
  ·have:=(ci l e' s (by omega) hlt g3).1
   rw[this] at hr;cases hr
  ·omega
 subst ee;exact chain l e' e P' g4 g5 he hlt
theorem lE (l:List UInt8) (i:Nat):Lib.runeStartB (l.getD i 0)=sI (byt l i):=Lib.runeStartB_eq _
theorem zay (l:List UInt8) (h:2<=l.length):sN l<=l.length - 2:=by
 unfold sN
 simp only
 repeat' split
 all_goals omega
theorem zhG (l:List UInt8) (h:l≠ []) (e:Nat) (he:e<l.length) (hw:e+dY l e=l.length) (hm:ka 0 l=ka 0 (l.take e)++[mk1 e (l.drop e)]):aU l=dec (l.drop e):=by
 have hp:0<l.length:=sM.2 h;have hge:=jL l e he;have h4:=zgC l e;unfold aU;rw[if_neg h];unfold ta;rw[if_neg h]
 by_cases h1:dY l e=1
 ·have ee:e=l.length - 1:=by omega
  have hdl:(l.drop e).length=1:=by simp;omega
  have hb0:(l.drop e).getD 0 0=l.getD e 0:=by simp[sT]
  have hN:dec (l.drop e)=if (l.getD e 0).toNat<128 then ((l.getD e 0).toNat,1) else (65533,1):=by
   rw[cZ _ (bw l e he),hdl,hb0];unfold sL
   simp
  rw[hN,<- ee]
  by_cases ha:(l.getD e 0).toNat<128
  ·rw[if_pos ha,if_pos ha]
  ·rw[if_neg ha,if_neg ha]
   by_cases hl1:l.length=1
   ·have hs:=Lib.lastStart_one l hl1
    have e0:e=0:=by omega
    simp only[hs]
    rw[<- dec_eqL _ (bw l 0 hp)];rw[e0] at hN ha;rw[hN,if_neg ha]
    simp[Utf8.runeError]
   ·have hsl:=zay l (by omega)
    have hslt:sN l<l.length:=by omega
    simp only
    rw[<- dec_eqL _ (bw l _ hslt),if_neg]
    ·rfl
    ·intro hc
     change sN l+dY l (sN l)=l.length at hc
     generalize sN l=s at *
     cases hr:sI (byt l s) with
     | true=>
      have:=zbB l s e hslt hr ⟨mk1 e (l.drop e),by rw[hm];simp,rfl⟩ (by omega)
      omega
     | false=>
      have hg:=jL l s hslt;have:¬1<dY l s:=fun hw1=>by
       have:=(ci l s (s+1) hslt (by omega) (by omega)).2
       rw[this] at hr;cases hr
      omega
 ·have hlast:=(ci l e (l.length - 1) he (by omega) (by omega)).1
  have hst:=(ci l e (l.length - 1) he (by omega) (by omega)).2
  have ha:¬(l.getD (l.length - 1) 0).toNat<128:=by
   have:((l.getD (l.length - 1) 0).toNat:Int) / 64=2:=by simpa[sI,byt] using hlast
   omega
  rw[if_neg ha];have hs:sN l=e:=by
   have hc:dY l e=2\/dY l e=3\/dY l e=4:=by omega
   rcases hc with hc | hc | hc
   ·exact Lib.lastStart_at2 l e (by omega) (by rw[lE];exact hst)
   ·exact Lib.lastStart_at3 l e (by omega) (by rw[lE];exact(ci l e (e+1) he (by omega) (by omega)).1) (by rw[lE];exact hst)
   ·exact Lib.lastStart_at4 l e (by omega) (by rw[lE];exact(ci l e (e+2) he (by omega) (by omega)).1) (by rw[lE];exact(ci l e (e+1) he (by omega) (by omega)).1) (by rw[lE];exact hst)
  simp only[hs]
  rw[<- dec_eqL _ (bw l e he),if_pos (show e+(dec (l.drop e)).2=l.length from hw)]
theorem zjK (l:List UInt8) (h:l≠ []):∃e n c:Nat,aU l=(c,n)/\1<=n/\e+n=l.length/\c<=1114111/\bgF l (l.length - 1) 4=e/\prs l=prs (l.take e)++[((e:Int),(c:Int))]:=by
 obtain⟨e,h1,h2,h3⟩:=pb l h;refine⟨e,dY l e,(dec (l.drop e)).1,zhG l h e h1 h2 h3,jL l e h1,h2,dec_rune _ (bw l e h1),?_,?_⟩
 ·refine zot l (l.length - 1) e (ka 0 (l.take e)) (by omega) (by omega) (by omega) ?_
  rw[h3,nD l (e+dY l e) (by omega)]
 ·unfold prs
  rw[h3,List.map_append];rfl
def Mk.on (e:Nat) (m:Mk):Mk:={m with pl:=m.pl+e}
theorem qP (e:Nat):∀(n k:Nat) (l:List UInt8),l.length<=n->ka (e+k) l=(ka k l).map (Mk.on e)
 | 0,k,l,h=>by
  have:l=[]:=sH.1 (by omega)
  subst this;rfl
 | n+1,k,l,h=>by
  by_cases hl:l=[]
  ·subst hl;rfl
  ·have h1:=dec_ge l hl
   have hp:0<l.length:=sM.2 hl;rw[ic _ l hl,ic k l hl,Nat.add_assoc,qP e n (k+(dec l).2) (l.drop (dec l).2) (by simp;omega),List.map_cons]
   congr 1
   unfold mk1 Mk.on
   simp
   omega
end
section
def rlF:Nat->List UInt8->List (Nat × Nat)
 | 0,_=>[]
 | f+1,l=>if l=[] then [] else dec l::rlF f (l.drop (dec l).2)
theorem sr:∀(f g:Nat) (l:List UInt8),l.length<=f->l.length<=g->rlF f l=rlF g l
 | 0,0,_,_,_=>rfl
 | 0,g+1,l,hf,hg=>by
  have:l=[]:=sH.1 (by omega)
  subst this;rfl
 | f+1,0,l,hf,hg=>by
  have:l=[]:=sH.1 (by omega)
  subst this;rfl
 | f+1,g+1,l,hf,hg=>by
  unfold rlF
  by_cases h:l=[]
  ·rw[if_pos h,if_pos h]
  ·have h1:=dec_ge l h
   rw[if_neg h,if_neg h,sr f g (l.drop (dec l).2) (by rw[sJ];omega) (by rw[sJ];omega)]
def rl (l:List UInt8):List (Nat × Nat):=rlF l.length l
theorem gU:rl []=[]:=rfl
theorem cC (l:List UInt8) (h:l≠ []):rl l=dec l::rl (l.drop (dec l).2):=by
 have h1:=dec_ge l h;have hp:0<l.length:=sM.2 h;unfold rl;rw[sr l.length (l.length - 1+1) l (by omega) (by omega)]
 conv=>lhs;unfold rlF
 rw[if_neg h,sr (l.length - 1) _ (l.drop (dec l).2) (by rw[sJ];omega) (sK _)]
def pW (X:List (Nat × Nat)):Nat:=(X.map (·.2)).sum
theorem kv (x:Nat × Nat) (X:List (Nat × Nat)):pW (x::X)=x.2+pW X:=by simp[pW]
theorem zpH (X Y:List (Nat × Nat)):pW (X++Y)=pW X+pW Y:=by simp[pW]
theorem zlf:∀(n:Nat) (l:List UInt8),l.length<=n->pW (rl l)=l.length
 | 0,l,h=>by
  have:l=[]:=sH.1 (by omega)
  subst this;rfl
 | n+1,l,h=>by
  by_cases hl:l=[]
  ·subst hl;rfl
  ·have h1:=dec_ge l hl
   have h2:=dec_le l hl;rw[cC l hl,kv,zlf n _ (by rw[sJ];omega),sJ]
   omega
theorem zlg:∀(n:Nat) (l:List UInt8),l.length<=n->∀x∈rl l,1<=x.2
 | 0,l,h,x,hx=>by
  have:l=[]:=sH.1 (by omega)
  subst this;cases hx
 | n+1,l,h,x,hx=>by
  by_cases hl:l=[]
  ·subst hl;cases hx
  ·have h1:=dec_ge l hl
   rw[cC l hl] at hx
   rcases sO.1 hx with rfl | hx
   ·exact h1
   ·exact zlg n _ (by rw[sJ];omega) x hx
theorem zfb:∀(k:Nat) (l:List UInt8),k<=(rl l).length->rl (l.take (pW ((rl l).take k)))=(rl l).take k/\rl (l.drop (pW ((rl l).take k)))=(rl l).drop k
 | 0,l,_=>by simp[pW,gU]
 | k+1,l,hk=>by
  by_cases hl:l=[]
  ·subst hl;simp[gU] at hk
  ·have h1:=dec_ge l hl
   have hc:=cC l hl;rw[hc,List.length_cons] at hk;obtain⟨i1,i2⟩:=zfb k (l.drop (dec l).2) (by omega)
   rw[hc,List.take_succ_cons,kv,List.drop_succ_cons];refine⟨?_,by rw[<- sR];exact i2⟩
   have hm:l.take ((dec l).2+pW ((rl (l.drop (dec l).2)).take k))≠ []:=fun e=>by
    have:=congrArg sS e;have h2:=dec_le l hl;rw[sQ,sW] at this;omega
   rw[cC _ hm,dec_take l hl _ (by omega),sX,Nat.add_sub_cancel_left,i1]
def p8 (l:List UInt8):List UInt8:=l.take (l.length - (aU l).2)
theorem zpB (l:List UInt8) (h:l≠ []):rl l=rl (p8 l)++[aU l]:=by
 obtain⟨e,h1,h2,h3⟩:=pb l h;have h4:=zhG l h e h1 h2 h3;have he:l.length - (aU l).2=e:=by rw[h4];unfold dY at h2;omega
 have hx:rl (l.drop e)=[aU l]:=by
  rw[cC _ (bw l e h1),h4,sR,show e+(dec (l.drop e)).2=l.length from h2,List.drop_length,gU]
 unfold p8;rw[he]
 -- e is an edge
 have key:∀(n:Nat) (l:List UInt8) (e:Nat),l.length<=n->e<=l.length->(e=l.length\/∃m∈ka 0 l,m.pl=(e:Int))->rl l=rl (l.take e)++rl (l.drop e):=by
  intro n
  induction n with
  | zero=>
   intro l e hn he _;have:l=[]:=sH.1 (by omega)
   subst this;simp[gU]
  | succ n ih=>
   intro l e hn he hm
   by_cases hl:l=[]
   ·subst hl;simp[gU]
   ·by_cases h0:e=0
    ·subst h0;simp[gU]
    ·have d1:=dec_ge l hl
     have d2:=dec_le l hl;have hle:(dec l).2<=e:=by
      rcases hm with rfl | ⟨m,hm,hp⟩
      ·exact d2
      ·rw[ic 0 l hl] at hm
       rcases sO.1 hm with rfl | hm
       ·have:((0:Nat):Int)=(e:Int):=hp
        omega
       ·have hge:=zao l _ (0+(dec l).2) (sK _) m (by simpa using hm)
        omega
     have hm':e - (dec l).2=(l.drop (dec l).2).length\/∃m∈ka 0 (l.drop (dec l).2),m.pl=((e - (dec l).2:Nat):Int):=by
      rcases hm with rfl | ⟨m,hm,hp⟩
      ·left;rw[sJ]
      ·rw[ic 0 l hl] at hm
       rcases sO.1 hm with rfl | hm
       ·have:((0:Nat):Int)=(e:Int):=hp
        omega
       ·right
        have hs:=qP (dec l).2 _ 0 (l.drop (dec l).2) (sK _);rw[td] at hm;rw[sZ] at hs;rw[hs] at hm;obtain⟨m',hm',rfl⟩:=List.mem_map.1 hm;refine⟨m',hm',?_⟩;have hp':m'.pl+((dec l).2:Int)=(e:Int):=hp;omega
     have hi:=ih (l.drop (dec l).2) (e - (dec l).2) (by rw[sJ];omega) (by rw[sJ];omega) hm'
     have hne:l.take e≠ []:=fun h=>by
      have:=congrArg sS h;rw[sQ,sW] at this;omega
     rw[cC l hl,hi,cC _ hne,dec_take l hl e hle,sX,sR,Nat.add_sub_cancel' hle]
     rfl
 rw[key l.length l e (sK _) (by omega) (.inr ⟨mk1 e (l.drop e),by rw[h3];simp,rfl⟩),hx]
end
namespace Wt
def pos (s:List UInt8) (k:Nat):Nat:=pW ((rl s).take k)
theorem zrj (s:List UInt8):pos s 0=0:=rfl
theorem gv (s:List UInt8) (k:Nat) (h:(rl s).length<=k):pos s k=s.length:=by
 unfold pos;rw[sV h];exact zlf _ s (sK _)
theorem zch (X:List (Nat × Nat)) (k:Nat) (h:k<X.length):pW (X.take (k+1))=pW (X.take k)+(X[k]).2:=by
 rw[List.take_succ_eq_append_getElem h,zpH]
 simp[pW]
theorem oF (s:List UInt8) (k:Nat) (h:k<(rl s).length):pos s k<pos s (k+1):=by
 unfold pos;rw[zch _ k h];have:=zlg _ s (sK _) _ (List.getElem_mem h);omega
theorem gW (s:List UInt8):∀(n i:Nat),i+n<=(rl s).length->pos s i+n<=pos s (i+n)
 | 0,i,_=>sK _
 | n+1,i,h=>by
  have h1:=gW s n i (by omega)
  have h2:=oF s (i+n) (by omega)
  show pos s i+(n+1)<=pos s (i+n+1)
  omega
theorem zlr (s:List UInt8) (k:Nat) (h:k<=(rl s).length):pos s k<=s.length:=by
 have h1:=gW s ((rl s).length - k) k (by omega)
 rw[gv s (k+((rl s).length - k)) (by omega)] at h1
 omega
theorem nk (s:List UInt8) (k:Nat) (h:k<(rl s).length):pos s k<s.length:=by
 have h1:=oF s k h;have h2:=zlr s (k+1) h;omega
theorem sk (s:List UInt8) (k:Nat) (h:k<=(rl s).length):rl (s.take (pos s k))=(rl s).take k:=(zfb k s h).1
theorem zha (s:List UInt8) (k:Nat) (h:k<=(rl s).length):rl (s.drop (pos s k))=(rl s).drop k:=(zfb k s h).2
theorem oE (s:List UInt8) (k:Nat) (h:k<(rl s).length):pos s k+(dec (s.drop (pos s k))).2=pos s (k+1):=by
 have h1:=zha s k (Nat.le_of_lt h);have hne:s.drop (pos s k)≠ []:=bw s _ (nk s k h);rw[cC _ hne,List.drop_eq_getElem_cons h] at h1;have h2:=(List.cons.inj h1).1;rw[h2]
 show _=pW _
 rw[zch _ k h]
 rfl
theorem zlq (s:List UInt8) (i j:Nat) (hij:i<=j) (hj:j<=(rl s).length):pos (s.take (pos s j)) i=pos s i:=by
 unfold pos;rw[show rl (s.take (pW ((rl s).take j)))=(rl s).take j from sk s j hj,List.take_take,Nat.min_eq_left hij]
end Wt
end Go.Proofs.YtbbapnpdfcgjnaaGreatDoor
