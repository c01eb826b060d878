/- UMath, RMath, REdge: parts of the proof, joined. -/
import Derived.Shelf.Unicode.DecodeLast
import Derived.Lib.MapLaws
set_option maxHeartbeats 64000000
namespace Go.Proofs.YtokpjifnlifafaaGreatDoor
section
structure Mk where
 pl:Int
 wd:Int
 ru:Int
 bad:Bool
def dec (l:List UInt8):Nat × Nat:=if l=[] then (0,0) else Lib.decodeGo ⟨l.toArray⟩
def zaJ (l:List UInt8):Nat × Nat:=if l=[] then (0,0) else Lib.decodeLastL l
theorem ext_drop (l:List UInt8) (t:Nat):(⟨l.toArray⟩:ByteArray).extract t l.length=⟨(l.drop t).toArray⟩:=by
 apply ByteArray.ext
 simp[ByteArray.data_extract,List.take_of_length_le]
def byt (l:List UInt8) (i:Nat):Int:=((l.getD i 0).toNat:Int)
theorem byt_bd (l:List UInt8) (i:Nat):0<=byt l i/\byt l i<256:=by
 have:=(l.getD i 0).toNat_lt;unfold byt;omega
def bgF (l:List UInt8) (p:Nat):Nat->Nat
 | 0=>p
 | f+1=>if p<3 - f then p else if Lib.runeStart (byt l (p - (3 - f))) then (if p<p - (3 - f)+(dec (l.drop (p - (3 - f)))).2 then p - (3 - f) else p) else bgF l p f
theorem dec_le4 (l:List UInt8):(dec l).2<=4:=by
 unfold dec
 split
 ·simp
 ·unfold Lib.decodeGo
  split
  ·simp
  ·unfold Utf8.decode
   simp only[]
   repeat' split
   all_goals simp
theorem byt_eq (l:List UInt8) (t:Nat) (h:t<(⟨l.toArray⟩:ByteArray).size):(((⟨l.toArray⟩:ByteArray)[t]'h).toNat:Int)=byt l t:=by
 have h':t<l.length:=by have:t<l.toArray.size:=h;simpa using this
 unfold byt;rw[show(⟨l.toArray⟩:ByteArray)[t]'h=l[t] from rfl]
 simp[List.getD,h']
theorem bgF_out (l:List UInt8) (p f:Nat) (h:p<4 - f):bgF l p f=p:=by
 cases f with
 | zero=>rfl
 | succ f=>unfold bgF;rw[if_pos (by omega)]
theorem zbq (l:List UInt8) (p f t:Nat) (ht:t+(3 - f)=p) (h:Lib.runeStart (byt l t)=false):bgF l p (f+1)=bgF l p f:=by
 have e:p - (3 - f)=t:=by omega
 conv=>lhs;unfold bgF
 rw[if_neg (by omega),e,h];simp
theorem bgF_in (l:List UInt8) (p f t:Nat) (ht:t+(3 - f)=p) (h:Lib.runeStart (byt l t)=true) (hn:p<t+(dec (l.drop t)).2):bgF l p (f+1)=t:=by
 have e:p - (3 - f)=t:=by omega
 unfold bgF;rw[if_neg (by omega),e,h,if_pos rfl,if_pos hn]
theorem bgF_off (l:List UInt8) (p f t:Nat) (ht:t+(3 - f)=p) (h:Lib.runeStart (byt l t)=true) (hn:¬p<t+(dec (l.drop t)).2):bgF l p (f+1)=p:=by
 have e:p - (3 - f)=t:=by omega
 unfold bgF;rw[if_neg (by omega),e,h,if_pos rfl,if_neg hn]
theorem get_list (l:List UInt8) (i:Nat):(⟨l.toArray⟩:ByteArray).get! i=l.getD i 0:=by
 show l.toArray.getD i default=l.getD i 0
 by_cases h:i<l.length
 ·simp[Array.getD,List.getD,h]
 ·simp[Array.getD,List.getD,h];rfl
theorem zbi (l:List UInt8) (h:l≠ []):dec l=Lib.decodeN l.length (l.getD 0 0).toNat (l.getD 1 0).toNat (l.getD 2 0).toNat (l.getD 3 0).toNat:=by
 unfold dec;rw[if_neg h];unfold Lib.decodeGo;have hs:(⟨l.toArray⟩:ByteArray).size=l.length:=by show l.toArray.size=_;simp
 rw[if_neg (by rw[hs];exact fun e=>h (List.length_eq_zero_iff.1 e)),Lib.decode_at,hs]
 simp only[get_list,Nat.zero_add,Nat.sub_zero]
theorem dec_eqL (l:List UInt8) (h:l≠ []):dec l=Lib.decodeL l:=by
 unfold dec;rw[if_neg h];unfold Lib.decodeGo;have hs:(⟨l.toArray⟩:ByteArray).size=l.length:=by show l.toArray.size=_;simp
 rw[if_neg (by rw[hs];exact fun e=>h (List.length_eq_zero_iff.1 e))]
 rfl
theorem dec_ge (l:List UInt8) (h:l≠ []):1<=(dec l).2:=by rw[dec_eqL l h];exact Lib.decodeL_width l
theorem dec_le (l:List UInt8) (h:l≠ []):(dec l).2<=l.length:=by rw[dec_eqL l h];exact Lib.decodeL_le l h
theorem dec_rune (l:List UInt8) (h:l≠ []):(dec l).1<=1114111:=by rw[dec_eqL l h];exact Lib.decodeL_rune l
def mk1 (p:Nat) (l:List UInt8):Mk:=⟨p,(dec l).2,(dec l).1,decide ((dec l).2=1)&&decide ((dec l).1=65533)⟩
def mksF:Nat->Nat->List UInt8->List Mk
 | 0,_,_=>[]
 | k+1,p,l=>if l=[] then [] else mk1 p l::mksF k (p+(dec l).2) (l.drop (dec l).2)
theorem mksF_any:∀(k k' p:Nat) (l:List UInt8),l.length<=k->l.length<=k'->mksF k p l=mksF k' p l
 | 0,0,_,_,_,_=>rfl
 | 0,k'+1,p,l,h,_=>by
  have:l=[]:=List.length_eq_zero_iff.1 (by omega)
  subst this;simp[mksF]
 | k+1,0,p,l,_,h=>by
  have:l=[]:=List.length_eq_zero_iff.1 (by omega)
  subst this;simp[mksF]
 | k+1,k'+1,p,l,h,h'=>by
  unfold mksF
  by_cases e:l=[]
  ·simp[e]
  ·rw[if_neg e,if_neg e]
   have:=dec_ge l e;rw[mksF_any k k' (p+(dec l).2) (l.drop (dec l).2) (by simp;omega) (by simp;omega)]
def mks (p:Nat) (l:List UInt8):List Mk:=mksF l.length p l
theorem mks_nil (p:Nat):mks p []=[]:=rfl
theorem zdc (p:Nat) (l:List UInt8) (h:l≠ []):mks p l=mk1 p l::mks (p+(dec l).2) (l.drop (dec l).2):=by
 have h1:=dec_ge l h;have h2:=dec_le l h;unfold mks;rw[mksF_any l.length (l.length - 1+1) p l (by omega) (by omega)]
 conv=>lhs;unfold mksF
 rw[if_neg h,mksF_any (l.length - 1) (l.drop (dec l).2).length _ _ (by simp;omega) (by omega)]
theorem get_drop (l:List UInt8) (t j:Nat):(l.drop t).getD j 0=l.getD (t+j) 0:=by simp[List.getD]
theorem zcj (l:List UInt8) (t:Nat) (h:t<l.length):Utf8.decode ⟨l.toArray⟩ t=dec (l.drop t):=by
 have hne:l.drop t≠ []:=fun e=>by have:=congrArg List.length e;simp at this;omega
 have hs:(⟨l.toArray⟩:ByteArray).size=l.length:=by show l.toArray.size=_;simp
 rw[zbi _ hne,Lib.decode_at,hs]
 simp only[get_list,get_drop,List.length_drop,Nat.add_zero]
def prs (l:List UInt8):List (Int × Int):=(mks 0 l).map fun m=>(m.pl,m.ru)
def prF (l:List UInt8) (t:Nat):List (Int × Int):=(mks t (l.drop t)).map fun m=>(m.pl,m.ru)
theorem prF_end (l:List UInt8) (t:Nat) (h:¬t<l.length):prF l t=[]:=by
 unfold prF;rw[List.drop_of_length_le (by omega),mks_nil];rfl
theorem byt_drop (l:List UInt8) (t j:Nat):byt (l.drop t) j=byt l (t+j):=by simp[byt,List.getD]
def wid (l:List UInt8) (t:Nat):Nat:=(dec (l.drop t)).2
theorem zaL (l:List UInt8) (t:Nat) (h:t<l.length):l.drop t≠ []:=fun e=>by have:=congrArg List.length e;simp at this;omega
theorem zeq (l:List UInt8) (t:Nat) (h:t<l.length):1<=wid l t:=dec_ge _ (zaL l t h)
theorem wid_le (l:List UInt8) (t:Nat) (h:t<l.length):t+wid l t<=l.length:=by
 have:=dec_le _ (zaL l t h);simp only[List.length_drop] at this;unfold wid;omega
theorem wid_le4 (l:List UInt8) (t:Nat):wid l t<=4:=dec_le4 _
theorem dec_inner (l:List UInt8) (h:l≠ []) (j:Nat) (h1:1<=j) (h2:j<(dec l).2):Lib.runeStart (byt l j)=false/\Lib.runeStart (byt l 0)=true:=by
 have h4:=dec_le4 l;have hj:j=1\/j=2\/j=3:=by omega
 have key:byt l j / 64=2/\¬byt l 0 / 64=2:=by
  rw[zbi l h] at h2
  rcases hj with rfl | rfl | rfl
  all_goals
   unfold byt
   generalize (l.getD 0 0).toNat=b0 at *
   generalize (l.getD 1 0).toNat=b1 at *
   generalize (l.getD 2 0).toNat=b2 at *
   generalize (l.getD 3 0).toNat=b3 at *
   unfold Lib.decodeN at h2
   split at h2
   ·exfalso;simp at h2
   ·split at h2
    ·split at h2
     ·simp at h2<;>omega
     ·exfalso;simp at h2
    ·split at h2
     ·split at h2
      ·simp at h2<;>omega
      ·exfalso;simp at h2
     ·split at h2
      ·split at h2
       ·simp at h2<;>omega
       ·exfalso;simp at h2
      ·exfalso;simp at h2
 unfold Lib.runeStart
 simp[key]
theorem zaU (l:List UInt8) (t q:Nat) (ht:t<l.length) (h1:t<q) (h2:q<t+wid l t):Lib.runeStart (byt l q)=false/\Lib.runeStart (byt l t)=true:=by
 have h:=dec_inner (l.drop t) (zaL l t ht) (q - t) (by omega) (by unfold wid at h2;omega)
 rw[byt_drop,byt_drop] at h;rw[show t+(q - t)=q by omega,Nat.add_zero] at h
 exact h
theorem mks_at (l:List UInt8) (t:Nat) (h:t<l.length):mks t (l.drop t)=mk1 t (l.drop t)::mks (t+wid l t) (l.drop (t+wid l t)):=by
 rw[zdc t (l.drop t) (zaL l t h),List.drop_drop];rfl
theorem mks_end (l:List UInt8) (t:Nat) (h:¬t<l.length):mks t (l.drop t)=[]:=by rw[List.drop_of_length_le (by omega)];rfl
theorem mks_ge (l:List UInt8):∀(n t:Nat),l.length - t<=n->∀m∈mks t (l.drop t),(t:Int)<=m.pl/\m.pl<l.length
 | 0,t,h,m,hm=>by rw[mks_end l t (by omega)] at hm;cases hm
 | n+1,t,h,m,hm=>by
  by_cases ht:t<l.length
  ·rw[mks_at l t ht] at hm
   have hw:=zeq l t ht
   rcases List.mem_cons.1 hm with rfl | hm
   ·exact⟨Int.le_refl _,by show(t:Int)<_;omega⟩
   ·have:=mks_ge l n (t+wid l t) (by omega) m hm
    omega
  ·rw[mks_end l t ht] at hm;cases hm
theorem locate (l:List UInt8) (q:Nat) (hq:q<l.length):∀(n t:Nat),l.length - t<=n->t<=q->
  ∃(e:Nat) (P:List Mk),t<=e/\e<=q/\q<e+wid l e/\mks t (l.drop t)=P++mk1 e (l.drop e)::mks (e+wid l e) (l.drop (e+wid l e))/\∀m∈P,m.pl<(e:Int)
 | 0,t,h,ht=>by omega
 | n+1,t,h,ht=>by
  have htl:t<l.length:=by omega
  have hw:=zeq l t htl
  by_cases hc:q<t+wid l t
  ·exact⟨t,[],Nat.le_refl _,ht,hc,mks_at l t htl,fun m hm=>by cases hm⟩
  ·obtain⟨e,P,h1,h2,h3,h4,h5⟩:=locate l q hq n (t+wid l t) (by omega) (by omega)
   refine⟨e,mk1 t (l.drop t)::P,by omega,h2,h3,by rw[mks_at l t htl,h4];rfl,fun m hm=>?_⟩
   rcases List.mem_cons.1 hm with rfl | hm
   ·show(t:Int)<e;omega
   ·exact h5 m hm
theorem chain (l:List UInt8) (e x:Nat) (P:List Mk) (h:mks 0 l=P++mk1 e (l.drop e)::mks (e+wid l e) (l.drop (e+wid l e))) (hP:∀m∈P,m.pl<(e:Int)) (hx:∃m∈mks 0 l,m.pl=(x:Int)) (hlt:e<x):e+wid l e<=x:=by
 obtain⟨m,hm,he⟩:=hx;rw[h] at hm
 rcases List.mem_append.1 hm with hm | hm
 ·have:=hP m hm;omega
 ·rcases List.mem_cons.1 hm with rfl | hm
  ·have:(e:Int)=x:=he
   omega
  ·have:=(mks_ge l (l.length - (e+wid l e)) (e+wid l e) (Nat.le_refl _) m hm).1
   omega
theorem bgF_tail (l:List UInt8) (q:Nat) (h:∀t,t<q->Lib.runeStart (byt l t)=true->¬q<t+wid l t):∀f,f<=3->bgF l q f=q
 | 0,_=>rfl
 | f+1,hf=>by
  by_cases ho:q<4 - (f+1)
  ·exact bgF_out l q (f+1) ho
  ·have ht:(q - (3 - f))+(3 - f)=q:=by omega
   cases hr:Lib.runeStart (byt l (q - (3 - f))) with
   | false=>rw[zbq l q f _ ht hr];exact bgF_tail l q h f (by omega)
   | true=>exact bgF_off l q f _ ht hr (h _ (by omega) hr)
theorem begin_is (l:List UInt8) (q e:Nat) (P:List Mk) (hq:q<l.length) (h1:e<=q) (h2:q<e+wid l e) (h:mks 0 l=P++mk1 e (l.drop e)::mks (e+wid l e) (l.drop (e+wid l e))):bgF l q 4=e:=by
 have h4:=wid_le4 l e;have hel:e<l.length:=by omega
 by_cases he:e=q
 ·subst he
  cases hr:Lib.runeStart (byt l e) with
  | true=>exact bgF_in l e 3 e (by omega) hr (by exact h2)
  | false=>
   rw[zbq l e 3 e (by omega) hr]
   refine bgF_tail l e (fun t ht hs hc=>?_) 3 (Nat.le_refl _)
   obtain⟨e',P',g1,g2,g3,g4,g5⟩:=locate l t (by omega) l.length 0 (by omega) (Nat.zero_le _)
   have ee:e'=t:=by
    rcases Nat.lt_or_ge e' t with hlt | hge
    ·have:=(zaU l e' t (by omega) hlt g3).1
     rw[this] at hs;cases hs
    ·omega
   subst ee;have:=chain l e' e P' g4 g5 ⟨mk1 e (l.drop e),by rw[h];simp,rfl⟩ ht
   omega
 ·have hin:∀t,e<t->t<=q->Lib.runeStart (byt l t)=false:=fun t a b=>(zaU l e t hel a (by omega)).1
  have hst:Lib.runeStart (byt l e)=true:=(zaU l e q hel (by omega) h2).2
  have hj:q=e+1\/q=e+2\/q=e+3:=by omega
  rcases hj with rfl | rfl | rfl
  ·rw[zbq l (e+1) 3 (e+1) (by omega) (hin _ (by omega) (by omega))]
   exact bgF_in l (e+1) 2 e (by omega) hst h2
  ·rw[zbq l (e+2) 3 (e+2) (by omega) (hin _ (by omega) (by omega)),zbq l (e+2) 2 (e+1) (by omega) (hin _ (by omega) (by omega))]
   exact bgF_in l (e+2) 1 e (by omega) hst h2
  ·rw[zbq l (e+3) 3 (e+3) (by omega) (hin _ (by omega) (by omega)),zbq l (e+3) 2 (e+2) (by omega) (hin _ (by omega) (by omega)),zbq l (e+3) 1 (e+1) (by omega) (hin _ (by omega) (by omega))]
   exact bgF_in l (e+3) 0 e (by omega) hst h2
theorem pl_ge (l:List UInt8):∀m∈mks 0 l,0<=m.pl/\m.pl<l.length:=fun m hm=>by
 have h:=mks_ge l l.length 0 (by omega) m (by simpa using hm)
 exact⟨h.1,h.2⟩
theorem getD_take (l:List UInt8) (n i:Nat):((l.take n).getD i 0).toNat=if i<n then (l.getD i 0).toNat else 0:=by
 by_cases h:i<n<;>simp[List.getD,List.getElem?_take,h]
theorem decodeN_cut (N n b0 b1 b2 b3:Nat) (h1:1<=n) (h:(Lib.decodeN N b0 b1 b2 b3).2<=n):
  Lib.decodeN (min n N) b0 (if 1<n then b1 else 0) (if 2<n then b2 else 0) (if 3<n then b3 else 0)=Lib.decodeN N b0 b1 b2 b3:=by
 have c:n=1\/n=2\/n=3\/4<=n:=by omega
 rcases c with rfl | rfl | rfl | c
 ·simp only[Nat.lt_irrefl,if_false,Nat.reduceLT]
  unfold Lib.decodeN at *
  revert h
  repeat' split
  all_goals first | (intro h;dsimp only at h;exfalso;omega) | (intro _;rfl)
 ·simp only[Nat.lt_irrefl,if_false,if_true,Nat.reduceLT]
  unfold Lib.decodeN at *
  revert h
  repeat' split
  all_goals first | (intro h;dsimp only at h;exfalso;omega) | (intro _;rfl)
 ·simp only[Nat.lt_irrefl,if_false,if_true,Nat.reduceLT]
  unfold Lib.decodeN at *
  revert h
  repeat' split
  all_goals first | (intro h;dsimp only at h;exfalso;omega) | (intro _;rfl)
 ·rw[if_pos (by omega),if_pos (by omega),if_pos (by omega)]
  unfold Lib.decodeN;have e1:(1<min n N)=(1<N):=propext ⟨fun h=>by omega,fun h=>by omega⟩
  have e2:(2<min n N)=(2<N):=propext ⟨fun h=>by omega,fun h=>by omega⟩
  have e3:(3<min n N)=(3<N):=propext ⟨fun h=>by omega,fun h=>by omega⟩
  simp only[e1,e2,e3]
theorem dec_take (l:List UInt8) (h:l≠ []) (n:Nat) (hn:(dec l).2<=n):dec (l.take n)=dec l:=by
 have h1:=dec_ge l h;have hp:0<l.length:=List.length_pos_iff.2 h;have hne:l.take n≠ []:=fun e=>by have:=congrArg List.length e;rw[List.length_take] at this;simp only[List.length_nil] at this;omega
 have hn1:1<=n:=by omega
 rw[zbi _ hne,zbi l h,List.length_take];rw[zbi l h] at hn
 simp only[getD_take]
 rw[if_pos (by omega:0<n)]
 exact decodeN_cut _ _ _ _ _ _ (by omega) hn
theorem last_cut (l:List UInt8):∀(n t:Nat),l.length - t<=n->t<l.length->
  ∃e,t<=e/\e<l.length/\e+wid l e=l.length/\mks t (l.drop t)=mks t ((l.take e).drop t)++[mk1 e (l.drop e)]
 | 0,t,h,ht=>by omega
 | n+1,t,h,ht=>by
  have h1:=zeq l t ht;have h2:=wid_le l t ht
  by_cases hc:t+wid l t=l.length
  ·refine⟨t,Nat.le_refl _,ht,hc,?_⟩
   rw[mks_at l t ht,hc,mks_end l l.length (by omega),(show(l.take t).drop t=[] from List.drop_of_length_le (by simp;omega)),mks_nil];rfl
  ·obtain⟨e,g1,g2,g3,g4⟩:=last_cut l n (t+wid l t) (by omega) (by omega)
   refine⟨e,by omega,g2,g3,?_⟩
   have hd:(l.take e).drop t=(l.drop t).take (e - t):=List.drop_take ..;have hl:(l.take e).length=e:=by simp;omega
   have hdec:dec ((l.take e).drop t)=dec (l.drop t):=by rw[hd];exact dec_take _ (zaL l t ht) _ (by unfold wid at g1;omega)
   have hw:wid (l.take e) t=wid l t:=by unfold wid;rw[hdec]
   rw[mks_at l t ht,g4,mks_at (l.take e) t (by omega),hw]
   have hm:mk1 t ((l.take e).drop t)=mk1 t (l.drop t):=by unfold mk1;rw[hdec]
   rw[hm];rfl
theorem last_parts (l:List UInt8) (h:l≠ []):∃e,e<l.length/\e+wid l e=l.length/\mks 0 l=mks 0 (l.take e)++[mk1 e (l.drop e)]:=by
 obtain⟨e,_,g2,g3,g4⟩:=last_cut l l.length 0 (by omega) (List.length_pos_iff.2 h)
 exact⟨e,g2,g3,by simpa using g4⟩
theorem start_chain (l:List UInt8) (s e:Nat) (hs:s<l.length) (hr:Lib.runeStart (byt l s)=true) (he:∃m∈mks 0 l,m.pl=(e:Int)) (hlt:s<e):s+wid l s<=e:=by
 obtain⟨e',P',g1,g2,g3,g4,g5⟩:=locate l s hs l.length 0 (by omega) (Nat.zero_le _)
 have ee:e'=s:=by
  rcases Nat.lt_or_ge e' s with hlt | hge
  ·have:=(zaU l e' s (by omega) hlt g3).1
   rw[this] at hr;cases hr
  ·omega
 subst ee;exact chain l e' e P' g4 g5 he hlt
theorem startB (l:List UInt8) (i:Nat):Lib.runeStartB (l.getD i 0)=Lib.runeStart (byt l i):=Lib.runeStartB_eq _
theorem lastStart_le (l:List UInt8) (h:2<=l.length):Lib.lastStart l<=l.length - 2:=by
 unfold Lib.lastStart
 simp only
 repeat' split
 all_goals omega
theorem last_is (l:List UInt8) (h:l≠ []) (e:Nat) (he:e<l.length) (hw:e+wid l e=l.length) (hm:mks 0 l=mks 0 (l.take e)++[mk1 e (l.drop e)]):zaJ l=dec (l.drop e):=by
 have hp:0<l.length:=List.length_pos_iff.2 h;have hge:=zeq l e he;have h4:=wid_le4 l e;unfold zaJ;rw[if_neg h];unfold Lib.decodeLastL;rw[if_neg h]
 by_cases h1:wid l e=1
 ·have ee:e=l.length - 1:=by omega
  have hdl:(l.drop e).length=1:=by simp;omega
  have hb0:(l.drop e).getD 0 0=l.getD e 0:=by simp[List.getD]
  have hN:dec (l.drop e)=if (l.getD e 0).toNat<128 then ((l.getD e 0).toNat,1) else (65533,1):=by
   rw[zbi _ (zaL l e he),hdl,hb0];unfold Lib.decodeN
   simp
  rw[hN,<- ee]
  by_cases ha:(l.getD e 0).toNat<128
  ·rw[if_pos ha,if_pos ha]
  ·rw[if_neg ha,if_neg ha]
   by_cases hl1:l.length=1
   ·have hs:=Lib.lastStart_one l hl1
    have e0:e=0:=by omega
    simp only[hs]
    rw[<- dec_eqL _ (zaL l 0 hp)];rw[e0] at hN ha;rw[hN,if_neg ha]
    simp[Utf8.runeError]
   ·have hsl:=lastStart_le l (by omega)
    have hslt:Lib.lastStart l<l.length:=by omega
    simp only
    rw[<- dec_eqL _ (zaL l _ hslt),if_neg]
    ·rfl
    ·intro hc
     change Lib.lastStart l+wid l (Lib.lastStart l)=l.length at hc
     generalize Lib.lastStart l=s at *
     cases hr:Lib.runeStart (byt l s) with
     | true=>
      have:=start_chain l s e hslt hr ⟨mk1 e (l.drop e),by rw[hm];simp,rfl⟩ (by omega)
      omega
     | false=>
      have hg:=zeq l s hslt;have:¬1<wid l s:=fun hw1=>by
       have:=(zaU l s (s+1) hslt (by omega) (by omega)).2
       rw[this] at hr;cases hr
      omega
 ·have hlast:=(zaU l e (l.length - 1) he (by omega) (by omega)).1
  have hst:=(zaU l e (l.length - 1) he (by omega) (by omega)).2
  have ha:¬(l.getD (l.length - 1) 0).toNat<128:=by
   have:((l.getD (l.length - 1) 0).toNat:Int) / 64=2:=by simpa[Lib.runeStart,byt] using hlast
   omega
  rw[if_neg ha];have hs:Lib.lastStart l=e:=by
   have hc:wid l e=2\/wid l e=3\/wid l e=4:=by omega
   rcases hc with hc | hc | hc
   ·exact Lib.lastStart_at2 l e (by omega) (by rw[startB];exact hst)
   ·exact Lib.lastStart_at3 l e (by omega) (by rw[startB];exact(zaU l e (e+1) he (by omega) (by omega)).1) (by rw[startB];exact hst)
   ·exact Lib.lastStart_at4 l e (by omega) (by rw[startB];exact(zaU l e (e+2) he (by omega) (by omega)).1) (by rw[startB];exact(zaU l e (e+1) he (by omega) (by omega)).1) (by rw[startB];exact hst)
  simp only[hs]
  rw[<- dec_eqL _ (zaL l e he),if_pos (show e+(dec (l.drop e)).2=l.length from hw)]
theorem last_step (l:List UInt8) (h:l≠ []):∃e n c:Nat,zaJ l=(c,n)/\1<=n/\e+n=l.length/\c<=1114111/\bgF l (l.length - 1) 4=e/\prs l=prs (l.take e)++[((e:Int),(c:Int))]:=by
 obtain⟨e,h1,h2,h3⟩:=last_parts l h;refine⟨e,wid l e,(dec (l.drop e)).1,last_is l h e h1 h2 h3,zeq l e h1,h2,dec_rune _ (zaL l e h1),?_,?_⟩
 ·refine begin_is l (l.length - 1) e (mks 0 (l.take e)) (by omega) (by omega) (by omega) ?_
  rw[h3,mks_end l (e+wid l e) (by omega)]
 ·unfold prs
  rw[h3,List.map_append];rfl
def Mk.on (e:Nat) (m:Mk):Mk:={m with pl:=m.pl+e}
theorem mks_shift (e:Nat):∀(n k:Nat) (l:List UInt8),l.length<=n->mks (e+k) l=(mks k l).map (Mk.on e)
 | 0,k,l,h=>by
  have:l=[]:=List.length_eq_zero_iff.1 (by omega)
  subst this;rfl
 | n+1,k,l,h=>by
  by_cases hl:l=[]
  ·subst hl;rfl
  ·have h1:=dec_ge l hl
   have hp:0<l.length:=List.length_pos_iff.2 hl;rw[zdc _ l hl,zdc k l hl,Nat.add_assoc,mks_shift e n (k+(dec l).2) (l.drop (dec l).2) (by simp;omega),List.map_cons]
   congr 1
   unfold mk1 Mk.on
   simp
   omega
end
section
def rlF:Nat->List UInt8->List (Nat × Nat)
 | 0,_=>[]
 | f+1,l=>if l=[] then [] else dec l::rlF f (l.drop (dec l).2)
theorem rlF_any:∀(f g:Nat) (l:List UInt8),l.length<=f->l.length<=g->rlF f l=rlF g l
 | 0,0,_,_,_=>rfl
 | 0,g+1,l,hf,hg=>by
  have:l=[]:=List.length_eq_zero_iff.1 (by omega)
  subst this;rfl
 | f+1,0,l,hf,hg=>by
  have:l=[]:=List.length_eq_zero_iff.1 (by omega)
  subst this;rfl
 | f+1,g+1,l,hf,hg=>by
  unfold rlF
  by_cases h:l=[]
  ·rw[if_pos h,if_pos h]
  ·have h1:=dec_ge l h
   rw[if_neg h,if_neg h,rlF_any f g (l.drop (dec l).2) (by rw[List.length_drop];omega) (by rw[List.length_drop];omega)]
def rl (l:List UInt8):List (Nat × Nat):=rlF l.length l
theorem zeB:rl []=[]:=rfl
theorem zbg (l:List UInt8) (h:l≠ []):rl l=dec l::rl (l.drop (dec l).2):=by
 have h1:=dec_ge l h;have hp:0<l.length:=List.length_pos_iff.2 h;unfold rl;rw[rlF_any l.length (l.length - 1+1) l (by omega) (by omega)]
 conv=>lhs;unfold rlF
 rw[if_neg h,rlF_any (l.length - 1) _ (l.drop (dec l).2) (by rw[List.length_drop];omega) (Nat.le_refl _)]
def psm (X:List (Nat × Nat)):Nat:=(X.map (·.2)).sum
theorem zdX (x:Nat × Nat) (X:List (Nat × Nat)):psm (x::X)=x.2+psm X:=by simp[psm]
theorem psm_app (X Y:List (Nat × Nat)):psm (X++Y)=psm X+psm Y:=by simp[psm]
theorem rl_sum:∀(n:Nat) (l:List UInt8),l.length<=n->psm (rl l)=l.length
 | 0,l,h=>by
  have:l=[]:=List.length_eq_zero_iff.1 (by omega)
  subst this;rfl
 | n+1,l,h=>by
  by_cases hl:l=[]
  ·subst hl;rfl
  ·have h1:=dec_ge l hl
   have h2:=dec_le l hl;rw[zbg l hl,zdX,rl_sum n _ (by rw[List.length_drop];omega),List.length_drop]
   omega
theorem rl_pos:∀(n:Nat) (l:List UInt8),l.length<=n->∀x∈rl l,1<=x.2
 | 0,l,h,x,hx=>by
  have:l=[]:=List.length_eq_zero_iff.1 (by omega)
  subst this;cases hx
 | n+1,l,h,x,hx=>by
  by_cases hl:l=[]
  ·subst hl;cases hx
  ·have h1:=dec_ge l hl
   rw[zbg l hl] at hx
   rcases List.mem_cons.1 hx with rfl | hx
   ·exact h1
   ·exact rl_pos n _ (by rw[List.length_drop];omega) x hx
theorem rl_cut:∀(k:Nat) (l:List UInt8),k<=(rl l).length->rl (l.take (psm ((rl l).take k)))=(rl l).take k/\rl (l.drop (psm ((rl l).take k)))=(rl l).drop k
 | 0,l,_=>by simp[psm,zeB]
 | k+1,l,hk=>by
  by_cases hl:l=[]
  ·subst hl;simp[zeB] at hk
  ·have h1:=dec_ge l hl
   have hc:=zbg l hl;rw[hc,List.length_cons] at hk;obtain⟨i1,i2⟩:=rl_cut k (l.drop (dec l).2) (by omega)
   rw[hc,List.take_succ_cons,zdX,List.drop_succ_cons];refine⟨?_,by rw[<- List.drop_drop];exact i2⟩
   have hm:l.take ((dec l).2+psm ((rl (l.drop (dec l).2)).take k))≠ []:=fun e=>by
    have:=congrArg List.length e;have h2:=dec_le l hl;rw[List.length_take,List.length_nil] at this;omega
   rw[zbg _ hm,dec_take l hl _ (by omega),List.drop_take,Nat.add_sub_cancel_left,i1]
def ltl (l:List UInt8):List UInt8:=l.take (l.length - (zaJ l).2)
theorem rl_snoc (l:List UInt8) (h:l≠ []):rl l=rl (ltl l)++[zaJ l]:=by
 obtain⟨e,h1,h2,h3⟩:=last_parts l h;have h4:=last_is l h e h1 h2 h3;have he:l.length - (zaJ l).2=e:=by rw[h4];unfold wid at h2;omega
 have hx:rl (l.drop e)=[zaJ l]:=by
  rw[zbg _ (zaL l e h1),h4,List.drop_drop,show e+(dec (l.drop e)).2=l.length from h2,List.drop_length,zeB]
 unfold ltl;rw[he]
 -- e is an edge
 have key:∀(n:Nat) (l:List UInt8) (e:Nat),l.length<=n->e<=l.length->(e=l.length\/∃m∈mks 0 l,m.pl=(e:Int))->rl l=rl (l.take e)++rl (l.drop e):=by
  intro n
  induction n with
  | zero=>
   intro l e hn he _;have:l=[]:=List.length_eq_zero_iff.1 (by omega)
   subst this;simp[zeB]
  | succ n ih=>
   intro l e hn he hm
   by_cases hl:l=[]
   ·subst hl;simp[zeB]
   ·by_cases h0:e=0
    ·subst h0;simp[zeB]
    ·have d1:=dec_ge l hl
     have d2:=dec_le l hl;have hle:(dec l).2<=e:=by
      rcases hm with rfl | ⟨m,hm,hp⟩
      ·exact d2
      ·rw[zdc 0 l hl] at hm
       rcases List.mem_cons.1 hm with rfl | hm
       ·have:((0:Nat):Int)=(e:Int):=hp
        omega
       ·have hge:=mks_ge l _ (0+(dec l).2) (Nat.le_refl _) m (by simpa using hm)
        omega
     have hm':e - (dec l).2=(l.drop (dec l).2).length\/∃m∈mks 0 (l.drop (dec l).2),m.pl=((e - (dec l).2:Nat):Int):=by
      rcases hm with rfl | ⟨m,hm,hp⟩
      ·left;rw[List.length_drop]
      ·rw[zdc 0 l hl] at hm
       rcases List.mem_cons.1 hm with rfl | hm
       ·have:((0:Nat):Int)=(e:Int):=hp
        omega
       ·right
        have hs:=mks_shift (dec l).2 _ 0 (l.drop (dec l).2) (Nat.le_refl _);rw[Nat.zero_add] at hm;rw[Nat.add_zero] at hs;rw[hs] at hm;obtain⟨m',hm',rfl⟩:=List.mem_map.1 hm;refine⟨m',hm',?_⟩;have hp':m'.pl+((dec l).2:Int)=(e:Int):=hp;omega
     have hi:=ih (l.drop (dec l).2) (e - (dec l).2) (by rw[List.length_drop];omega) (by rw[List.length_drop];omega) hm'
     have hne:l.take e≠ []:=fun h=>by
      have:=congrArg List.length h;rw[List.length_take,List.length_nil] at this;omega
     rw[zbg l hl,hi,zbg _ hne,dec_take l hl e hle,List.drop_take,List.drop_drop,Nat.add_sub_cancel' hle]
     rfl
 rw[key l.length l e (Nat.le_refl _) (by omega) (.inr ⟨mk1 e (l.drop e),by rw[h3];simp,rfl⟩),hx]
end
namespace Wt
def pos (s:List UInt8) (k:Nat):Nat:=psm ((rl s).take k)
theorem pos_0 (s:List UInt8):pos s 0=0:=rfl
theorem zcL (s:List UInt8) (k:Nat) (h:(rl s).length<=k):pos s k=s.length:=by
 unfold pos;rw[List.take_of_length_le h];exact rl_sum _ s (Nat.le_refl _)
theorem psm_take (X:List (Nat × Nat)) (k:Nat) (h:k<X.length):psm (X.take (k+1))=psm (X.take k)+(X[k]).2:=by
 rw[List.take_succ_eq_append_getElem h,psm_app]
 simp[psm]
theorem pos_lt (s:List UInt8) (k:Nat) (h:k<(rl s).length):pos s k<pos s (k+1):=by
 unfold pos;rw[psm_take _ k h];have:=rl_pos _ s (Nat.le_refl _) _ (List.getElem_mem h);omega
theorem zcr (s:List UInt8):∀(n i:Nat),i+n<=(rl s).length->pos s i+n<=pos s (i+n)
 | 0,i,_=>Nat.le_refl _
 | n+1,i,h=>by
  have h1:=zcr s n i (by omega)
  have h2:=pos_lt s (i+n) (by omega)
  show pos s i+(n+1)<=pos s (i+n+1)
  omega
theorem pos_le (s:List UInt8) (k:Nat) (h:k<=(rl s).length):pos s k<=s.length:=by
 have h1:=zcr s ((rl s).length - k) k (by omega)
 rw[zcL s (k+((rl s).length - k)) (by omega)] at h1
 omega
theorem pos_end (s:List UInt8) (k:Nat) (h:k<(rl s).length):pos s k<s.length:=by
 have h1:=pos_lt s k h;have h2:=pos_le s (k+1) h;omega
theorem rl_take (s:List UInt8) (k:Nat) (h:k<=(rl s).length):rl (s.take (pos s k))=(rl s).take k:=(rl_cut k s h).1
theorem rl_drop (s:List UInt8) (k:Nat) (h:k<=(rl s).length):rl (s.drop (pos s k))=(rl s).drop k:=(rl_cut k s h).2
theorem pos_step (s:List UInt8) (k:Nat) (h:k<(rl s).length):pos s k+(dec (s.drop (pos s k))).2=pos s (k+1):=by
 have h1:=rl_drop s k (Nat.le_of_lt h);have hne:s.drop (pos s k)≠ []:=zaL s _ (pos_end s k h);rw[zbg _ hne,List.drop_eq_getElem_cons h] at h1;have h2:=(List.cons.inj h1).1;rw[h2]
 show _=psm _
 rw[psm_take _ k h]
 rfl
end Wt
end Go.Proofs.YtokpjifnlifafaaGreatDoor
