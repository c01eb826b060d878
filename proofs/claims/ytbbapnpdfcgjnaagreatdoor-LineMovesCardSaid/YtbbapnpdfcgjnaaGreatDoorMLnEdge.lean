/- LnEdge, LnChs, LnMv: parts of the proof, joined. -/
import Derived.RangeFuncBound
import Derived.Shelf.RegionOpen
import Derived.OwnWalkIn
import Derived.LoopNIn
import Derived.LoopIn
import Derived.Test.YtbbapnpdfcgjnaaGreatDoorMLiMath
import Derived.Test.YtbbapnpdfcgjnaaGreatDoorMLnOnw
import Derived.Test.YtbbapnpdfcgjnaaGreatDoorMSgMath
open List renaming reverse_singleton->sD, singleton_append->sE, reverse_append->sG, filter_cons->sJ, range'->sK, map_cons->sL, find?_cons->sM, filter_append->sN, length_drop->sO, range'_1_concat->sP, map_append->sQ, length_map->sR, headD_cons->sS, dropWhile_cons_of_pos->sT, dropWhile_cons_of_neg->sU, range'_succ->sX, filter_nil->ta, take_append_drop->tb, getElem?_map->te, map_nil->tf, length_take->tg, tail_cons->tj, drop_drop->tk
open Nat renaming le_refl->sH, lt_or_ge->sY, zero_add->td, sub_self->tm
open Bool renaming or_false->sI, false_eq_true->sV, false_or->sW, or_eq_true->sZ, or_assoc->tc, decide_and->ti
set_option maxHeartbeats 64000000
namespace Go.Proofs.YtbbapnpdfcgjnaaGreatDoor
namespace Ln
open Wt
def fl (l:List UInt8):List Int:=(rl l).map fun x=>bE x.1
theorem zij (l:List UInt8) (h:l≠ []):fl l=aT l::fl (l.drop (dec l).2):=by unfold fl aT;rw[if_neg h,bX l h,sL]
theorem nR (l:List UInt8) (h:l≠ []):fl l=fl (qm l)++[aS l]:=by unfold fl aS;rw[if_neg h,zpY l h,sQ,List.map_singleton]
theorem zgu (l:List UInt8):(fl l).length=(rl l).length:=sR _
theorem ji (s:List UInt8) (k:Nat) (h:k<=(rl s).length):fl (s.take (pos s k))=(fl s).take k:=by
 unfold fl;rw[Wt.zae s k h,List.map_take]
theorem zaW (s:List UInt8) (k:Nat) (h:k<=(rl s).length):fl (s.drop (pos s k))=(fl s).drop k:=by
 unfold fl;rw[Wt.zhx s k h,List.map_drop]
theorem jb (l:List UInt8):aS l=(fl l).reverse.headD (-1):=by
 by_cases h:l=[]
 ·subst h;rfl
 ·rw[nR l h,sG,sD,sE,sS]
theorem pc (l:List UInt8):aT l=(fl l).headD (-1):=by
 by_cases h:l=[]
 ·subst h;rfl
 ·rw[zij l h,sS]
theorem zvv (l:List UInt8):(fl (qm l)).reverse=(fl l).reverse.tail:=by
 by_cases h:l=[]
 ·subst h;rfl
 ·rw[nR l h,sG,sD,sE,tj]
theorem zaV (K:List Int):∀(n:Nat) (l:List UInt8),l.length<=n->(fl (dy K l)).reverse=(fl l).reverse.dropWhile (bW K)
 | n,l,hn=>by
  by_cases h:l=[]
  ·subst h;rfl
  ·have hl:=lY l h
   cases hk:bW K (aS l) with
   | true=>
    cases n with
    | zero=>omega
    | succ n=>
     rw[og K l h hk,zaV K n (qm l) (by omega),nR l h,sG,sD,sE,sT hk]
   | false=>
    rw[sh K l hk,nR l h,sG,sD,sE,sU (by rw[hk];simp)]
theorem zxD:bW [8]=Li.cu:=by funext c;unfold Li.cu;rw[cD];simp[bW]
theorem amg4:bW [4]=Li.gi:=by funext c;unfold Li.gi;rw[cD];simp[bW]
theorem fZ (l:List UInt8):aM l=Li.bL (fl l).reverse:=by
 unfold aM Li.bL;rw[jb,zaV [8] _ l (sH _),zxD]
theorem zgt (K:List Int) (l:List UInt8):(fl (dm K l)).reverse=if bW K (Li.bL (fl l).reverse)=true then ((fl l).reverse.dropWhile Li.cu).tail else (fl l).reverse:=by
 unfold dm;rw[<- fZ]
 show(fl (if bW K (aM l)=true then _ else _)).reverse=_
 split
 ·rw[zvv,zaV [8] _ l (sH _),zxD]
 ·rfl
theorem zwe (l:List UInt8):mF l=Li.m8 (fl l).reverse:=by
 unfold mF Li.m8;rw[fZ,zgt,zgt];have e1:∀c,bW [11,10] c=(c==10 || c==11):=fun c=>by simp only[cD];rw[show bW [] c=false from rfl,sI,Bool.or_comm]
 have e2:∀c,bW [14,15] c=(c==14 || c==15):=fun c=>by simp only[cD];rw[show bW [] c=false from rfl,sI]
 have p1:∀A:List Int,(Li.bL (if bW [14,15] (Li.bL A)=true then (A.dropWhile Li.cu).tail else A)==20)=Li.p1L A:=fun A=>by
  unfold Li.p1L;rw[e2]
  split<;>rfl
 rw[p1,e1]
 split<;>rfl
theorem zlY:∀(A:List Int) (o:Bool),Li.il A o=Li.il (A.dropWhile Li.cu) o
 | [],o=>rfl
 | z::A,o=>by
  cases hz:Li.cu z with
  | true=>
   rw[sT hz,Li.oT,hz,if_pos rfl,if_neg (by unfold Li.cu at hz;have:=beq_iff_eq.1 hz;subst this;decide)]
   exact zlY A o
  | false=>rw[sU (by rw[hz];simp)]
theorem zsO (A:List Int) (o:Bool):Li.il A o=if Li.bL A=25 then Li.il (A.dropWhile Li.cu).tail (!o) else o:=by
 rw[zlY];unfold Li.bL
 cases hA:A.dropWhile Li.cu with
 | nil=>rfl
 | cons z Y=>
  have hz:Li.cu z=false:=by
   have h:=List.head?_dropWhile_not Li.cu A;rw[hA] at h
   simpa using h
  rw[sS,tj,Li.oT,hz]
  by_cases h:z=25
  ·subst h;rfl
  ·rw[if_neg h,if_neg (by simpa using h),if_neg (by simp)]
theorem zrE:∀(n:Nat) (l:List UInt8) (o:Bool),l.length<=n->cP l.length l o=Li.il (fl l).reverse o
 | n,l,o,hn=>by
  rw[zsO,<- fZ]
  by_cases h:aM l=25
  ·have hk:bW [25] (aM l)=true:=by rw[h];decide
   have hlt:=kP [25] l (by decide) hk
   rw[rf l o h,if_pos h]
   cases n with
   | zero=>omega
   | succ n=>
    rw[zrE n (dm [25] l) (!o) (by omega),zgt,<- fZ,if_pos hk]
  ·rw[zcV l o h,if_neg h]
theorem zot (c:Int):dp c=Li.qA c:=by
 unfold dp Li.qA
 simp only[cD]
 rw[show bW [] c=false from rfl,sI]
theorem zvr (a b:Int):bg a b=Li.held a b:=by
 unfold bg Li.held
 simp only[cD]
 rw[show bW [] b=false from rfl,sI]
 simp only[beq_iff_eq,sZ,or_assoc]
 by_cases h0:b=6\/b=11\/b=10\/b=13\/b=14\/b=15
 ·rw[if_pos h0,if_pos h0]
 rw[if_neg h0,if_neg h0]
 by_cases h1:a=9
 ·rw[if_pos h1,if_pos h1]
 rw[if_neg h1,if_neg h1]
 by_cases h2:a=12
 ·rw[if_pos h2,if_pos h2]
 rw[if_neg h2,if_neg h2]
 by_cases h3:a=11
 ·rw[if_pos h3,if_pos (.inl h3)]
 rw[if_neg h3]
 by_cases h4:a=10
 ·rw[if_pos h4,if_pos (.inr h4)]
 rw[if_neg h4,if_neg (show ¬(a=11\/a=10) by omega)]
theorem zqJ (a b:Int):cT a b=Li.zie a b:=by
 unfold cT Li.zie
 simp only[cD]
 rw[show ∀c,bW [] c=false from fun _=>rfl,sI,sI]
 simp only[tc]
theorem zvS (a b:Int):bM a b=Li.tog a b:=by
 unfold bM Li.tog
 simp only[cD]
 rw[show bW [] b=false from rfl]
 simp only[sI,beq_iff_eq,sZ,tc]
 by_cases h1:a=12
 ·rw[if_pos h1,if_pos h1]
 rw[if_neg h1,if_neg h1]
 by_cases h2:a=0
 ·rw[if_pos h2,if_pos (.inl h2)]
 rw[if_neg h2]
 by_cases h3:a=20
 ·rw[if_pos h3,if_pos (.inr h3)]
 rw[if_neg h3,if_neg (show ¬(a=0\/a=20) by omega)]
 by_cases h4:a=14
 ·rw[if_pos h4,if_pos (.inl h4)]
 rw[if_neg h4]
 by_cases h5:a=10
 ·rw[if_pos h5,if_pos (.inr (.inl h5))]
 rw[if_neg h5]
 by_cases h6:a=21
 ·rw[if_pos h6,if_pos (.inr (.inr h6))]
 rw[if_neg h6,if_neg (show ¬(a=14\/a=10\/a=21) by omega)]
 by_cases h7:a=22
 ·rw[if_pos h7,if_pos h7]
 rw[if_neg h7,if_neg h7]
 by_cases h8:a=16
 ·rw[if_pos h8,if_pos (.inl h8)]
 rw[if_neg h8]
 by_cases h9:a=15
 ·rw[if_pos h9,if_pos (.inr h9)]
 rw[if_neg h9,if_neg (show ¬(a=16\/a=15) by omega)]
def lC (s:List UInt8) (k:Nat):Bool:=Li.lnL ((fl s).take k).reverse ((fl s).drop k)
theorem pd (s:List UInt8) (i k:Nat) (hik:i<k) (h:k<(rl s).length) (hb:i=0\/lC s i=true):iq s (pos s i) (pos s k)=lC s k:=by
 have hk:=Nat.le_of_lt h;have hi:i<=(rl s).length:=by omega
 have eF:aT (s.drop (pos s k))=((fl s).drop k).headD (-1):=by rw[pc,zaW s k hk]
 have eL:aS (s.take (pos s k))=((fl s).take k).reverse.headD (-1):=by rw[jb,ji s k hk]
 have eB:aM (s.take (pos s k))=Li.bL ((fl s).take k).reverse:=by rw[fZ,ji s k hk]
 have eW:(fl (dy [4] (s.take (pos s k)))).reverse=((fl s).take k).reverse.dropWhile Li.gi:=by rw[zaV [4] _ _ (sH _),amg4,ji s k hk]
 have eW1:aS (dy [4] (s.take (pos s k)))=(((fl s).take k).reverse.dropWhile Li.gi).headD (-1):=by rw[jb,eW]
 have eW2:aM (dy [4] (s.take (pos s k)))=Li.bL (((fl s).take k).reverse.dropWhile Li.gi):=by rw[fZ,eW]
 have eN:mF (s.take (pos s k))=Li.m8 ((fl s).take k).reverse:=by rw[zwe,ji s k hk]
 have eX:aT (s.drop (pos s k+(dec (s.drop (pos s k))).2))=((fl s).drop k).tail.headD (-1):=by rw[fF s k h,pc,zaW s (k+1) h,List.tail_drop]
 have eO:cP ((s.take (pos s k)).drop (pos s i)).length ((s.take (pos s k)).drop (pos s i)) false=Li.il ((fl s).take k).reverse false:=by
  have hi2:i<=(rl (s.take (pos s k))).length:=by rw[Wt.zae s k hk,tg];omega
  have hp:=Wt.zlP s i k (by omega) hk
  have hd:=zaW (s.take (pos s k)) i hi2;rw[hp,ji s k hk] at hd;rw[zrE _ _ _ (sH _),hd];have hY:((fl s).take k).reverse=(((fl s).take k).drop i).reverse++((fl s).take i).reverse:=by
   rw[<- sG]
   congr 1
   have:=tb i ((fl s).take k);rw[List.take_take,Nat.min_eq_left (by omega)] at this
   exact this.symm
  have hn:=zgu s;rw[hY];refine(Li.zlX _ _ ((fl s).drop k) ?_ ?_).symm
  ·intro e
   have:=congrArg List.length e;rw[List.length_reverse,sO,tg,List.length_nil] at this;omega
  ·rcases hb with rfl | hb
   ·exact .inl rfl
   ·right
    rw[List.reverse_reverse];have e:((fl s).take k).drop i++(fl s).drop k=(fl s).drop i:=by
     rw[List.drop_take,show(fl s).drop k=((fl s).drop i).drop (k - i) by rw[tk,show i+(k - i)=k by omega],tb]
    rw[e];exact hb
 unfold iq lC Li.lnL eQ Li.jnB;rw[eO,eN,eX,eW1,eW2,eB,eL,eF];obtain⟨a,ha⟩:∃a,a=((fl s).take k).reverse.headD (-1):=⟨_,rfl⟩;obtain⟨b,hb'⟩:∃b,b=((fl s).drop k).headD (-1):=⟨_,rfl⟩;obtain⟨c,hc⟩:∃c,c=Li.bL ((fl s).take k).reverse:=⟨_,rfl⟩;obtain⟨d,hd⟩:∃d,d=Li.bL (((fl s).take k).reverse.dropWhile Li.gi):=⟨_,rfl⟩;obtain⟨e,he⟩:∃e,e=(((fl s).take k).reverse.dropWhile Li.gi).headD (-1):=⟨_,rfl⟩;obtain⟨f,hf⟩:∃f,f=((fl s).drop k).tail.headD (-1):=⟨_,rfl⟩;rw[<- ha,<- hb',<- hc,<- hd,<- he,<- hf];clear ha hb' hc hd he hf eF eL eB eW eW1 eW2 eN eX eO hb
 simp only[zot,zvr,zqJ,zvS,cD,show ∀c,bW [] c=false from fun _=>rfl,sI]
 have e1:(a==2&&b==3)=decide (a=2/\b=3):=by rw[ti];rfl
 have e2:(c==25&&b==25)=decide (c=25/\b=25):=by rw[ti];rfl
 rw[e1,e2]
 generalize Li.m8 _=nm
 generalize Li.il _ _=od
 simp only[decide_eq_true_eq,beq_iff_eq,sZ,Bool.and_eq_true,tc]
 by_cases h1:a=2/\b=3
 ·rw[if_pos h1,if_pos h1]
 rw[if_neg h1,if_neg h1]
 cases Li.qA a with
 | true=>rfl
 | false=>
  cases Li.qA b with
  | true=>simp
  | false=>
   simp only[sV,if_false,false_or]
   by_cases h2:b=4\/b=5
   ·rw[if_pos h2,if_pos h2]
   rw[if_neg h2,if_neg h2]
   by_cases h3:e=5
   ·rw[if_pos h3,if_pos h3]
   rw[if_neg h3,if_neg h3]
   by_cases h4:a=4
   ·rw[if_pos h4,if_pos h4]
   rw[if_neg h4,if_neg h4,Bool.and_assoc]
   congr 3
   cases Li.zie c b with
   | true=>simp
   | false=>
    simp only[sV,if_false,false_or]
    by_cases h5:b=12\/b=17\/b=16\/b=24\/b=19
    ·rw[if_pos h5,if_pos (by rcases h5 with h | h | h | h | h<;>simp[h])]
    rw[if_neg h5]
    cases Li.tog c b with
    | true=>simp
    | false=>
     simp only[sV,if_false,or_false]
     rw[if_neg h5]
end Ln
namespace Ln
open Wt Br
theorem gB (s:List UInt8) (i j:Nat) (h:i<=j):pos s i<=pos s j:=by
 have:=ig s (j - i) i
 by_cases hj:j<=(rl s).length
 ·have h2:=ig s (j - i) i (by omega)
  rw[show i+(j - i)=j by omega] at h2
  omega
 ·rw[dG s j (by omega)]
  by_cases hi:i<=(rl s).length
  ·exact eE s i hi
  ·rw[dG s i (by omega)];exact sH _
def lpF (s:List UInt8):List (Nat × Nat):=Sg.byt s (Sg.pcF (lC s) (rl s).length 0)
def lbd (s:List UInt8):List Nat:=bds 0 (lpF s)
def lbs (s:List UInt8):List Nat:=if s=[] then [] else lbd s
def qg (s:List UInt8) (p:Nat):Nat × Bool:=(p,cy s p)
def cW (l:List UInt8) (k:Nat):Bool:=k==0 || (k==(rl l).length || lC l k)
theorem zhZ (l:List UInt8):lbd l=((sK 0 ((rl l).length+1)).filter (cW l)).map (pos l):=by
 rw[<- List.range_eq_range'];refine(Sg.zih (C:=lC l) (D:=cW l) (by simp[cW]) (by simp[cW]) (fun k h1 h2=>?_) l).symm
 unfold cW;rw[beq_eq_false_iff_ne.2 (show k≠0 by omega),beq_eq_false_iff_ne.2 (show k≠(rl l).length by omega),sW,sW]
def ct (l:List UInt8) (i:Nat):List (Nat × Bool):=((sK 1 i).filter (cW l)).map fun k=>qg l (pos l k)
theorem zxB (l:List UInt8) (i:Nat):ct l (i+1)=ct l i++if cW l (i+1)=true then [qg l (pos l (i+1))] else []:=by
 unfold ct;rw[sP,sN,sQ,Nat.add_comm 1 i]
 congr 1
 by_cases h:cW l (i+1)=true<;>simp[h]
def zgC (l:List UInt8) (i:Nat):Nat:=((sK 0 i).filter (cW l)).length
theorem zvF (l:List UInt8) (i:Nat):zgC l (i+1)=zgC l i+if cW l i=true then 1 else 0:=by
 unfold zgC;rw[sP,sN,List.length_append,td]
 congr 1
 by_cases h:cW l i=true<;>simp[h]
theorem rD (D:Nat->Bool):∀(c i:Nat),(∃j,i<=j/\j<i+c/\D j=true)->∃j,i<=j/\j<i+c/\D j=true/\(D i=true->j=i)/\((sK i c).filter D)[0]? =some j
 | 0,i,h=>by obtain⟨j,h1,h2,_⟩:=h;omega
 | c+1,i,h=>by
  rw[sX,sJ]
  by_cases hD:D i=true
  ·exact⟨i,sH _,by omega,hD,fun _=>rfl,by rw[if_pos hD];rfl⟩
  ·obtain⟨j,h1,h2,h3⟩:=h
   obtain⟨j',a1,a2,a3,_,a5⟩:=rD D c (i+1) ⟨j,by
    by_cases e:j=i
    ·rw[e] at h3;exact absurd h3 hD
    ·omega,by omega,h3⟩
   exact⟨j',by omega,by omega,a3,fun h=>absurd h hD,by rw[if_neg hD];exact a5⟩
theorem zfc (l:List UInt8) (i:Nat) (hi:i<=(rl l).length):∃j,i<=j/\j<=(rl l).length/\cW l j=true/\(cW l i=true->j=i)/\(lbd l)[zgC l i]? =some (pos l j):=by
 obtain⟨j,h1,h2,h3,h4,h5⟩:=rD (cW l) ((rl l).length+1 - i) i ⟨(rl l).length,hi,by omega,by simp[cW]⟩
 refine⟨j,h1,by omega,h3,h4,?_⟩
 rw[zhZ,show(rl l).length+1=i+((rl l).length+1 - i) by omega,<- List.range'_append_1,sN,sQ,List.getElem?_append_right (by rw[sR];exact sH _),sR,td]
 unfold zgC;rw[tm,te,h5]
 rfl
theorem zqm (l:List UInt8) (k:Nat) (x:Nat × Nat) (h:(rl l)[k]? =some x):cy l (pos l (k+1))=(decide (pos l (k+1)=l.length) || Li.qA (bE x.1)):=by
 have hk:=(List.getElem?_eq_some_iff.1 h).1;have hx:(fl l)[k]? =some (bE x.1):=by unfold fl;rw[te,h];rfl
 have e:((fl l).take (k+1)).reverse.headD (-1)=bE x.1:=by rw[List.take_add_one,hx,Option.toList_some,sG,sD,sE,sS]
 unfold cy;rw[zot,jb,ji l (k+1) hk,e]
theorem zbo (l:List UInt8) (i:Nat):(ct l i).length<=i:=by
 unfold ct;rw[sR];have:=List.length_filter_le (cW l) (sK 1 i);rw[List.length_range'] at this;exact this
end Ln
namespace Ln
open Wt
def nxC (z:Int) (P:List (Nat × Bool)):Option (Nat × Bool):=P.find? fun x=>decide (z<(x.1:Int))
def pvC (z:Int) (P:List (Nat × Bool)):Option (Nat × Bool):=P.reverse.find? fun x=>decide ((x.1:Int)<z)
def atC (z:Int) (P:List (Nat × Bool)):Option (Nat × Bool):=P.find? fun x=>decide ((x.1:Int)=z)
def kdC (o:Option (Nat × Bool)):Int:=match o with
 | none=>0
 | some x=>if x.2=true then 2 else 1
theorem zaY {D:Nat->Bool} {f:Nat->Nat × Bool} {q:Nat × Bool->Bool}:∀(c a:Nat),(∀m,a<=m->m<a+c->D m=true->q (f m)=false)->(((sK a c).filter D).map f).find? q=none
 | 0,a,_=>rfl
 | c+1,a,h=>by
  rw[sX,sJ];have ih:=zaY (D:=D) (f:=f) (q:=q) c (a+1) (fun m h1 h2=>h m (by omega) (by omega))
  by_cases hD:D a=true
  ·rw[if_pos hD,sL,sM,h a (sH _) (by omega) hD];exact ih
  ·rw[if_neg hD];exact ih
theorem zaZ {D:Nat->Bool} {f:Nat->Nat × Bool} {q:Nat × Bool->Bool}:∀(c a k:Nat),a<=k->k<a+c->D k=true->q (f k)=true->(∀m,a<=m->m<k->D m=true->q (f m)=false)->(((sK a c).filter D).map f).find? q=some (f k)
 | 0,a,k,h1,h2,_,_,_=>by omega
 | c+1,a,k,h1,h2,hD,hq,h=>by
  rw[sX,sJ]
  by_cases e:k=a
  ·subst e
   rw[if_pos hD,sL,sM,hq]
  ·have ih:=zaZ (D:=D) (f:=f) (q:=q) c (a+1) k (by omega) (by omega) hD hq (fun m h1 h2=>h m (by omega) h2)
   by_cases hDa:D a=true
   ·rw[if_pos hDa,sL,sM,h a (sH _) (by omega) hDa];exact ih
   ·rw[if_neg hDa];exact ih
theorem zct {D:Nat->Bool} {f:Nat->Nat × Bool} {q:Nat × Bool->Bool} (c a:Nat) (h:∀m,a<=m->m<a+c->D m=true->q (f m)=false):(((sK a c).filter D).map f).reverse.find? q=none:=by
 rw[List.find?_eq_none];intro x hx;rw[List.mem_reverse,List.mem_map] at hx;obtain⟨m,hm,rfl⟩:=hx;rw[List.mem_filter,List.mem_range'_1] at hm;rw[h m hm.1.1 hm.1.2 hm.2]
 simp
theorem oH {D:Nat->Bool} {f:Nat->Nat × Bool} {q:Nat × Bool->Bool} (a k:Nat) (h1:a<=k) (hD:D k=true) (hq:q (f k)=true):∀c,k<a+c->(∀m,k<m->m<a+c->D m=true->q (f m)=false)->(((sK a c).filter D).map f).reverse.find? q=some (f k)
 | 0,h2,_=>by omega
 | c+1,h2,h=>by
  rw[sP,sN,sQ,sG]
  by_cases e:k=a+c
  ·subst e
   rw[sJ,if_pos hD,ta,sL,tf,sD,sE,sM,hq]
  ·have ih:=oH (D:=D) (f:=f) (q:=q) a k h1 hD hq c (by omega) (fun m h1 h2=>h m h1 (by omega))
   by_cases hDa:D (a+c)=true
   ·rw[sJ,if_pos hDa,ta,sL,tf,sD,sE,sM,h (a+c) (by omega) (by omega) hDa];exact ih
   ·rw[sJ,if_neg hDa,ta,tf,List.reverse_nil,List.nil_append];exact ih
theorem eR {l:List UInt8} {k:Nat} (h0:0<k) (h:k<(rl l).length):cW l k=lC l k:=by
 unfold cW;rw[beq_eq_false_iff_ne.2 (show k≠0 by omega),beq_eq_false_iff_ne.2 (show k≠(rl l).length by omega),sW,sW]
theorem lw (l:List UInt8):cW l (rl l).length=true:=by simp[cW]
theorem zsQ (l:List UInt8) (z:Int) (h:(l.length:Int)<=z):nxC z (ct l (rl l).length)=none:=
 zaY _ _ fun m h1 h2 _=>by
  have:=eE l m (by omega)
  exact decide_eq_false (by show ¬z<((pos l m:Nat):Int);omega)
theorem zsR (l:List UInt8) (z:Int) (i:Nat) (hi:i<(rl l).length) (h1:z<((pos l (i+1):Nat):Int)) (h2:((pos l i:Nat):Int)<=max z 0):nxC z (ct l (rl l).length)=some (qg l (pos l (Sg.nx (lC l) (rl l).length i))):=by
 have g1:=Sg.zcM (lC l) (rl l).length i;have g2:=Sg.zcL (C:=lC l) hi;refine zaZ _ _ _ (by omega) (by omega) ?_ ?_ ?_
 ·rcases Sg.zfI (C:=lC l) hi with h | h
  ·rw[h];exact lw l
  ·rcases sY (Sg.nx (lC l) (rl l).length i) (rl l).length with h3 | h3
   ·rw[eR (by omega) h3];exact h
   ·rw[show Sg.nx (lC l) (rl l).length i=(rl l).length by omega];exact lw l
 ·have:=gB l (i+1) (Sg.nx (lC l) (rl l).length i) g1
  exact decide_eq_true (by show z<((pos l (Sg.nx (lC l) (rl l).length i):Nat):Int);omega)
 ·intro m m1 m2 m3
  refine decide_eq_false ?_
  show ¬z<((pos l m:Nat):Int)
  rcases sY i m with h3 | h3
  ·rw[eR (by omega) (by omega),Sg.zlZ h3 m2] at m3
   cases m3
  ·have p1:=gB l m i h3
   have p2:=Sg.gC l (show 0<m by omega) (by omega)
   rw[ij] at p2;omega
theorem zlO (l:List UInt8) (z:Int) (hn:l≠ []) (h:(l.length:Int)<z):pvC z (ct l (rl l).length)=some (l.length,true):=by
 have hp:0<(rl l).length:=List.length_pos_iff.2 fun e=>by rw[bX l hn] at e;cases e
 have hpa:=dG l (rl l).length (sH _);have h1:=oH (D:=cW l) (f:=fun k=>qg l (pos l k)) (q:=fun x=>decide ((x.1:Int)<z)) 1 (rl l).length hp (lw l) (decide_eq_true (by show((pos l (rl l).length:Nat):Int)<z;omega)) (rl l).length (by omega) (fun m h1 h2=>by omega)
 rw[show pvC z (ct l (rl l).length)=_ from h1]
 unfold qg cy;rw[hpa,decide_eq_true rfl,Bool.true_or]
theorem zqe (l:List UInt8) (z:Int) (h:z<=0):pvC z (ct l (rl l).length)=none:=
 zct _ _ fun m h1 h2 _=>decide_eq_false (by show ¬((pos l m:Nat):Int)<z;omega)
theorem zsE (l:List UInt8) (z:Int) (i:Nat) (hi:i<(rl l).length) (h1:((pos l i:Nat):Int)<z) (h2:z<=((pos l (i+1):Nat):Int)):pvC z (ct l (rl l).length)=if Sg.dn (lC l) i=0 then none else some (qg l (pos l (Sg.dn (lC l) i))):=by
 have g1:=Sg.zeR (lC l) i;have hi1:∀m,i<m->¬((pos l m:Nat):Int)<z:=fun m hm=>by
  have:=gB l (i+1) m hm;omega
 split
 ·rename_i h0
  refine zct _ _ fun m m1 m2 m3=>decide_eq_false ?_
  show ¬((pos l m:Nat):Int)<z
  rcases sY i m with h3 | h3
  ·exact hi1 m h3
  ·rw[eR (by omega) (by omega),Sg.ziu (lC l) i m (by omega) h3] at m3
   cases m3
 ·rename_i h0
  refine oH 1 _ (by omega) ?_ ?_ _ (by omega) ?_
  ·rw[eR (by omega) (by omega)];exact Sg.zgB (lC l) i (by omega)
  ·have:=gB l (Sg.dn (lC l) i) i g1
   exact decide_eq_true (by show((pos l (Sg.dn (lC l) i):Nat):Int)<z;omega)
  ·intro m m1 m2 m3
   refine decide_eq_false ?_
   show ¬((pos l m:Nat):Int)<z
   rcases sY i m with h3 | h3
   ·exact hi1 m h3
   ·rw[eR (by omega) (by omega),Sg.ziu (lC l) i m m1 h3] at m3
    cases m3
theorem zbr (l:List UInt8) (z:Int) (h:∀k,0<k->k<=(rl l).length->cW l k=true->((pos l k:Nat):Int)≠z):atC z (ct l (rl l).length)=none:=
 zaY _ _ fun m h1 h2 h3=>decide_eq_false (h m (by omega) (by omega) h3)
theorem zoS (l:List UInt8) (k:Nat) (h0:0<k) (hk:k<=(rl l).length) (hb:cW l k=true):atC ((pos l k:Nat):Int) (ct l (rl l).length)=some (qg l (pos l k)):=
 zaZ _ _ k (by omega) (by omega) hb (decide_eq_true rfl) fun m m1 m2 _=>decide_eq_false (by
  have:=Sg.gC l m2 hk
  show ¬((pos l m:Nat):Int)=((pos l k:Nat):Int)
  omega)
theorem zcH (s:List UInt8) (f i:Nat) (hfi:f<=i) (hb:f=0\/lC s f=true):∀(d j:Nat),(rl s).length - j<=d->i<j->j<=(rl s).length->qk s (pos s f) (pos s i) (pos s j - pos s i)=pos s (Sg.up (lC s) ((rl s).length - j) j)
 | d,j,hd,hij,hj=>by
  have hm:=Sg.gC s hij hj;have hpp:pos s i+(pos s j - pos s i)=pos s j:=by omega
  by_cases hlt:j<(rl s).length
  ·cases d with
   | zero=>omega
   | succ d=>
    have hl:=iV s j hlt;have hin:pos s j - pos s i<(s.drop (pos s i)).length:=by rw[sO];omega
    obtain⟨f',hf⟩:∃f',(rl s).length - j=f'+1:=⟨(rl s).length - (j+1),by omega⟩
    rw[hf];unfold Sg.up;have hcd:=pd s f j (by omega) hlt hb
    cases hc:lC s j with
    | true=>rw[if_pos rfl,qZ s _ _ _ hin (by omega) (by rw[hpp,hcd];exact hc),hpp]
    | false=>
     have hs:=fF s j hlt;have hs2:=j8 s j hlt;rw[if_neg (by simp),iY s _ _ _ hin (fun h=>by rw[hpp,hcd,hc] at h;cases h.2),tk,hpp,show pos s j - pos s i+(dec (s.drop (pos s j))).2=pos s (j+1) - pos s i by omega,zcH s f i hfi hb d (j+1) (by omega) (by omega) hlt,show(rl s).length - (j+1)=f' by omega]
  ·obtain rfl:j=(rl s).length:=by omega
   rw[tm];unfold Sg.up;rw[dG s _ (sH _)] at *;rw[zcI s _ _ _ (by rw[sO];omega)]
theorem zqg (s:List UInt8) (i:Nat) (hi:i<(rl s).length):onw s 0 (pos s i)=pos s (Sg.nx (lC s) (rl s).length i):=by
 have hl:=iV s i hi;have hs:=fF s i hi;have hs2:=j8 s i hi;have h1:=zcH s 0 i (Nat.zero_le _) (.inl rfl) _ (i+1) (sH _) (by omega) hi
 rw[ij] at h1;unfold onw;rw[iY s _ _ 0 (by rw[sO];omega) (fun h=>by omega),List.drop_zero,td,show(dec (s.drop (pos s i))).2=pos s (i+1) - pos s i by omega,h1]
 unfold Sg.nx;rw[show(rl s).length - (i+1)=(rl s).length - i - 1 by omega]
end Ln
end Go.Proofs.YtbbapnpdfcgjnaaGreatDoor
