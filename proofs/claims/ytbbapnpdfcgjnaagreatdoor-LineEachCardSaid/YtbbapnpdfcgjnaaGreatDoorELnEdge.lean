/- LnEdge, LnChs: parts of the proof, joined. -/
import Derived.Test.YtbbapnpdfcgjnaaGreatDoorELiMath
import Derived.Test.YtbbapnpdfcgjnaaGreatDoorELnEach
import Derived.Test.YtbbapnpdfcgjnaaGreatDoorESgMath
open Nat renaming le_refl->sR, zero_add->tn, sub_self->tD
open List renaming reverse_append->sS, reverse_singleton->sT, singleton_append->sU, length_drop->sW, length_map->sX, headD_cons->sY, dropWhile_cons_of_pos->sZ, dropWhile_cons_of_neg->ta, filter_append->td, range'->te, map_append->tf, take_append_drop->ti, range'_1_concat->tj, map_map->tp, getElem?_map->tq, length_take->tr, range'_succ->tt, filter_cons->tu, tail_cons->tz, drop_drop->tA, map_cons->tB
open Bool renaming or_false->sV, false_eq_true->tc, or_eq_true->tg, or_assoc->tk, decide_and->tw, false_or->tC
set_option maxHeartbeats 64000000
namespace Go.Proofs.YtbbapnpdfcgjnaaGreatDoor
namespace Ln
open Wt
def fl(l:List UInt8):List Int:=(rl l).map fun x=>bJ x.1
theorem zil(l:List UInt8)(h:l≠ []):fl l=aW l::fl (l.drop (dec l).2):=by unfold fl aW;rw[if_neg h,cK l h,tB]
theorem oq(l:List UInt8)(h:l≠ []):fl l=fl (qB l)++[aU l]:=by unfold fl aU;rw[if_neg h,zqj l h,tf,List.map_singleton]
theorem zgv(l:List UInt8):(fl l).length=(rl l).length:=sX _
theorem jo(s:List UInt8)(k:Nat)(h:k<=(rl s).length):fl (s.take (pos s k))=(fl s).take k:=by
 unfold fl;rw[Wt.zak s k h,List.map_take]
theorem zbc(s:List UInt8)(k:Nat)(h:k<=(rl s).length):fl (s.drop (pos s k))=(fl s).drop k:=by
 unfold fl;rw[Wt.zhw s k h,List.map_drop]
theorem je(l:List UInt8):aU l=(fl l).reverse.headD (-1):=by
 by_cases h:l=[]
 ·subst h;rfl
 ·rw[oq l h,sS,sT,sU,sY]
theorem pD(l:List UInt8):aW l=(fl l).headD (-1):=by
 by_cases h:l=[]
 ·subst h;rfl
 ·rw[zil l h,sY]
theorem zvJ(l:List UInt8):(fl (qB l)).reverse=(fl l).reverse.tail:=by
 by_cases h:l=[]
 ·subst h;rfl
 ·rw[oq l h,sS,sT,sU,tz]
theorem zbb(K:List Int):∀(n:Nat)(l:List UInt8),l.length<=n->(fl (dA K l)).reverse=(fl l).reverse.dropWhile (cd K)
 |n,l,hn=>by
  by_cases h:l=[]
  ·subst h;rfl
  ·have hl:=mj l h
   cases hk:cd K (aU l)with
   |true=>
    cases n with
    |zero=>omega
    |succ n=>
     rw[oH K l h hk,zbb K n (qB l) (by omega),oq l h,sS,sT,sU,sZ hk]
   |false=>
    rw[sI K l hk,oq l h,sS,sT,sU,ta (by rw[hk];simp)]
theorem zxS:cd [8]=Li.cz:=by funext c;unfold Li.cz;rw[cI];simp[cd]
theorem amg4:cd [4]=Li.gv:=by funext c;unfold Li.gv;rw[cI];simp[cd]
theorem gh(l:List UInt8):aO l=Li.bR (fl l).reverse:=by
 unfold aO Li.bR;rw[je,zbb [8] _ l (sR _),zxS]
theorem zgu(K:List Int)(l:List UInt8):(fl (dt K l)).reverse=if cd K (Li.bR (fl l).reverse)=true then ((fl l).reverse.dropWhile Li.cz).tail else (fl l).reverse:=by
 unfold dt;rw[<- gh]
 show(fl (if cd K (aO l)=true then _ else _)).reverse=_
 split
 ·rw[zvJ,zbb [8] _ l (sR _),zxS]
 ·rfl
theorem zws(l:List UInt8):mS l=Li.nF (fl l).reverse:=by
 unfold mS Li.nF;rw[gh,zgu,zgu];have e1:∀c,cd [11,10] c=(c==10||c==11):=fun c=>by simp only[cI];rw[show cd [] c=false from rfl,sV,Bool.or_comm]
 have e2:∀c,cd [14,15] c=(c==14||c==15):=fun c=>by simp only[cI];rw[show cd [] c=false from rfl,sV]
 have p1:∀A:List Int,(Li.bR (if cd [14,15] (Li.bR A)=true then (A.dropWhile Li.cz).tail else A)==20)=Li.p1L A:=fun A=>by
  unfold Li.p1L;rw[e2]
  split<;>rfl
 rw[p1,e1]
 split<;>rfl
theorem zma:∀(A:List Int)(o:Bool),Li.ip A o=Li.ip (A.dropWhile Li.cz) o
 |[],o=>rfl
 |z::A,o=>by
  cases hz:Li.cz z with
  |true=>
   rw[sZ hz,Li.pj,hz,if_pos rfl,if_neg (by unfold Li.cz at hz;have:=beq_iff_eq.1 hz;subst this;decide)]
   exact zma A o
  |false=>rw[ta (by rw[hz];simp)]
theorem ztd(A:List Int)(o:Bool):Li.ip A o=if Li.bR A=25 then Li.ip (A.dropWhile Li.cz).tail (!o)else o:=by
 rw[zma];unfold Li.bR
 cases hA:A.dropWhile Li.cz with
 |nil=>rfl
 |cons z Y=>
  have hz:Li.cz z=false:=by
   have h:=List.head?_dropWhile_not Li.cz A;rw[hA]at h
   simpa using h
  rw[sY,tz,Li.pj,hz]
  by_cases h:z=25
  ·subst h;rfl
  ·rw[if_neg h,if_neg (by simpa using h),if_neg (by simp)]
theorem zrR:∀(n:Nat)(l:List UInt8)(o:Bool),l.length<=n->cV l.length l o=Li.ip (fl l).reverse o
 |n,l,o,hn=>by
  rw[ztd,<- gh]
  by_cases h:aO l=25
  ·have hk:cd [25] (aO l)=true:=by rw[h];decide
   have hlt:=kY [25] l (by decide) hk
   rw[rH l o h,if_pos h]
   cases n with
   |zero=>omega
   |succ n=>
    rw[zrR n (dt [25] l) (!o) (by omega),zgu,<- gh,if_pos hk]
  ·rw[zcU l o h,if_neg h]
theorem zox(c:Int):du c=Li.qN c:=by
 unfold du Li.qN
 simp only[cI]
 rw[show cd [] c=false from rfl,sV]
theorem zvF(a b:Int):bj a b=Li.held a b:=by
 unfold bj Li.held
 simp only[cI]
 rw[show cd [] b=false from rfl,sV]
 simp only[beq_iff_eq,tg,or_assoc]
 by_cases h0:b=6\/b=11\/b=10\/b=13\/b=14\/b=15
 ·rw[if_pos h0,if_pos h0]
 rw[if_neg h0,if_neg h0]
 by_cases h1:a=9
 ·rw[if_pos h1,if_pos h1]
 rw[if_neg h1,if_neg h1]
 by_cases h2:a=12
 ·rw[if_pos h2,if_pos h2]
 rw[if_neg h2,if_neg h2]
 by_cases h3:a=11
 ·rw[if_pos h3,if_pos (.inl h3)]
 rw[if_neg h3]
 by_cases h4:a=10
 ·rw[if_pos h4,if_pos (.inr h4)]
 rw[if_neg h4,if_neg (show ¬(a=11\/a=10) by omega)]
theorem zqU(a b:Int):cY a b=Li.zig a b:=by
 unfold cY Li.zig
 simp only[cI]
 rw[show ∀c,cd [] c=false from fun _=>rfl,sV,sV]
 simp only[tk]
theorem zwg(a b:Int):bS a b=Li.tog a b:=by
 unfold bS Li.tog
 simp only[cI]
 rw[show cd [] b=false from rfl]
 simp only[sV,beq_iff_eq,tg,tk]
 by_cases h1:a=12
 ·rw[if_pos h1,if_pos h1]
 rw[if_neg h1,if_neg h1]
 by_cases h2:a=0
 ·rw[if_pos h2,if_pos (.inl h2)]
 rw[if_neg h2]
 by_cases h3:a=20
 ·rw[if_pos h3,if_pos (.inr h3)]
 rw[if_neg h3,if_neg (show ¬(a=0\/a=20) by omega)]
 by_cases h4:a=14
 ·rw[if_pos h4,if_pos (.inl h4)]
 rw[if_neg h4]
 by_cases h5:a=10
 ·rw[if_pos h5,if_pos (.inr (.inl h5))]
 rw[if_neg h5]
 by_cases h6:a=21
 ·rw[if_pos h6,if_pos (.inr (.inr h6))]
 rw[if_neg h6,if_neg (show ¬(a=14\/a=10\/a=21) by omega)]
 by_cases h7:a=22
 ·rw[if_pos h7,if_pos h7]
 rw[if_neg h7,if_neg h7]
 by_cases h8:a=16
 ·rw[if_pos h8,if_pos (.inl h8)]
 rw[if_neg h8]
 by_cases h9:a=15
 ·rw[if_pos h9,if_pos (.inr h9)]
 rw[if_neg h9,if_neg (show ¬(a=16\/a=15) by omega)]
def lC(s:List UInt8)(k:Nat):Bool:=Li.lnL ((fl s).take k).reverse ((fl s).drop k)
theorem zmq(s:List UInt8)(i k:Nat)(hik:i<k)(h:k<(rl s).length)(hb:i=0\/lC s i=true):gS s (pos s i) (pos s k)=lC s k:=by
 have hk:=Nat.le_of_lt h;have hi:i<=(rl s).length:=by omega
 have eF:aW (s.drop (pos s k))=((fl s).drop k).headD (-1):=by rw[pD,zbc s k hk]
 have eL:aU (s.take (pos s k))=((fl s).take k).reverse.headD (-1):=by rw[je,jo s k hk]
 have eB:aO (s.take (pos s k))=Li.bR ((fl s).take k).reverse:=by rw[gh,jo s k hk]
 have eW:(fl (dA [4] (s.take (pos s k)))).reverse=((fl s).take k).reverse.dropWhile Li.gv:=by rw[zbb [4] _ _ (sR _),amg4,jo s k hk]
 have eW1:aU (dA [4] (s.take (pos s k)))=(((fl s).take k).reverse.dropWhile Li.gv).headD (-1):=by rw[je,eW]
 have eW2:aO (dA [4] (s.take (pos s k)))=Li.bR (((fl s).take k).reverse.dropWhile Li.gv):=by rw[gh,eW]
 have eN:mS (s.take (pos s k))=Li.nF ((fl s).take k).reverse:=by rw[zws,jo s k hk]
 have eX:aW (s.drop (pos s k+(dec (s.drop (pos s k))).2))=((fl s).drop k).tail.headD (-1):=by rw[o9 s k h,pD,zbc s (k+1) h,List.tail_drop]
 have eO:cV ((s.take (pos s k)).drop (pos s i)).length ((s.take (pos s k)).drop (pos s i)) false=Li.ip ((fl s).take k).reverse false:=by
  have hi2:i<=(rl (s.take (pos s k))).length:=by rw[Wt.zak s k hk,tr];omega
  have hp:=Wt.zlQ s i k (by omega) hk
  have hd:=zbc (s.take (pos s k)) i hi2;rw[hp,jo s k hk]at hd;rw[zrR _ _ _ (sR _),hd];have hY:((fl s).take k).reverse=(((fl s).take k).drop i).reverse++((fl s).take i).reverse:=by
   rw[<- sS]
   congr 1
   have:=ti i ((fl s).take k);rw[List.take_take,Nat.min_eq_left (by omega)]at this
   exact this.symm
  have hn:=zgv s;rw[hY];refine(Li.zlZ _ _ ((fl s).drop k) ?_ ?_).symm
  ·intro e
   have:=congrArg List.length e;rw[List.length_reverse,sW,tr,List.length_nil]at this;omega
  ·rcases hb with rfl|hb
   ·exact .inl rfl
   ·right
    rw[List.reverse_reverse];have e:((fl s).take k).drop i++(fl s).drop k=(fl s).drop i:=by
     rw[List.drop_take,show(fl s).drop k=((fl s).drop i).drop (k-i) by rw[tA,show i+(k-i)=k by omega],ti]
    rw[e];exact hb
 unfold gS lC Li.lnL eV Li.jnB;rw[eO,eN,eX,eW1,eW2,eB,eL,eF];obtain⟨a,ha⟩:=am (((fl s).take k).reverse.headD (-1));obtain⟨b,hb'⟩:=am (((fl s).drop k).headD (-1));obtain⟨c,hc⟩:=am (Li.bR ((fl s).take k).reverse);obtain⟨d,hd⟩:=am (Li.bR (((fl s).take k).reverse.dropWhile Li.gv));obtain⟨e,he⟩:=am ((((fl s).take k).reverse.dropWhile Li.gv).headD (-1));obtain⟨f,hf⟩:=am (((fl s).drop k).tail.headD (-1));rw[<- ha,<- hb',<- hc,<- hd,<- he,<- hf];clear ha hb' hc hd he hf eF eL eB eW eW1 eW2 eN eX eO hb
 simp only[zox,zvF,zqU,zwg,cI,show ∀c,cd [] c=false from fun _=>rfl,sV]
 have e1:(a==2&&b==3)=decide (a=2/\b=3):=by rw[tw];rfl
 have e2:(c==25&&b==25)=decide (c=25/\b=25):=by rw[tw];rfl
 rw[e1,e2]
 generalize Li.nF _=nm
 generalize Li.ip _ _=od
 simp only[decide_eq_true_eq,beq_iff_eq,tg,Bool.and_eq_true,tk]
 by_cases h1:a=2/\b=3
 ·rw[if_pos h1,if_pos h1]
 rw[if_neg h1,if_neg h1]
 cases Li.qN a with
 |true=>rfl
 |false=>
  cases Li.qN b with
  |true=>simp
  |false=>
   simp only[tc,if_false,false_or]
   by_cases h2:b=4\/b=5
   ·rw[if_pos h2,if_pos h2]
   rw[if_neg h2,if_neg h2]
   by_cases h3:e=5
   ·rw[if_pos h3,if_pos h3]
   rw[if_neg h3,if_neg h3]
   by_cases h4:a=4
   ·rw[if_pos h4,if_pos h4]
   rw[if_neg h4,if_neg h4,Bool.and_assoc]
   congr 3
   cases Li.zig c b with
   |true=>simp
   |false=>
    simp only[tc,if_false,false_or]
    by_cases h5:b=12\/b=17\/b=16\/b=24\/b=19
    ·rw[if_pos h5,if_pos (by rcases h5 with h|h|h|h|h<;>simp[h])]
    rw[if_neg h5]
    cases Li.tog c b with
    |true=>simp
    |false=>
     simp only[tc,if_false,or_false]
     rw[if_neg h5]
end Ln
namespace Ln
open Wt Br
theorem zqr(s:List UInt8)(i j:Nat)(h:i<=j):pos s i<=pos s j:=by
 have:=im s (j-i) i
 by_cases hj:j<=(rl s).length
 ·have h2:=im s (j-i) i (by omega)
  rw[show i+(j-i)=j by omega]at h2
  omega
 ·rw[gG s j (by omega)]
  by_cases hi:i<=(rl s).length
  ·exact zlR s i hi
  ·rw[gG s i (by omega)];exact sR _
theorem zhE(s:List UInt8)(i:Nat)(hb:i=0\/lC s i=true):∀(d j:Nat),(rl s).length-j<=d->i<j->j<=(rl s).length->nE s (pos s i) (pos s i) (pos s j-pos s i)=pos s (Sg.up (lC s) ((rl s).length-j) j)
 |d,j,hd,hij,hj=>by
  have hm:=Sg.zhA s hij hj;have hpp:pos s i+(pos s j-pos s i)=pos s j:=by omega
  by_cases hlt:j<(rl s).length
  ·cases d with
   |zero=>omega
   |succ d=>
    have hl:=nR s j hlt;have hin:pos s j-pos s i<(s.drop (pos s i)).length:=by rw[sW];omega
    obtain⟨f,hf⟩:∃f,(rl s).length-j=f+1:=⟨(rl s).length-(j+1),by omega⟩
    rw[hf];unfold Sg.up;have hcd:=zmq s i j hij hlt hb
    cases hc:lC s j with
    |true=>rw[if_pos rfl,mb s _ _ _ hin (by omega) (by rw[hpp,hcd];exact hc),hpp]
    |false=>
     have hs:=o9 s j hlt;have hs2:=pa s j hlt;rw[if_neg (by simp),ey s _ _ _ hin (fun h=>by rw[hpp,hcd,hc]at h;cases h.2),tA,hpp,show pos s j-pos s i+(dec (s.drop (pos s j))).2=pos s (j+1)-pos s i by omega,zhE s i hb d (j+1) (by omega) (by omega) hlt,show(rl s).length-(j+1)=f by omega]
  ·obtain rfl:j=(rl s).length:=by omega
   rw[tD];unfold Sg.up;rw[gG s _ (sR _)]at*;rw[kU s _ _ _ (by rw[sW];omega)]
theorem zta(s:List UInt8)(i:Nat)(hi:i<(rl s).length)(hb:i=0\/lC s i=true):onw s (pos s i) (pos s i)=pos s (Sg.nx (lC s) (rl s).length i):=by
 have hl:=nR s i hi;have hs:=o9 s i hi;have hs2:=pa s i hi;have h1:=zhE s i hb _ (i+1) (sR _) (by omega) hi
 unfold onw;rw[ey s _ _ 0 (by rw[sW];omega) (fun h=>by omega),List.drop_zero,tn,show(dec (s.drop (pos s i))).2=pos s (i+1)-pos s i by omega,h1]
 unfold Sg.nx;rw[show(rl s).length-(i+1)=(rl s).length-i-1 by omega]
def lpF(s:List UInt8):List (Nat×Nat):=Sg.byt s (Sg.pcF (lC s) (rl s).length 0)
def lbd(s:List UInt8):List Nat:=bds 0 (lpF s)
def lbs(s:List UInt8):List Nat:=if s=[]then []else lbd s
def chO(s:List UInt8)(p:Nat):Nat×Bool:=(p,eU s p)
def qR(x:Nat×Bool):Int×Bool:=((x.1:Int),x.2)
theorem zoO(s:List UInt8):∀(d i:Nat),(rl s).length-i<=d->i<=(rl s).length->(i=0\/lC s i=true)->oz s (pos s i)=(Sg.byt s (Sg.pcF (lC s) (rl s).length i)).map fun x=>qR (chO s x.2)
 |d,i,hd,hi,hb=>by
  by_cases h:i<(rl s).length
  ·cases d with
   |zero=>omega
   |succ d=>
    have h1:=Sg.zcK (lC s) (rl s).length i;have h2:=Sg.zhJ (C:=lC s) h;rw[zeX s (pos s i) (nR s i h),zta s i h hb,Sg.pb h]
    show _=qR (chO s (pos s (Sg.nx (lC s) (rl s).length i)))::(Sg.byt s (Sg.pcF (lC s) (rl s).length (Sg.nx (lC s) (rl s).length i))).map (fun x=>qR (chO s x.2))
    rcases Sg.zfI (C:=lC s) h with h5|h5
    ·rw[h5,Sg.kQ (sR _),zbr s _ (by rw[gG s _ (sR _)];omega)]
     rfl
    ·rw[zoO s d _ (by omega) h2 (.inr h5)]
     rfl
  ·obtain rfl:i=(rl s).length:=by omega
   rw[Sg.kQ (sR _),zbr s _ (by rw[gG s _ (sR _)];omega)]
   rfl
def d7(l:List UInt8)(k:Nat):Bool:=k==0||(k==(rl l).length||lC l k)
theorem zaS(l:List UInt8):lbd l=((te 0 ((rl l).length+1)).filter (d7 l)).map (pos l):=by
 rw[<- List.range_eq_range'];refine(Sg.zij (C:=lC l) (D:=d7 l) (by simp[d7]) (by simp[d7]) (fun k h1 h2=>?_) l).symm
 unfold d7;rw[beq_eq_false_iff_ne.2 (show k≠0 by omega),beq_eq_false_iff_ne.2 (show k≠(rl l).length by omega),tC,tC]
def d9(l:List UInt8)(i:Nat):List (Nat×Bool):=((te 1 i).filter (d7 l)).map fun k=>chO l (pos l k)
theorem zxQ(l:List UInt8)(i:Nat):d9 l (i+1)=d9 l i++if d7 l (i+1)=true then [chO l (pos l (i+1))]else []:=by
 unfold d9;rw[tj,td,tf,Nat.add_comm 1 i]
 congr 1
 by_cases h:d7 l (i+1)=true<;>simp[h]
theorem zrt(l:List UInt8):oz l 0=(d9 l (rl l).length).map qR:=by
 have h:=zoO l _ 0 (sR _) (Nat.zero_le _) (.inl rfl);rw[zrQ]at h;rw[h];have h2:lbd l=0::(lpF l).map Prod.snd:=rfl;have h3:=zaS l;rw[h2,tt,tu,if_pos (by simp[d7]),tB]at h3
 have h4:=(List.cons.inj h3).2;unfold d9;rw[tp]
 show(lpF l).map _=_
 rw[show(fun x:Nat×Nat=>qR (chO l x.2))=(fun p=>qR (chO l p)) ∘ Prod.snd from rfl,<- tp,h4,tp]
 rfl
def zgD(l:List UInt8)(i:Nat):Nat:=((te 0 i).filter (d7 l)).length
theorem zvU(l:List UInt8)(i:Nat):zgD l (i+1)=zgD l i+if d7 l i=true then 1 else 0:=by
 unfold zgD;rw[tj,td,List.length_append,tn]
 congr 1
 by_cases h:d7 l i=true<;>simp[h]
theorem sf(D:Nat->Bool):∀(c i:Nat),(∃j,i<=j/\j<i+c/\D j=true)->∃j,i<=j/\j<i+c/\D j=true/\(D i=true->j=i)/\((te i c).filter D)[0]?=some j
 |0,i,h=>by obtain⟨j,h1,h2,_⟩:=h;omega
 |c+1,i,h=>by
  rw[tt,tu]
  by_cases hD:D i=true
  ·exact⟨i,sR _,by omega,hD,fun _=>rfl,by rw[if_pos hD];rfl⟩
  ·obtain⟨j,h1,h2,h3⟩:=h
   obtain⟨j',a1,a2,a3,_,a5⟩:=sf D c (i+1) ⟨j,by
    by_cases e:j=i
    ·rw[e]at h3;exact absurd h3 hD
    ·omega,by omega,h3⟩
   exact⟨j',by omega,by omega,a3,fun h=>absurd h hD,by rw[if_neg hD];exact a5⟩
theorem zfa(l:List UInt8)(i:Nat)(hi:i<=(rl l).length):∃j,i<=j/\j<=(rl l).length/\d7 l j=true/\(d7 l i=true->j=i)/\(lbd l)[zgD l i]?=some (pos l j):=by
 obtain⟨j,h1,h2,h3,h4,h5⟩:=sf (d7 l) ((rl l).length+1-i) i ⟨(rl l).length,hi,by omega,by simp[d7]⟩
 refine⟨j,h1,by omega,h3,h4,?_⟩
 rw[zaS,show(rl l).length+1=i+((rl l).length+1-i) by omega,<- List.range'_append_1,td,tf,List.getElem?_append_right (by rw[sX];exact sR _),sX,tn]
 unfold zgD;rw[tD,tq,h5]
 rfl
theorem zqx(l:List UInt8)(k:Nat)(x:Nat×Nat)(h:(rl l)[k]?=some x):eU l (pos l (k+1))=(decide (pos l (k+1)=l.length)||Li.qN (bJ x.1)):=by
 have hk:=(List.getElem?_eq_some_iff.1 h).1;have hx:(fl l)[k]?=some (bJ x.1):=by unfold fl;rw[tq,h];rfl
 have e:((fl l).take (k+1)).reverse.headD (-1)=bJ x.1:=by rw[List.take_add_one,hx,Option.toList_some,sS,sT,sU,sY]
 unfold eU;rw[zox,je,jo l (k+1) hk,e]
theorem ziH(l:List UInt8)(i:Nat):(d9 l i).length<=i:=by
 unfold d9;rw[sX];have:=List.length_filter_le (d7 l) (te 1 i);rw[List.length_range']at this;exact this
end Ln
end Go.Proofs.YtbbapnpdfcgjnaaGreatDoor
