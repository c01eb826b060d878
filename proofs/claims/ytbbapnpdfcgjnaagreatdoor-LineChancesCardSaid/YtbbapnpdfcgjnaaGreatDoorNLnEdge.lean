/- LnEdge, LnChs: parts of the proof, joined. -/
import Derived.Test.YtbbapnpdfcgjnaaGreatDoorNLiMath
import Derived.Test.YtbbapnpdfcgjnaaGreatDoorNLnEach
import Derived.Test.YtbbapnpdfcgjnaaGreatDoorNSgMath
open Nat renaming le_refl->sH, zero_add->sZ, sub_self->tn
open List renaming reverse_append->sI, reverse_singleton->sJ, singleton_append->sK, length_drop->sM, length_map->sN, headD_cons->sO, dropWhile_cons_of_pos->sP, dropWhile_cons_of_neg->sQ, filter_append->sS, range'->sT, map_append->sU, take_append_drop->sW, range'_1_concat->sX, map_map->ta, getElem?_map->tc, length_take->td, range'_succ->te, filter_cons->tf, tail_cons->ti, drop_drop->tj, map_cons->tk
open Bool renaming or_false->sL, false_eq_true->sR, or_eq_true->sV, or_assoc->sY, decide_and->tg, false_or->tm
set_option maxHeartbeats 64000000
namespace Go.Proofs.YtbbapnpdfcgjnaaGreatDoor
namespace Ln
open Wt
def fl (l:List UInt8):List Int:=(rl l).map fun x=>bE x.1
theorem zhP (l:List UInt8) (h:l≠ []):fl l=aS l::fl (l.drop (dec l).2):=by unfold fl aS;rw[if_neg h,cC l h,tk]
theorem nK (l:List UInt8) (h:l≠ []):fl l=fl (p8 l)++[aR l]:=by unfold fl aR;rw[if_neg h,zpB l h,sU,List.map_singleton]
theorem zfZ (l:List UInt8):(fl l).length=(rl l).length:=sN _
theorem iZ (s:List UInt8) (k:Nat) (h:k<=(rl s).length):fl (s.take (pos s k))=(fl s).take k:=by
 unfold fl;rw[Wt.sk s k h,List.map_take]
theorem zaG (s:List UInt8) (k:Nat) (h:k<=(rl s).length):fl (s.drop (pos s k))=(fl s).drop k:=by
 unfold fl;rw[Wt.zha s k h,List.map_drop]
theorem iS (l:List UInt8):aR l=(fl l).reverse.headD (-1):=by
 by_cases h:l=[]
 ·subst h;rfl
 ·rw[nK l h,sI,sJ,sK,sO]
theorem oW (l:List UInt8):aS l=(fl l).headD (-1):=by
 by_cases h:l=[]
 ·subst h;rfl
 ·rw[zhP l h,sO]
theorem zuZ (l:List UInt8):(fl (p8 l)).reverse=(fl l).reverse.tail:=by
 by_cases h:l=[]
 ·subst h;rfl
 ·rw[nK l h,sI,sJ,sK,ti]
theorem zaF (K:List Int):∀(n:Nat) (l:List UInt8),l.length<=n->(fl (dt K l)).reverse=(fl l).reverse.dropWhile (bX K)
 | n,l,hn=>by
  by_cases h:l=[]
  ·subst h;rfl
  ·have hl:=lR l h
   cases hk:bX K (aR l) with
   | true=>
    cases n with
    | zero=>omega
    | succ n=>
     rw[nW K l h hk,zaF K n (p8 l) (by omega),nK l h,sI,sJ,sK,sP hk]
   | false=>
    rw[rJ K l hk,nK l h,sI,sJ,sK,sQ (by rw[hk];simp)]
theorem zxi:bX [8]=Li.cr:=by funext c;unfold Li.cr;rw[cy];simp[bX]
theorem amg4:bX [4]=Li.f8:=by funext c;unfold Li.f8;rw[cy];simp[bX]
theorem fR (l:List UInt8):aL l=Li.bM (fl l).reverse:=by
 unfold aL Li.bM;rw[iS,zaF [8] _ l (sH _),zxi]
theorem zfY (K:List Int) (l:List UInt8):(fl (di K l)).reverse=if bX K (Li.bM (fl l).reverse)=true then ((fl l).reverse.dropWhile Li.cr).tail else (fl l).reverse:=by
 unfold di;rw[<- fR]
 show(fl (if bX K (aL l)=true then _ else _)).reverse=_
 split
 ·rw[zuZ,zaF [8] _ l (sH _),zxi]
 ·rfl
theorem zvJ (l:List UInt8):mw l=Li.mU (fl l).reverse:=by
 unfold mw Li.mU;rw[fR,zfY,zfY];have e1:∀c,bX [11,10] c=(c==10 || c==11):=fun c=>by simp only[cy];rw[show bX [] c=false from rfl,sL,Bool.or_comm]
 have e2:∀c,bX [14,15] c=(c==14 || c==15):=fun c=>by simp only[cy];rw[show bX [] c=false from rfl,sL]
 have p1:∀A:List Int,(Li.bM (if bX [14,15] (Li.bM A)=true then (A.dropWhile Li.cr).tail else A)==20)=Li.p1L A:=fun A=>by
  unfold Li.p1L;rw[e2]
  split<;>rfl
 rw[p1,e1]
 split<;>rfl
theorem zlA:∀(A:List Int) (o:Bool),Li.gZ A o=Li.gZ (A.dropWhile Li.cr) o
 | [],o=>rfl
 | z::A,o=>by
  cases hz:Li.cr z with
  | true=>
   rw[sP hz,Li.oL,hz,if_pos rfl,if_neg (by unfold Li.cr at hz;have:=beq_iff_eq.1 hz;subst this;decide)]
   exact zlA A o
  | false=>rw[sQ (by rw[hz];simp)]
theorem zsv (A:List Int) (o:Bool):Li.gZ A o=if Li.bM A=25 then Li.gZ (A.dropWhile Li.cr).tail (!o) else o:=by
 rw[zlA];unfold Li.bM
 cases hA:A.dropWhile Li.cr with
 | nil=>rfl
 | cons z Y=>
  have hz:Li.cr z=false:=by
   have h:=List.head?_dropWhile_not Li.cr A;rw[hA] at h
   simpa using h
  rw[sO,ti,Li.oL,hz]
  by_cases h:z=25
  ·subst h;rfl
  ·rw[if_neg h,if_neg (by simpa using h),if_neg (by simp)]
theorem zrk:∀(n:Nat) (l:List UInt8) (o:Bool),l.length<=n->cM l.length l o=Li.gZ (fl l).reverse o
 | n,l,o,hn=>by
  rw[zsv,<- fR]
  by_cases h:aL l=25
  ·have hk:bX [25] (aL l)=true:=by rw[h];decide
   have hlt:=kG [25] l (by decide) hk
   rw[qQ l o h,if_pos h]
   cases n with
   | zero=>omega
   | succ n=>
    rw[zrk n (di [25] l) (!o) (by omega),zfY,<- fR,if_pos hk]
  ·rw[zcy l o h,if_neg h]
theorem znW (c:Int):dj c=Li.ql c:=by
 unfold dj Li.ql
 simp only[cy]
 rw[show bX [] c=false from rfl,sL]
theorem zuV (a b:Int):bf a b=Li.held a b:=by
 unfold bf Li.held
 simp only[cy]
 rw[show bX [] b=false from rfl,sL]
 simp only[beq_iff_eq,sV,or_assoc]
 by_cases h0:b=6\/b=11\/b=10\/b=13\/b=14\/b=15
 ·rw[if_pos h0,if_pos h0]
 rw[if_neg h0,if_neg h0]
 by_cases h1:a=9
 ·rw[if_pos h1,if_pos h1]
 rw[if_neg h1,if_neg h1]
 by_cases h2:a=12
 ·rw[if_pos h2,if_pos h2]
 rw[if_neg h2,if_neg h2]
 by_cases h3:a=11
 ·rw[if_pos h3,if_pos (.inl h3)]
 rw[if_neg h3]
 by_cases h4:a=10
 ·rw[if_pos h4,if_pos (.inr h4)]
 rw[if_neg h4,if_neg (show ¬(a=11\/a=10) by omega)]
theorem zqm (a b:Int):cQ a b=Li.zhK a b:=by
 unfold cQ Li.zhK
 simp only[cy]
 rw[show ∀c,bX [] c=false from fun _=>rfl,sL,sL]
 simp only[sY]
theorem zvx (a b:Int):bN a b=Li.tog a b:=by
 unfold bN Li.tog
 simp only[cy]
 rw[show bX [] b=false from rfl]
 simp only[sL,beq_iff_eq,sV,sY]
 by_cases h1:a=12
 ·rw[if_pos h1,if_pos h1]
 rw[if_neg h1,if_neg h1]
 by_cases h2:a=0
 ·rw[if_pos h2,if_pos (.inl h2)]
 rw[if_neg h2]
 by_cases h3:a=20
 ·rw[if_pos h3,if_pos (.inr h3)]
 rw[if_neg h3,if_neg (show ¬(a=0\/a=20) by omega)]
 by_cases h4:a=14
 ·rw[if_pos h4,if_pos (.inl h4)]
 rw[if_neg h4]
 by_cases h5:a=10
 ·rw[if_pos h5,if_pos (.inr (.inl h5))]
 rw[if_neg h5]
 by_cases h6:a=21
 ·rw[if_pos h6,if_pos (.inr (.inr h6))]
 rw[if_neg h6,if_neg (show ¬(a=14\/a=10\/a=21) by omega)]
 by_cases h7:a=22
 ·rw[if_pos h7,if_pos h7]
 rw[if_neg h7,if_neg h7]
 by_cases h8:a=16
 ·rw[if_pos h8,if_pos (.inl h8)]
 rw[if_neg h8]
 by_cases h9:a=15
 ·rw[if_pos h9,if_pos (.inr h9)]
 rw[if_neg h9,if_neg (show ¬(a=16\/a=15) by omega)]
def lC (s:List UInt8) (k:Nat):Bool:=Li.lnL ((fl s).take k).reverse ((fl s).drop k)
theorem zlQ (s:List UInt8) (i k:Nat) (hik:i<k) (h:k<(rl s).length) (hb:i=0\/lC s i=true):gH s (pos s i) (pos s k)=lC s k:=by
 have hk:=Nat.le_of_lt h;have hi:i<=(rl s).length:=by omega
 have eF:aS (s.drop (pos s k))=((fl s).drop k).headD (-1):=by rw[oW,zaG s k hk]
 have eL:aR (s.take (pos s k))=((fl s).take k).reverse.headD (-1):=by rw[iS,iZ s k hk]
 have eB:aL (s.take (pos s k))=Li.bM ((fl s).take k).reverse:=by rw[fR,iZ s k hk]
 have eW:(fl (dt [4] (s.take (pos s k)))).reverse=((fl s).take k).reverse.dropWhile Li.f8:=by rw[zaF [4] _ _ (sH _),amg4,iZ s k hk]
 have eW1:aR (dt [4] (s.take (pos s k)))=(((fl s).take k).reverse.dropWhile Li.f8).headD (-1):=by rw[iS,eW]
 have eW2:aL (dt [4] (s.take (pos s k)))=Li.bM (((fl s).take k).reverse.dropWhile Li.f8):=by rw[fR,eW]
 have eN:mw (s.take (pos s k))=Li.mU ((fl s).take k).reverse:=by rw[zvJ,iZ s k hk]
 have eX:aS (s.drop (pos s k+(dec (s.drop (pos s k))).2))=((fl s).drop k).tail.headD (-1):=by rw[oE s k h,oW,zaG s (k+1) h,List.tail_drop]
 have eO:cM ((s.take (pos s k)).drop (pos s i)).length ((s.take (pos s k)).drop (pos s i)) false=Li.gZ ((fl s).take k).reverse false:=by
  have hi2:i<=(rl (s.take (pos s k))).length:=by rw[Wt.sk s k hk,td];omega
  have hp:=Wt.zlq s i k (by omega) hk
  have hd:=zaG (s.take (pos s k)) i hi2;rw[hp,iZ s k hk] at hd;rw[zrk _ _ _ (sH _),hd];have hY:((fl s).take k).reverse=(((fl s).take k).drop i).reverse++((fl s).take i).reverse:=by
   rw[<- sI]
   congr 1
   have:=sW i ((fl s).take k);rw[List.take_take,Nat.min_eq_left (by omega)] at this
   exact this.symm
  have hn:=zfZ s;rw[hY];refine(Li.zlz _ _ ((fl s).drop k) ?_ ?_).symm
  ·intro e
   have:=congrArg List.length e;rw[List.length_reverse,sM,td,List.length_nil] at this;omega
  ·rcases hb with rfl | hb
   ·exact .inl rfl
   ·right
    rw[List.reverse_reverse];have e:((fl s).take k).drop i++(fl s).drop k=(fl s).drop i:=by
     rw[List.drop_take,show(fl s).drop k=((fl s).drop i).drop (k - i) by rw[tj,show i+(k - i)=k by omega],sW]
    rw[e];exact hb
 unfold gH lC Li.lnL eK Li.jnB;rw[eO,eN,eX,eW1,eW2,eB,eL,eF];obtain⟨a,ha⟩:∃a,a=((fl s).take k).reverse.headD (-1):=⟨_,rfl⟩;obtain⟨b,hb'⟩:∃b,b=((fl s).drop k).headD (-1):=⟨_,rfl⟩;obtain⟨c,hc⟩:∃c,c=Li.bM ((fl s).take k).reverse:=⟨_,rfl⟩;obtain⟨d,hd⟩:∃d,d=Li.bM (((fl s).take k).reverse.dropWhile Li.f8):=⟨_,rfl⟩;obtain⟨e,he⟩:∃e,e=(((fl s).take k).reverse.dropWhile Li.f8).headD (-1):=⟨_,rfl⟩;obtain⟨f,hf⟩:∃f,f=((fl s).drop k).tail.headD (-1):=⟨_,rfl⟩;rw[<- ha,<- hb',<- hc,<- hd,<- he,<- hf];clear ha hb' hc hd he hf eF eL eB eW eW1 eW2 eN eX eO hb
 simp only[znW,zuV,zqm,zvx,cy,show ∀c,bX [] c=false from fun _=>rfl,sL]
 have e1:(a==2&&b==3)=decide (a=2/\b=3):=by rw[tg];rfl
 have e2:(c==25&&b==25)=decide (c=25/\b=25):=by rw[tg];rfl
 rw[e1,e2]
 generalize Li.mU _=nm
 generalize Li.gZ _ _=od
 simp only[decide_eq_true_eq,beq_iff_eq,sV,Bool.and_eq_true,sY]
 by_cases h1:a=2/\b=3
 ·rw[if_pos h1,if_pos h1]
 rw[if_neg h1,if_neg h1]
 cases Li.ql a with
 | true=>rfl
 | false=>
  cases Li.ql b with
  | true=>simp
  | false=>
   simp only[sR,if_false,false_or]
   by_cases h2:b=4\/b=5
   ·rw[if_pos h2,if_pos h2]
   rw[if_neg h2,if_neg h2]
   by_cases h3:e=5
   ·rw[if_pos h3,if_pos h3]
   rw[if_neg h3,if_neg h3]
   by_cases h4:a=4
   ·rw[if_pos h4,if_pos h4]
   rw[if_neg h4,if_neg h4,Bool.and_assoc]
   congr 3
   cases Li.zhK c b with
   | true=>simp
   | false=>
    simp only[sR,if_false,false_or]
    by_cases h5:b=12\/b=17\/b=16\/b=24\/b=19
    ·rw[if_pos h5,if_pos (by rcases h5 with h | h | h | h | h<;>simp[h])]
    rw[if_neg h5]
    cases Li.tog c b with
    | true=>simp
    | false=>
     simp only[sR,if_false,or_false]
     rw[if_neg h5]
end Ln
namespace Ln
open Wt Br
theorem zpI (s:List UInt8) (i j:Nat) (h:i<=j):pos s i<=pos s j:=by
 have:=gW s (j - i) i
 by_cases hj:j<=(rl s).length
 ·have h2:=gW s (j - i) i (by omega)
  rw[show i+(j - i)=j by omega] at h2
  omega
 ·rw[gv s j (by omega)]
  by_cases hi:i<=(rl s).length
  ·exact zlr s i hi
  ·rw[gv s i (by omega)];exact sH _
theorem zhi (s:List UInt8) (i:Nat) (hb:i=0\/lC s i=true):∀(d j:Nat),(rl s).length - j<=d->i<j->j<=(rl s).length->mT s (pos s i) (pos s i) (pos s j - pos s i)=pos s (Sg.up (lC s) ((rl s).length - j) j)
 | d,j,hd,hij,hj=>by
  have hm:=Sg.zhe s hij hj;have hpp:pos s i+(pos s j - pos s i)=pos s j:=by omega
  by_cases hlt:j<(rl s).length
  ·cases d with
   | zero=>omega
   | succ d=>
    have hl:=nk s j hlt;have hin:pos s j - pos s i<(s.drop (pos s i)).length:=by rw[sM];omega
    obtain⟨f,hf⟩:∃f,(rl s).length - j=f+1:=⟨(rl s).length - (j+1),by omega⟩
    rw[hf];unfold Sg.up;have hcd:=zlQ s i j hij hlt hb
    cases hc:lC s j with
    | true=>rw[if_pos rfl,lL s _ _ _ hin (by omega) (by rw[hpp,hcd];exact hc),hpp]
    | false=>
     have hs:=oE s j hlt;have hs2:=oF s j hlt;rw[if_neg (by simp),dZ s _ _ _ hin (fun h=>by rw[hpp,hcd,hc] at h;cases h.2),tj,hpp,show pos s j - pos s i+(dec (s.drop (pos s j))).2=pos s (j+1) - pos s i by omega,zhi s i hb d (j+1) (by omega) (by omega) hlt,show(rl s).length - (j+1)=f by omega]
  ·obtain rfl:j=(rl s).length:=by omega
   rw[tn];unfold Sg.up;rw[gv s _ (sH _)] at *;rw[kD s _ _ _ (by rw[sM];omega)]
theorem zss (s:List UInt8) (i:Nat) (hi:i<(rl s).length) (hb:i=0\/lC s i=true):onw s (pos s i) (pos s i)=pos s (Sg.nx (lC s) (rl s).length i):=by
 have hl:=nk s i hi;have hs:=oE s i hi;have hs2:=oF s i hi;have h1:=zhi s i hb _ (i+1) (sH _) (by omega) hi
 unfold onw;rw[dZ s _ _ 0 (by rw[sM];omega) (fun h=>by omega),List.drop_zero,sZ,show(dec (s.drop (pos s i))).2=pos s (i+1) - pos s i by omega,h1]
 unfold Sg.nx;rw[show(rl s).length - (i+1)=(rl s).length - i - 1 by omega]
def lpF (s:List UInt8):List (Nat × Nat):=Sg.byt s (Sg.pcF (lC s) (rl s).length 0)
def lbd (s:List UInt8):List Nat:=bds 0 (lpF s)
def lbs (s:List UInt8):List Nat:=if s=[] then [] else lbd s
def chO (s:List UInt8) (p:Nat):Nat × Bool:=(p,eJ s p)
def toC (x:Nat × Bool):Int × Bool:=((x.1:Int),x.2)
theorem zol (s:List UInt8):∀(d i:Nat),(rl s).length - i<=d->i<=(rl s).length->(i=0\/lC s i=true)->chs s (pos s i)=(Sg.byt s (Sg.pcF (lC s) (rl s).length i)).map fun x=>toC (chO s x.2)
 | d,i,hd,hi,hb=>by
  by_cases h:i<(rl s).length
  ·cases d with
   | zero=>omega
   | succ d=>
    have h1:=Sg.zcp (lC s) (rl s).length i;have h2:=Sg.zhn (C:=lC s) h;rw[pH s (pos s i) (nk s i h),zss s i h hb,Sg.oG h]
    show _=toC (chO s (pos s (Sg.nx (lC s) (rl s).length i)))::(Sg.byt s (Sg.pcF (lC s) (rl s).length (Sg.nx (lC s) (rl s).length i))).map (fun x=>toC (chO s x.2))
    rcases Sg.zfm (C:=lC s) h with h5 | h5
    ·rw[h5,Sg.kA (sH _),kY s _ (by rw[gv s _ (sH _)];omega)]
     rfl
    ·rw[zol s d _ (by omega) h2 (.inr h5)]
     rfl
  ·obtain rfl:i=(rl s).length:=by omega
   rw[Sg.kA (sH _),kY s _ (by rw[gv s _ (sH _)];omega)]
   rfl
def dT (l:List UInt8) (k:Nat):Bool:=k==0 || (k==(rl l).length || lC l k)
theorem zaw (l:List UInt8):lbd l=((sT 0 ((rl l).length+1)).filter (dT l)).map (pos l):=by
 rw[<- List.range_eq_range'];refine(Sg.zhN (C:=lC l) (D:=dT l) (by simp[dT]) (by simp[dT]) (fun k h1 h2=>?_) l).symm
 unfold dT;rw[beq_eq_false_iff_ne.2 (show k≠0 by omega),beq_eq_false_iff_ne.2 (show k≠(rl l).length by omega),tm,tm]
def eM (l:List UInt8) (i:Nat):List (Nat × Bool):=((sT 1 i).filter (dT l)).map fun k=>chO l (pos l k)
theorem zxg (l:List UInt8) (i:Nat):eM l (i+1)=eM l i++if dT l (i+1)=true then [chO l (pos l (i+1))] else []:=by
 unfold eM;rw[sX,sS,sU,Nat.add_comm 1 i]
 congr 1
 by_cases h:dT l (i+1)=true<;>simp[h]
theorem zqL (l:List UInt8):chs l 0=(eM l (rl l).length).map toC:=by
 have h:=zol l _ 0 (sH _) (Nat.zero_le _) (.inl rfl);rw[zrj] at h;rw[h];have h2:lbd l=0::(lpF l).map Prod.snd:=rfl;have h3:=zaw l;rw[h2,te,tf,if_pos (by simp[dT]),tk] at h3
 have h4:=(List.cons.inj h3).2;unfold eM;rw[ta]
 show(lpF l).map _=_
 rw[show(fun x:Nat × Nat=>toC (chO l x.2))=(fun p=>toC (chO l p)) ∘ Prod.snd from rfl,<- ta,h4,ta]
 rfl
def zgh (l:List UInt8) (i:Nat):Nat:=((sT 0 i).filter (dT l)).length
theorem zvl (l:List UInt8) (i:Nat):zgh l (i+1)=zgh l i+if dT l i=true then 1 else 0:=by
 unfold zgh;rw[sX,sS,List.length_append,sZ]
 congr 1
 by_cases h:dT l i=true<;>simp[h]
theorem rh (D:Nat->Bool):∀(c i:Nat),(∃j,i<=j/\j<i+c/\D j=true)->∃j,i<=j/\j<i+c/\D j=true/\(D i=true->j=i)/\((sT i c).filter D)[0]? =some j
 | 0,i,h=>by obtain⟨j,h1,h2,_⟩:=h;omega
 | c+1,i,h=>by
  rw[te,tf]
  by_cases hD:D i=true
  ·exact⟨i,sH _,by omega,hD,fun _=>rfl,by rw[if_pos hD];rfl⟩
  ·obtain⟨j,h1,h2,h3⟩:=h
   obtain⟨j',a1,a2,a3,_,a5⟩:=rh D c (i+1) ⟨j,by
    by_cases e:j=i
    ·rw[e] at h3;exact absurd h3 hD
    ·omega,by omega,h3⟩
   exact⟨j',by omega,by omega,a3,fun h=>absurd h hD,by rw[if_neg hD];exact a5⟩
theorem zeG (l:List UInt8) (i:Nat) (hi:i<=(rl l).length):∃j,i<=j/\j<=(rl l).length/\dT l j=true/\(dT l i=true->j=i)/\(lbd l)[zgh l i]? =some (pos l j):=by
 obtain⟨j,h1,h2,h3,h4,h5⟩:=rh (dT l) ((rl l).length+1 - i) i ⟨(rl l).length,hi,by omega,by simp[dT]⟩
 refine⟨j,h1,by omega,h3,h4,?_⟩
 rw[zaw,show(rl l).length+1=i+((rl l).length+1 - i) by omega,<- List.range'_append_1,sS,sU,List.getElem?_append_right (by rw[sN];exact sH _),sN,sZ]
 unfold zgh;rw[tn,tc,h5]
 rfl
theorem zpP (l:List UInt8) (k:Nat) (x:Nat × Nat) (h:(rl l)[k]? =some x):eJ l (pos l (k+1))=(decide (pos l (k+1)=l.length) || Li.ql (bE x.1)):=by
 have hk:=(List.getElem?_eq_some_iff.1 h).1;have hx:(fl l)[k]? =some (bE x.1):=by unfold fl;rw[tc,h];rfl
 have e:((fl l).take (k+1)).reverse.headD (-1)=bE x.1:=by rw[List.take_add_one,hx,Option.toList_some,sI,sJ,sK,sO]
 unfold eJ;rw[znW,iS,iZ l (k+1) hk,e]
theorem zqM (l:List UInt8) (i:Nat):(eM l i).length<=i:=by
 unfold eM;rw[sN];have:=List.length_filter_le (dT l) (sT 1 i);rw[List.length_range'] at this;exact this
end Ln
end Go.Proofs.YtbbapnpdfcgjnaaGreatDoor
