/- LnEdge, LnChs: parts of the proof, joined. -/
import Derived.Test.YtbbapnpdfcgjnaaGreatDoorLPtRunLi0
import Derived.Test.YtbbapnpdfcgjnaaGreatDoorLLnEach
import Derived.Test.YtbbapnpdfcgjnaaGreatDoorLSgMath
open Nat renaming le_refl->xa, zero_add->xw, sub_self->xH
open List renaming reverse_append->xb, reverse_singleton->xd, singleton_append->xe, length_drop->xg, length_map->xh, headD_cons->xi, dropWhile_cons_of_pos->xj, dropWhile_cons_of_neg->xk, filter_append->xn, range'->xp, map_append->xq, take_append_drop->xt, range'_1_concat->xu, map_map->xx, getElem?_map->xy, length_take->xz, range'_succ->xA, filter_cons->xB, tail_cons->xD, drop_drop->xE, map_cons->xF
open Bool renaming or_false->xf, false_eq_true->xm, or_eq_true->xr, or_assoc->xv, decide_and->xC, false_or->xG
set_option maxHeartbeats 64000000
namespace Go.Proofs.YtbbapnpdfcgjnaaGreatDoor
namespace Ln
open Wt
def fl (l:List UInt8):List Int:=(rl l).map fun x=>zbn x.1
theorem zuv (l:List UInt8) (h:l≠ []):fl l=zaD l::fl (l.drop (dec l).2):=by unfold fl zaD;rw[if_neg h,zbt l h,xF]
theorem ziQ (l:List UInt8) (h:l≠ []):fl l=fl (ltl l)++[zaE l]:=by unfold fl zaE;rw[if_neg h,zAr l h,xq,List.map_singleton]
theorem zuu (l:List UInt8):(fl l).length=(rl l).length:=xh _
theorem zeP (s:List UInt8) (k:Nat) (h:k<=(rl s).length):fl (s.take (pos s k))=(fl s).take k:=by
 unfold fl;rw[Wt.zlz s k h,List.map_take]
theorem zmW (s:List UInt8) (k:Nat) (h:k<=(rl s).length):fl (s.drop (pos s k))=(fl s).drop k:=by
 unfold fl;rw[Wt.zrD s k h,List.map_drop]
theorem zea (l:List UInt8):zaE l=(fl l).reverse.headD (-1):=by
 by_cases h:l=[]
 ·subst h;rfl
 ·rw[ziQ l h,xb,xd,xe,xi]
theorem zhw (l:List UInt8):zaD l=(fl l).headD (-1):=by
 by_cases h:l=[]
 ·subst h;rfl
 ·rw[zuv l h,xi]
theorem zFW (l:List UInt8):(fl (ltl l)).reverse=(fl l).reverse.tail:=by
 by_cases h:l=[]
 ·subst h;rfl
 ·rw[ziQ l h,xb,xd,xe,xD]
theorem zoO (K:List Int):∀(n:Nat) (l:List UInt8),l.length<=n->(fl (zer K l)).reverse=(fl l).reverse.dropWhile (amg K)
 | n,l,hn=>by
  by_cases h:l=[]
  ·subst h;rfl
  ·have hl:=zhv l h
   cases hk:amg K (zaE l) with
   | true=>
    cases n with
    | zero=>omega
    | succ n=>
     rw[zhU K l h hk,zoO K n (ltl l) (by omega),ziQ l h,xb,xd,xe,xj hk]
   | false=>
    rw[zlf K l hk,ziQ l h,xb,xd,xe,xk (by rw[hk];simp)]
theorem amg8:amg [8]=Li.clg:=by funext c;unfold Li.clg;rw[zbp];simp[amg]
theorem amg4:amg [4]=Li.spq:=by funext c;unfold Li.spq;rw[zbp];simp[amg]
theorem zdt (l:List UInt8):zaA l=Li.lst (fl l).reverse:=by
 unfold zaA Li.lst;rw[zea,zoO [8] _ l (xa _),amg8]
theorem zut (K:List Int) (l:List UInt8):(fl (zcJ K l)).reverse=if amg K (Li.lst (fl l).reverse)=true then ((fl l).reverse.dropWhile Li.clg).tail else (fl l).reverse:=by
 unfold zcJ;rw[<- zdt]
 show(fl (if amg K (zaA l)=true then _ else _)).reverse=_
 split
 ·rw[zFW,zoO [8] _ l (xa _),amg8]
 ·rfl
theorem num_L (l:List UInt8):zkf l=Li.zqN (fl l).reverse:=by
 unfold zkf Li.zqN;rw[zdt,zut,zut];have e1:∀c,amg [11,10] c=(c==10 || c==11):=fun c=>by simp only[zbp];rw[show amg [] c=false from rfl,xf,Bool.or_comm]
 have e2:∀c,amg [14,15] c=(c==14 || c==15):=fun c=>by simp only[zbp];rw[show amg [] c=false from rfl,xf]
 have p1:∀A:List Int,(Li.lst (if amg [14,15] (Li.lst A)=true then (A.dropWhile Li.clg).tail else A)==20)=Li.p1L A:=fun A=>by
  unfold Li.p1L;rw[e2]
  split<;>rfl
 rw[p1,e1]
 split<;>rfl
theorem zyE:∀(A:List Int) (o:Bool),Li.odR A o=Li.odR (A.dropWhile Li.clg) o
 | [],o=>rfl
 | z::A,o=>by
  cases hz:Li.clg z with
  | true=>
   rw[xj hz,Li.zlO,hz,if_pos rfl,if_neg (by unfold Li.clg at hz;have:=beq_iff_eq.1 hz;subst this;decide)]
   exact zyE A o
  | false=>rw[xk (by rw[hz];simp)]
theorem zCP (A:List Int) (o:Bool):Li.odR A o=if Li.lst A=25 then Li.odR (A.dropWhile Li.clg).tail (!o) else o:=by
 rw[zyE];unfold Li.lst
 cases hA:A.dropWhile Li.clg with
 | nil=>rfl
 | cons z Y=>
  have hz:Li.clg z=false:=by
   have h:=List.head?_dropWhile_not Li.clg A;rw[hA] at h
   simpa using h
  rw[xi,xD,Li.zlO,hz]
  by_cases h:z=25
  ·subst h;rfl
  ·rw[if_neg h,if_neg (by simpa using h),if_neg (by simp)]
theorem zCQ:∀(n:Nat) (l:List UInt8) (o:Bool),l.length<=n->zch l.length l o=Li.odR (fl l).reverse o
 | n,l,o,hn=>by
  rw[zCP,<- zdt]
  by_cases h:zaA l=25
  ·have hk:amg [25] (zaA l)=true:=by rw[h];decide
   have hlt:=zfn [25] l (by decide) hk
   rw[zke l o h,if_pos h]
   cases n with
   | zero=>omega
   | succ n=>
    rw[zCQ n (zcJ [25] l) (!o) (by omega),zut,<- zdt,if_pos hk]
  ·rw[zoq l o h,if_neg h]
theorem zzP (c:Int):zbX c=Li.zvJ c:=by
 unfold zbX Li.zvJ
 simp only[zbp]
 rw[show amg [] c=false from rfl,xf]
theorem zFR (a b:Int):zaQ a b=Li.held a b:=by
 unfold zaQ Li.held
 simp only[zbp]
 rw[show amg [] b=false from rfl,xf]
 simp only[beq_iff_eq,xr,or_assoc]
 by_cases h0:b=6\/b=11\/b=10\/b=13\/b=14\/b=15
 ·rw[if_pos h0,if_pos h0]
 rw[if_neg h0,if_neg h0]
 by_cases h1:a=9
 ·rw[if_pos h1,if_pos h1]
 rw[if_neg h1,if_neg h1]
 by_cases h2:a=12
 ·rw[if_pos h2,if_pos h2]
 rw[if_neg h2,if_neg h2]
 by_cases h3:a=11
 ·rw[if_pos h3,if_pos (.inl h3)]
 rw[if_neg h3]
 by_cases h4:a=10
 ·rw[if_pos h4,if_pos (.inr h4)]
 rw[if_neg h4,if_neg (show ¬(a=11\/a=10) by omega)]
theorem zBe (a b:Int):zbE a b=Li.zxj a b:=by
 unfold zbE Li.zxj
 simp only[zbp]
 rw[show ∀c,amg [] c=false from fun _=>rfl,xf,xf]
 simp only[xv]
theorem tog_L (a b:Int):zbq a b=Li.tog a b:=by
 unfold zbq Li.tog
 simp only[zbp]
 rw[show amg [] b=false from rfl]
 simp only[xf,beq_iff_eq,xr,xv]
 by_cases h1:a=12
 ·rw[if_pos h1,if_pos h1]
 rw[if_neg h1,if_neg h1]
 by_cases h2:a=0
 ·rw[if_pos h2,if_pos (.inl h2)]
 rw[if_neg h2]
 by_cases h3:a=20
 ·rw[if_pos h3,if_pos (.inr h3)]
 rw[if_neg h3,if_neg (show ¬(a=0\/a=20) by omega)]
 by_cases h4:a=14
 ·rw[if_pos h4,if_pos (.inl h4)]
 rw[if_neg h4]
 by_cases h5:a=10
 ·rw[if_pos h5,if_pos (.inr (.inl h5))]
 rw[if_neg h5]
 by_cases h6:a=21
 ·rw[if_pos h6,if_pos (.inr (.inr h6))]
 rw[if_neg h6,if_neg (show ¬(a=14\/a=10\/a=21) by omega)]
 by_cases h7:a=22
 ·rw[if_pos h7,if_pos h7]
 rw[if_neg h7,if_neg h7]
 by_cases h8:a=16
 ·rw[if_pos h8,if_pos (.inl h8)]
 rw[if_neg h8]
 by_cases h9:a=15
 ·rw[if_pos h9,if_pos (.inr h9)]
 rw[if_neg h9,if_neg (show ¬(a=16\/a=15) by omega)]
def lC (s:List UInt8) (k:Nat):Bool:=Li.lnL ((fl s).take k).reverse ((fl s).drop k)
theorem zwE (s:List UInt8) (i k:Nat) (hik:i<k) (h:k<(rl s).length) (hb:i=0\/lC s i=true):zfc s (pos s i) (pos s k)=lC s k:=by
 have hk:=Nat.le_of_lt h;have hi:i<=(rl s).length:=by omega
 have eF:zaD (s.drop (pos s k))=((fl s).drop k).headD (-1):=by rw[zhw,zmW s k hk]
 have eL:zaE (s.take (pos s k))=((fl s).take k).reverse.headD (-1):=by rw[zea,zeP s k hk]
 have eB:zaA (s.take (pos s k))=Li.lst ((fl s).take k).reverse:=by rw[zdt,zeP s k hk]
 have eW:(fl (zer [4] (s.take (pos s k)))).reverse=((fl s).take k).reverse.dropWhile Li.spq:=by rw[zoO [4] _ _ (xa _),amg4,zeP s k hk]
 have eW1:zaE (zer [4] (s.take (pos s k)))=(((fl s).take k).reverse.dropWhile Li.spq).headD (-1):=by rw[zea,eW]
 have eW2:zaA (zer [4] (s.take (pos s k)))=Li.lst (((fl s).take k).reverse.dropWhile Li.spq):=by rw[zdt,eW]
 have eN:zkf (s.take (pos s k))=Li.zqN ((fl s).take k).reverse:=by rw[num_L,zeP s k hk]
 have eX:zaD (s.drop (pos s k+(dec (s.drop (pos s k))).2))=((fl s).drop k).tail.headD (-1):=by rw[zim s k h,zhw,zmW s (k+1) h,List.tail_drop]
 have eO:zch ((s.take (pos s k)).drop (pos s i)).length ((s.take (pos s k)).drop (pos s i)) false=Li.odR ((fl s).take k).reverse false:=by
  have hi2:i<=(rl (s.take (pos s k))).length:=by rw[Wt.zlz s k hk,xz];omega
  have hp:=Wt.zwq s i k (by omega) hk
  have hd:=zmW (s.take (pos s k)) i hi2;rw[hp,zeP s k hk] at hd;rw[zCQ _ _ _ (xa _),hd];have hY:((fl s).take k).reverse=(((fl s).take k).drop i).reverse++((fl s).take i).reverse:=by
   rw[<- xb]
   congr 1
   have:=xt i ((fl s).take k);rw[List.take_take,Nat.min_eq_left (by omega)] at this
   exact this.symm
  have hn:=zuu s;rw[hY];refine(Li.zwu _ _ ((fl s).drop k) ?_ ?_).symm
  ·intro e
   have:=congrArg List.length e;rw[List.length_reverse,xg,xz,List.length_nil] at this;omega
  ·rcases hb with rfl | hb
   ·exact .inl rfl
   ·right
    rw[List.reverse_reverse];have e:((fl s).take k).drop i++(fl s).drop k=(fl s).drop i:=by
     rw[List.drop_take,show(fl s).drop k=((fl s).drop i).drop (k - i) by rw[xE,show i+(k - i)=k by omega],xt]
    rw[e];exact hb
 unfold zfc lC Li.lnL zcW Li.jnB;rw[eO,eN,eX,eW1,eW2,eB,eL,eF];obtain⟨a,ha⟩:∃a,a=((fl s).take k).reverse.headD (-1):=⟨_,rfl⟩;obtain⟨b,hb'⟩:∃b,b=((fl s).drop k).headD (-1):=⟨_,rfl⟩;obtain⟨c,hc⟩:∃c,c=Li.lst ((fl s).take k).reverse:=⟨_,rfl⟩;obtain⟨d,hd⟩:∃d,d=Li.lst (((fl s).take k).reverse.dropWhile Li.spq):=⟨_,rfl⟩;obtain⟨e,he⟩:∃e,e=(((fl s).take k).reverse.dropWhile Li.spq).headD (-1):=⟨_,rfl⟩;obtain⟨f,hf⟩:∃f,f=((fl s).drop k).tail.headD (-1):=⟨_,rfl⟩;rw[<- ha,<- hb',<- hc,<- hd,<- he,<- hf];clear ha hb' hc hd he hf eF eL eB eW eW1 eW2 eN eX eO hb
 simp only[zzP,zFR,zBe,tog_L,zbp,show ∀c,amg [] c=false from fun _=>rfl,xf]
 have e1:(a==2&&b==3)=decide (a=2/\b=3):=by rw[xC];rfl
 have e2:(c==25&&b==25)=decide (c=25/\b=25):=by rw[xC];rfl
 rw[e1,e2]
 generalize Li.zqN _=nm
 generalize Li.odR _ _=od
 simp only[decide_eq_true_eq,beq_iff_eq,xr,Bool.and_eq_true,xv]
 by_cases h1:a=2/\b=3
 ·rw[if_pos h1,if_pos h1]
 rw[if_neg h1,if_neg h1]
 cases Li.zvJ a with
 | true=>rfl
 | false=>
  cases Li.zvJ b with
  | true=>simp
  | false=>
   simp only[xm,if_false,false_or]
   by_cases h2:b=4\/b=5
   ·rw[if_pos h2,if_pos h2]
   rw[if_neg h2,if_neg h2]
   by_cases h3:e=5
   ·rw[if_pos h3,if_pos h3]
   rw[if_neg h3,if_neg h3]
   by_cases h4:a=4
   ·rw[if_pos h4,if_pos h4]
   rw[if_neg h4,if_neg h4,Bool.and_assoc]
   congr 3
   cases Li.zxj c b with
   | true=>simp
   | false=>
    simp only[xm,if_false,false_or]
    by_cases h5:b=12\/b=17\/b=16\/b=24\/b=19
    ·rw[if_pos h5,if_pos (by rcases h5 with h | h | h | h | h<;>simp[h])]
    rw[if_neg h5]
    cases Li.tog c b with
    | true=>simp
    | false=>
     simp only[xm,if_false,or_false]
     rw[if_neg h5]
end Ln
namespace Ln
open Wt Br
theorem zAw (s:List UInt8) (i j:Nat) (h:i<=j):pos s i<=pos s j:=by
 have:=zdU s (j - i) i
 by_cases hj:j<=(rl s).length
 ·have h2:=zdU s (j - i) i (by omega)
  rw[show i+(j - i)=j by omega] at h2
  omega
 ·rw[zdG s j (by omega)]
  by_cases hi:i<=(rl s).length
  ·exact zyy s i hi
  ·rw[zdG s i (by omega)];exact xa _
theorem zrR (s:List UInt8) (i:Nat) (hb:i=0\/lC s i=true):∀(d j:Nat),(rl s).length - j<=d->i<j->j<=(rl s).length->zqM s (pos s i) (pos s i) (pos s j - pos s i)=pos s (Sg.up (lC s) ((rl s).length - j) j)
 | d,j,hd,hij,hj=>by
  have hm:=Sg.zrM s hij hj;have hpp:pos s i+(pos s j - pos s i)=pos s j:=by omega
  by_cases hlt:j<(rl s).length
  ·cases d with
   | zero=>omega
   | succ d=>
    have hl:=zin s j hlt;have hin:pos s j - pos s i<(s.drop (pos s i)).length:=by rw[xg];omega
    obtain⟨f,hf⟩:∃f,(rl s).length - j=f+1:=⟨(rl s).length - (j+1),by omega⟩
    rw[hf];unfold Sg.up;have hcd:=zwE s i j hij hlt hb
    cases hc:lC s j with
    | true=>rw[if_pos rfl,zfT s _ _ _ hin (by omega) (by rw[hpp,hcd];exact hc),hpp]
    | false=>
     have hs:=zim s j hlt;have hs2:=zjY s j hlt;rw[if_neg (by simp),zcr s _ _ _ hin (fun h=>by rw[hpp,hcd,hc] at h;cases h.2),xE,hpp,show pos s j - pos s i+(dec (s.drop (pos s j))).2=pos s (j+1) - pos s i by omega,zrR s i hb d (j+1) (by omega) (by omega) hlt,show(rl s).length - (j+1)=f by omega]
  ·obtain rfl:j=(rl s).length:=by omega
   rw[xH];unfold Sg.up;rw[zdG s _ (xa _)] at *;rw[zfl s _ _ _ (by rw[xg];omega)]
theorem zCM (s:List UInt8) (i:Nat) (hi:i<(rl s).length) (hb:i=0\/lC s i=true):onw s (pos s i) (pos s i)=pos s (Sg.nx (lC s) (rl s).length i):=by
 have hl:=zin s i hi;have hs:=zim s i hi;have hs2:=zjY s i hi;have h1:=zrR s i hb _ (i+1) (xa _) (by omega) hi
 unfold onw;rw[zcr s _ _ 0 (by rw[xg];omega) (fun h=>by omega),List.drop_zero,xw,show(dec (s.drop (pos s i))).2=pos s (i+1) - pos s i by omega,h1]
 unfold Sg.nx;rw[show(rl s).length - (i+1)=(rl s).length - i - 1 by omega]
def lpF (s:List UInt8):List (Nat × Nat):=Sg.byt s (Sg.pcF (lC s) (rl s).length 0)
def lbd (s:List UInt8):List Nat:=bds 0 (lpF s)
def lbs (s:List UInt8):List Nat:=if s=[] then [] else lbd s
def chO (s:List UInt8) (p:Nat):Nat × Bool:=(p,zcV s p)
def toC (x:Nat × Bool):Int × Bool:=((x.1:Int),x.2)
theorem zzX (s:List UInt8):∀(d i:Nat),(rl s).length - i<=d->i<=(rl s).length->(i=0\/lC s i=true)->chs s (pos s i)=(Sg.byt s (Sg.pcF (lC s) (rl s).length i)).map fun x=>toC (chO s x.2)
 | d,i,hd,hi,hb=>by
  by_cases h:i<(rl s).length
  ·cases d with
   | zero=>omega
   | succ d=>
    have h1:=Sg.zsb (lC s) (rl s).length i;have h2:=Sg.zwv (C:=lC s) h;rw[zjb s (pos s i) (zin s i h),zCM s i h hb,Sg.ziq h]
    show _=toC (chO s (pos s (Sg.nx (lC s) (rl s).length i)))::(Sg.byt s (Sg.pcF (lC s) (rl s).length (Sg.nx (lC s) (rl s).length i))).map (fun x=>toC (chO s x.2))
    rcases Sg.zsa (C:=lC s) h with h5 | h5
    ·rw[h5,Sg.zfP (xa _),zgx s _ (by rw[zdG s _ (xa _)];omega)]
     rfl
    ·rw[zzX s d _ (by omega) h2 (.inr h5)]
     rfl
  ·obtain rfl:i=(rl s).length:=by omega
   rw[Sg.zfP (xa _),zgx s _ (by rw[zdG s _ (xa _)];omega)]
   rfl
def zfe (l:List UInt8) (k:Nat):Bool:=k==0 || (k==(rl l).length || lC l k)
theorem zmP (l:List UInt8):lbd l=((xp 0 ((rl l).length+1)).filter (zfe l)).map (pos l):=by
 rw[<- List.range_eq_range'];refine(Sg.zuq (C:=lC l) (D:=zfe l) (by simp[zfe]) (by simp[zfe]) (fun k h1 h2=>?_) l).symm
 unfold zfe;rw[beq_eq_false_iff_ne.2 (show k≠0 by omega),beq_eq_false_iff_ne.2 (show k≠(rl l).length by omega),xG,xG]
def chT (l:List UInt8) (i:Nat):List (Nat × Bool):=((xp 1 i).filter (zfe l)).map fun k=>chO l (pos l k)
theorem chT_s (l:List UInt8) (i:Nat):chT l (i+1)=chT l i++if zfe l (i+1)=true then [chO l (pos l (i+1))] else []:=by
 unfold chT;rw[xu,xn,xq,Nat.add_comm 1 i]
 congr 1
 by_cases h:zfe l (i+1)=true<;>simp[h]
theorem zBC (l:List UInt8):chs l 0=(chT l (rl l).length).map toC:=by
 have h:=zzX l _ 0 (xa _) (Nat.zero_le _) (.inl rfl);rw[zCE] at h;rw[h];have h2:lbd l=0::(lpF l).map Prod.snd:=rfl;have h3:=zmP l;rw[h2,xA,xB,if_pos (by simp[zfe]),xF] at h3
 have h4:=(List.cons.inj h3).2;unfold chT;rw[xx]
 show(lpF l).map _=_
 rw[show(fun x:Nat × Nat=>toC (chO l x.2))=(fun p=>toC (chO l p)) ∘ Prod.snd from rfl,<- xx,h4,xx]
 rfl
def zBB (l:List UInt8) (i:Nat):Nat:=((xp 0 i).filter (zfe l)).length
theorem zGs (l:List UInt8) (i:Nat):zBB l (i+1)=zBB l i+if zfe l i=true then 1 else 0:=by
 unfold zBB;rw[xu,xn,List.length_append,xw]
 congr 1
 by_cases h:zfe l i=true<;>simp[h]
theorem zkC (D:Nat->Bool):∀(c i:Nat),(∃j,i<=j/\j<i+c/\D j=true)->∃j,i<=j/\j<i+c/\D j=true/\(D i=true->j=i)/\((xp i c).filter D)[0]? =some j
 | 0,i,h=>by obtain⟨j,h1,h2,_⟩:=h;omega
 | c+1,i,h=>by
  rw[xA,xB]
  by_cases hD:D i=true
  ·exact⟨i,xa _,by omega,hD,fun _=>rfl,by rw[if_pos hD];rfl⟩
  ·obtain⟨j,h1,h2,h3⟩:=h
   obtain⟨j',a1,a2,a3,_,a5⟩:=zkC D c (i+1) ⟨j,by
    by_cases e:j=i
    ·rw[e] at h3;exact absurd h3 hD
    ·omega,by omega,h3⟩
   exact⟨j',by omega,by omega,a3,fun h=>absurd h hD,by rw[if_neg hD];exact a5⟩
theorem zpk (l:List UInt8) (i:Nat) (hi:i<=(rl l).length):∃j,i<=j/\j<=(rl l).length/\zfe l j=true/\(zfe l i=true->j=i)/\(lbd l)[zBB l i]? =some (pos l j):=by
 obtain⟨j,h1,h2,h3,h4,h5⟩:=zkC (zfe l) ((rl l).length+1 - i) i ⟨(rl l).length,hi,by omega,by simp[zfe]⟩
 refine⟨j,h1,by omega,h3,h4,?_⟩
 rw[zmP,show(rl l).length+1=i+((rl l).length+1 - i) by omega,<- List.range'_append_1,xn,xq,List.getElem?_append_right (by rw[xh];exact xa _),xh,xw]
 unfold zBB;rw[xH,xy,h5]
 rfl
theorem zAI (l:List UInt8) (k:Nat) (x:Nat × Nat) (h:(rl l)[k]? =some x):zcV l (pos l (k+1))=(decide (pos l (k+1)=l.length) || Li.zvJ (zbn x.1)):=by
 have hk:=(List.getElem?_eq_some_iff.1 h).1;have hx:(fl l)[k]? =some (zbn x.1):=by unfold fl;rw[xy,h];rfl
 have e:((fl l).take (k+1)).reverse.headD (-1)=zbn x.1:=by rw[List.take_add_one,hx,Option.toList_some,xb,xd,xe,xi]
 unfold zcV;rw[zzP,zea,zeP l (k+1) hk,e]
theorem zBD (l:List UInt8) (i:Nat):(chT l i).length<=i:=by
 unfold chT;rw[xh];have:=List.length_filter_le (zfe l) (xp 1 i);rw[List.length_range'] at this;exact this
end Ln
end Go.Proofs.YtbbapnpdfcgjnaaGreatDoor
