/- WdEdge: parts of the proof, joined. -/
import Derived.Test.YtbbapnpdfcgjnaaGreatDoorWWdNext
import Derived.Test.YtbbapnpdfcgjnaaGreatDoorWPtEv
import Derived.Test.YtbbapnpdfcgjnaaGreatDoorWSgMath
open List renaming length_drop->sD, reverse_append->sG, reverse_singleton->sH, singleton_append->sI, reverse_reverse->sJ, headD_cons->sK, dropWhile_cons_of_pos->sL, dropWhile_cons_of_neg->sM, length_take->sN, drop_drop->sO, length_nil->sQ, take_take->sR, take_add->sS, length->sU
open Nat renaming le_refl->sE, min_eq_left->sP, le_of_lt->sT
set_option maxHeartbeats 64000000
namespace Go.Proofs.YtbbapnpdfcgjnaaGreatDoor
namespace Wd
open Wt
def fw(l:List UInt8):List Int:=(rl l).map fun x=>bf x.1
theorem zca(l:List UInt8)(h:l≠ []):fw l=aQ l::fw (l.drop (dec l).2):=by unfold fw aQ;rw[bD l h,List.map_cons]
theorem zbZ(l:List UInt8)(h:l≠ []):fw l=fw (eV l)++[bT l]:=by unfold fw bT;rw[zqE l h,List.map_append,List.map_singleton]
theorem zha(l:List UInt8):(fw l).length=(rl l).length:=List.length_map _
theorem zbY(s:List UInt8)(k:Nat)(h:k<=(rl s).length):fw (s.take (pos s k))=(fw s).take k:=by unfold fw;rw[rl_take s k h,List.map_take]
theorem oN(s:List UInt8)(k:Nat)(h:k<=(rl s).length):fw (s.drop (pos s k))=(fw s).drop k:=by unfold fw;rw[rl_drop s k h,List.map_drop]
theorem zfQ:aQ []=0:=by decide
theorem zlF(l:List UInt8):bT l=(fw l).reverse.headD 0:=by
 by_cases h:l=[]
 ·subst h;exact zjO
 ·rw[zbZ l h,sG,sH,sI,sK]
theorem rP(l:List UInt8):aQ l=(fw l).headD 0:=by
 by_cases h:l=[]
 ·subst h;exact zfQ
 ·rw[zca l h,sK]
theorem znM(l:List UInt8):eV l=l.take (eV l).length:=by
 conv=>lhs;unfold eV
 rw[List.take_eq_take_iff];unfold eV;rw[sN];omega
theorem zge:∀(n:Nat)(l:List UInt8),l.length<=n->(jW l).1=((fw l).reverse.dropWhile Wo.bb).headD 0/\fw (l.take (jW l).2)=(((fw l).reverse.dropWhile Wo.bb).tail).reverse
 |n,l,hn=>by
  by_cases h:l=[]
  ·subst h;exact⟨rfl,rfl⟩
  ·have hl:=ey l h;rw[zbZ l h,sG,sH,sI];cases hk:aT (bT l)with
   |true=>
    have hk':Wo.bb (bT l)=true:=hk;rw[zba l h hk,sL hk'];cases n with
    |zero=>omega
    |succ n=>
     obtain⟨h1,h2⟩:=zge n (eV l) (by omega);refine⟨h1,?_⟩;have h3:=zbb _ (eV l) (sE _);have e:∀x,x<=(eV l).length->l.take x=(eV l).take x:=fun x hx=>by
      conv=>rhs;rw[znM l,sR]
      rw[sP hx]
     rw[e _ h3,h2]
   |false=>have hk':Wo.bb (bT l)=false:=hk;rw[zgd l h hk,sM (by rw[hk'];simp)];refine⟨by simp only[sK],?_⟩;simp only[];rw[<-znM l,List.tail_cons,sJ]
theorem zlD:∀(n:Nat)(l:List UInt8),l.length<=n->won l=((fw l).dropWhile Wo.bb).headD 0
 |n,l,hn=>by
  by_cases h:l=[]
  ·subst h;rfl
  ·have h1:=dec_ge l h;have hp:0<l.length:=List.length_pos_iff.2 h;rw[zca l h];cases hk:aT (aQ l)with
   |true=>
    have hk':Wo.bb (aQ l)=true:=hk;rw[zhJ l h hk,sL hk'];cases n with
    |zero=>omega
    |succ n=>exact zlD n _ (by rw[sD];omega)
   |false=>have hk':Wo.bb (aQ l)=false:=hk;rw[zlC l h hk,sM (by rw[hk'];simp),sK]
theorem zfM:∀(n:Nat)(l:List UInt8)(o:Bool),l.length<=n->wod l o=Wo.kM (fw l).reverse o
 |n,l,o,hn=>by
  by_cases h:l=[]
  ·subst h;rfl
  ·have hl:=ey l h;rw[zcU l o h,zbZ l h,sG,sH,sI,Wo.zez];cases n with
   |zero=>omega
   |succ n=>rw[zfM n (eV l) (!o) (by omega),zfM n (eV l) o (by omega)];rfl
theorem zlG(s:List UInt8)(k:Nat)(h:k<(rl s).length):gW s (pos s k)=Wo.wjL ((fw s).take k).reverse ((fw s).drop k):=by
 have hk:=sT h;have hb:=zge _ (s.take (pos s k)) (sE _);have hbl:=zbb _ (s.take (pos s k)) (sE _);rw[sN]at hbl;have hf:s.take (jW (s.take (pos s k))).2=(s.take (pos s k)).take (jW (s.take (pos s k))).2:=by rw[sR,sP (by omega)]
 have hb2:=(zge _ (s.take (jW (s.take (pos s k))).2) (sE _)).1;rw[hf,hb.2,sJ]at hb2;have hw:won (s.drop (pos s k+(dec (s.drop (pos s k))).2))=(((fw s).drop k).tail.dropWhile Wo.bb).headD 0:=by rw[cM s k h,zlD _ _ (sE _),oN s (k+1) h,List.tail_drop]
 have ho:wod (s.take (pos s k)) false=Wo.kM ((fw s).take k).reverse false:=by rw[zfM _ _ _ (sE _),zbY s k hk]
 have hfi:aQ (s.drop (pos s k))=((fw s).drop k).headD 0:=by rw[rP,oN s k hk]
 unfold gW;rw[ho,hfi,hw,hf,hb2,hb.1,zbY s k hk];rfl
theorem oe(s:List UInt8)(k:Nat)(h:k<(rl s).length):fD s (pos s k)=Wo.wcL ((fw s).take k).reverse ((fw s).drop k):=by have hk:=sT h;unfold fD;rw[zlG s k h,zlF,zbY s k hk,rP,oN s k hk];rfl
def wC(s:List UInt8)(k:Nat):Bool:=fD s (pos s k)
theorem pV(s:List UInt8)(a k:Nat)(h:a<=(rl s).length):pos s a+pos (s.drop (pos s a)) k=pos s (a+k):=by
 by_cases hk:a+k<=(rl s).length
 ·have:=cz s;unfold pos;rw[show nC ((rl s).take a)=pos s a from rfl,rl_drop s a h,sS,oA];rfl
 ·have h1:(rl (s.drop (pos s a))).length<=k:=by rw[rl_drop s a h,sD];omega
  rw[bY _ _ h1,bY s (a+k) (by omega),sD];have:=dZ s a h;omega
theorem zkl(s:List UInt8)(i k:Nat)(hik:i<k)(hk:k<(rl s).length)(hb:i=0\/wC s i=true):fD (s.drop (pos s i)) (pos s k-pos s i)=wC s k:=by
 have hi:i<(rl s).length:=by omega
 have hl:(rl (s.drop (pos s i))).length=(rl s).length-i:=by rw[rl_drop s i (by omega),sD]
 have hp:=pV s i (k-i) (by omega);rw[show i+(k-i)=k by omega]at hp;rw[show pos s k-pos s i=pos (s.drop (pos s i)) (k-i) by omega,oe _ _ (by omega),oN s i (by omega)];unfold wC;rw[oe s k hk,sO,show i+(k-i)=k by omega];have hY:((fw s).take k).reverse=(((fw s).drop i).take (k-i)).reverse++((fw s).take i).reverse:=by rw[<-sG];congr 1;rw[<-sS,show i+(k-i)=k by omega]
 have hn:=zha s;rw[hY];refine(Wo.zue _ _ _ ?_ ?_ ?_).symm
 ·intro e;have:=congrArg sU e;rw[List.length_reverse,sN,sD,sQ]at this;omega
 ·intro e;have:=congrArg sU e;rw[sD,sQ]at this;omega
 ·rcases hb with rfl|hb
  ·exact .inl rfl
  ·right;rw[sJ];unfold wC at hb;rw[oe s i hi]at hb;have e:((fw s).drop i).take (k-i)++(fw s).drop k=(fw s).drop i:=by rw[show(fw s).drop k=((fw s).drop i).drop (k-i) by rw[sO,show i+(k-i)=k by omega],List.take_append_drop]
   rw[e];exact hb
theorem zhK(s:List UInt8)(i:Nat)(hb:i=0\/wC s i=true):∀(d j:Nat),(rl s).length-j<=d->i<j->j<=(rl s).length->ra (s.drop (pos s i)) (pos s j-pos s i)=pos s (Sg.up (wC s) ((rl s).length-j) j)-pos s i
 |d,j,hd,hij,hj=>by
  have hm:=cz s (j-i) i (by omega);rw[show i+(j-i)=j by omega]at hm;have hpp:pos s i+(pos s j-pos s i)=pos s j:=by omega
  by_cases hlt:j<(rl s).length
  ·cases d with
   |zero=>omega
   |succ d=>
    have hl:=cU s j hlt;have hin:pos s j-pos s i<(s.drop (pos s i)).length:=by rw[sD];omega
    obtain⟨f,hf⟩:∃f,(rl s).length-j=f+1:=⟨(rl s).length-(j+1),by omega⟩;rw[hf];unfold Sg.up;have hcd:=zkl s i j hij hlt hb;cases hc:wC s j with
    |true=>rw[if_pos rfl,rO _ _ hin (by omega) (by rw[hcd];exact hc)]
    |false=>have hs:=cM s j hlt;have hs2:=dJ s j hlt;rw[if_neg (by simp),ja _ _ hin (fun h=>by rw[hcd,hc]at h;cases h.2),sO,hpp,show pos s j-pos s i+(dec (s.drop (pos s j))).2=pos s (j+1)-pos s i by omega,zhK s i hb d (j+1) (by omega) (by omega) hlt,show(rl s).length-(j+1)=f by omega]
  ·obtain rfl:j=(rl s).length:=by omega
   rw[Nat.sub_self];unfold Sg.up;rw[bY s _ (sE _)]at*;rw[zcV _ _ (by rw[sD];omega),sD]
theorem zsW(s:List UInt8)(i:Nat)(hi:i<(rl s).length)(hb:i=0\/wC s i=true):pos s i+wnx (s.drop (pos s i))=pos s (Sg.nx (wC s) (rl s).length i):=by have hl:=cU s i hi;have hs:=cM s i hi;have hs2:=dJ s i hi;have h1:=zhK s i hb _ (i+1) (sE _) (by omega) hi;have h2:=cz s (Sg.nx (wC s) (rl s).length i-i) i (by have:=Sg.eu (C:=wC s) hi;have:=Sg.dS (wC s) (rl s).length i;omega);have h3:=Sg.dS (wC s) (rl s).length i;rw[show i+(Sg.nx (wC s) (rl s).length i-i)=Sg.nx (wC s) (rl s).length i by omega]at h2;unfold wnx;rw[ja _ 0 (by rw[sD];omega) (fun h=>by omega),List.drop_zero,Nat.zero_add,show(dec (s.drop (pos s i))).2=pos s (i+1)-pos s i by omega,h1];unfold Sg.nx at h2⊢;omega
def jD(s:List UInt8):List (Nat×Nat):=Sg.byt s (Sg.pcF (wC s) (rl s).length 0)
def gF(s:List UInt8):List Nat:=Br.kf 0 (jD s)
def gD(s:List UInt8):List Nat:=if s=[]then []else gF s
theorem bP(s:List UInt8):Br.jH 0 s.length (jD s):=Sg.znv s (wC s) _ 0 (sE _) (Nat.zero_le _)
end Wd
end Go.Proofs.YtbbapnpdfcgjnaaGreatDoor
