/- SdMath, PtGood, PtChk, PtSE, PtEn, PtAp, SdSome, PtDc, PtOk, PtEnM: parts of the proof, joined. -/
import Derived.Test.YtbbapnpdfcgjnaaGreatDoorLPtFun1
open List renaming getElem?_eq_some_iff->xa, getElem?_eq_getElem->xb, drop_eq_getElem_cons->xh, length_eq_zero_iff->xi, getElem?_cons_succ->xj, getElem_mem->xk, exists_mem_of_length_pos->xm, mem_map->xn, mem_cons_self->xp, getElem?_take_of_lt->xr, length_map->xu, mem_cons_of_mem->xv, take_succ_cons->xx, length_append->xz, length_take->xD, length_drop->xE, map_append->xF
open Nat renaming eq_of_beq_eq_true->xd, eq_or_lt_of_le->xe, zero_le->xf, le_refl->xq, div_le_div_right->xw, add_sub_cancel'->xy, lt_of_lt_of_le->xA, zero_add->xB, le_trans->xC, beq->xG, ble->xH
open Bool renaming and_eq_true->xg
open And renaming intro->xt
set_option maxHeartbeats 64000000
namespace Go.Proofs.YtbbapnpdfcgjnaaGreatDoor
section
namespace Pt
mutual
def rev:Pat->Pat
 | .mk op cls kids=>.mk op cls (if op=2 then (zpH kids).reverse else zpH kids)
def zpH:List Pat->List Pat
 | []=>[]
 | p::ps=>rev p::zpH ps
end
theorem znY:∀ps:List Pat,zpH ps=ps.map rev
 | []=>by unfold zpH;rfl
 | p::ps=>by unfold zpH;rw[znY ps];rfl
theorem zrH (op:Int) (cls:List Int) (kids:List Pat):rev (.mk op cls kids)= .mk op cls (if op=2 then (kids.map rev).reverse else kids.map rev):=by
 unfold rev;rw[znY]
theorem zri {R:Nat->Nat->Prop} {i j k:Nat} (h:zcR R i j) (h2:R j k):Cmp R (zcR R) i k:=by
 induction h with
 | refl=>exact⟨k,h2,.refl _⟩
 | step a b ih=>
  obtain⟨m,h3,h4⟩:=ih h2;exact⟨_,a,.step h3 h4⟩
theorem zjA {R S:Nat->Nat->Prop} {n:Nat} (hR:∀i k,R i k->i<=k) (h:∀i k,k<=n->R i k->S (n - k) (n - i)) {i k:Nat} (hs:zcR R i k):k<=n->zcR S (n - k) (n - i):=by
 induction hs with
 | refl=>exact fun _=>.refl _
 | step a b ih=>
  intro hk;have h1:=zbN hR b;exact(ih hk).trans (.step (h _ _ (by omega) a) (.refl _))
mutual
theorem ziG (c:List Int):∀(p:Pat) (i k:Nat),k<=c.length->led c p i k->led c.reverse (rev p) (c.length - k) (c.length - i)
 | .mk op cls kids,i,k,hk,h=>by
  have H:=zwU c kids;have HL:=zdJ c kids;unfold led at h;rw[rev];unfold led
  split at h
  ·rename_i e
   rw[if_pos e];obtain⟨h1,z,h2,h3⟩:=h;have hi:=(xa.1 h2).1;refine⟨by omega,z,?_,h3⟩
   rw[List.getElem?_reverse (by omega),show c.length - 1 - (c.length - k)=i by omega]
   exact h2
  ·rename_i e
   rw[if_neg e]
   split at h
   ·rename_i e
    rw[if_pos e,if_pos e];exact zow c kids i k hk h
   ·rename_i e
    rw[if_neg e,if_neg e]
    split at h
    ·rename_i e
     rw[if_pos e];exact zoy c kids i k hk h
    ·rename_i e
     rw[if_neg e]
     split at h
     ·rename_i e
      rw[if_pos e];exact zjA HL H h hk
     ·rename_i e
      rw[if_neg e]
      split at h
      ·rename_i e
       rw[if_pos e];obtain⟨j,h1,h2⟩:=h;have h3:=zbN HL h2;exact zri (zjA HL H h2 hk) (H _ _ (by omega) h1)
      ·rename_i e
       rw[if_neg e]
       split at h
       ·rename_i e
        rw[if_pos e]
        rcases h with h | h
        ·exact .inl (by omega)
        ·exact .inr (H _ _ hk h)
       ·rename_i e
        rw[if_neg e];omega
theorem zow (c:List Int):∀(ps:List Pat) (i k:Nat),k<=c.length->zcX c ps i k->zcX c.reverse (zpH ps).reverse (c.length - k) (c.length - i)
 | [],i,k,hk,h=>by
  rw[zbh] at h;rw[zpH,List.reverse_nil,zbh];omega
 | p::ps,i,k,hk,h=>by
  rw[zaY] at h;obtain⟨j,h1,h2⟩:=h;have h3:=zgj c ps _ _ h2;rw[zpH,List.reverse_cons,zfo,zaY,zbh,zuQ];exact⟨c.length - j,zow c ps j k hk h2,ziG c p i j (by omega) h1⟩
theorem zoy (c:List Int):∀(ps:List Pat) (i k:Nat),k<=c.length->zcn c ps i k->zcn c.reverse (zpH ps) (c.length - k) (c.length - i)
 | [],i,k,hk,h=>by unfold zcn at h;exact h.elim
 | p::ps,i,k,hk,h=>by
  rw[zpH];unfold zcn at h⊢
  rcases h with h | h
  ·exact .inl (ziG c p i k hk h)
  ·exact .inr (zoy c ps i k hk h)
theorem zwU (c:List Int):∀(ps:List Pat) (i k:Nat),k<=c.length->zdm c ps i k->zdm c.reverse (zpH ps) (c.length - k) (c.length - i)
 | [],i,k,hk,h=>by unfold zdm at h;exact h.elim
 | p::ps,i,k,hk,h=>by
  rw[zpH];unfold zdm at h⊢;exact ziG c p i k hk h
end
def zeS (p:Pat) (L:List Int):Prop:=∀(c:List Int) (i k:Nat),led c p i k->i<k->∃z,c[i]? =some z/\z∈L
def Nil (p:Pat):Prop:=∀(c:List Int) (i k:Nat),¬led c p i k
def zyh (ps:List Pat):Prop:=∀(c:List Int) (i k:Nat),¬zcX c ps i k
def Ful (p:Pat):Prop:=∀(c:List Int) (i:Nat),¬led c p i i
theorem zeS.mono {p:Pat} {L M:List Int} (h:zeS p L) (hm:∀z∈L,z∈M):zeS p M:=fun c i k h1 h2=>by
 obtain⟨z,h3,h4⟩:=h c i k h1 h2;exact⟨z,h3,hm z h4⟩
theorem zFU (cls:List Int) (kids:List Pat):zeS (.mk 1 cls kids) cls:=fun c i k h _=>by
 unfold led at h;rw[if_pos rfl] at h;exact h.2
theorem zBg (op:Int) (cls:List Int) (kids:List Pat) (h1:op≠1) (h2:op≠2) (h3:op≠3) (h4:op≠4) (h5:op≠5) (h6:op≠6):zeS (.mk op cls kids) []:=fun c i k h hlt=>by
 rw[zFF c cls kids op h1 h2 h3 h4 h5 h6] at h;have h:i=k:=h;omega
theorem zrk {R:Nat->Nat->Prop} {c L:List Int} (hR:∀i k,R i k->i<=k) (h:∀i k,R i k->i<k->∃z,c[i]? =some z/\z∈L) {i k:Nat} (hs:zcR R i k):i<k->∃z,c[i]? =some z/\z∈L:=by
 induction hs with
 | refl=>intro h;omega
 | step a b ih=>
  rename_i i j k
  intro hlt
  rcases xe (hR _ _ a) with e | e
  ·subst e;exact ih hlt
  ·exact h _ _ a e
theorem zBh (op:Int) (cls:List Int) (kids:List Pat) (L:List Int) (h1:op≠1) (h2:op≠2) (h:∀p∈kids,zeS p L):zeS (.mk op cls kids) L:=fun c i k hl hlt=>by
 have hO:∀ps:List Pat,(∀p∈ps,zeS p L)->∀i k,zcn c ps i k->i<k->∃z,c[i]? =some z/\z∈L:=by
  intro ps
  induction ps with
  | nil=>intro _ i k h;unfold zcn at h;exact h.elim
  | cons p ps ih=>
   intro hp i k h hlt;unfold zcn at h
   rcases h with h | h
   ·exact hp p (xp ..) c i k h hlt
   ·exact ih (fun q hq=>hp q (xv _ hq)) i k h hlt
 have hH:∀i k,zdm c kids i k->i<k->∃z,c[i]? =some z/\z∈L:=by
  intro i k h2 hlt
  cases kids with
  | nil=>unfold zdm at h2;exact h2.elim
  | cons p ps=>
   rw[zoA] at h2;exact h p (xp ..) c i k h2 hlt
 unfold led at hl;rw[if_neg h1,if_neg h2] at hl
 split at hl
 ·exact hO kids h i k hl hlt
 ·split at hl
  ·exact zrk (zdJ c kids) hH hl hlt
  ·split at hl
   ·obtain⟨j,h3,h4⟩:=hl
    rcases xe (zdJ c kids _ _ h3) with e | e
    ·subst e;exact zrk (zdJ c kids) hH h4 hlt
    ·exact hH _ _ h3 e
   ·split at hl
    ·rcases hl with hl | hl
     ·omega
     ·exact hH _ _ hl hlt
    ·omega
def FsT (kids:List Pat) (j:Nat) (L:List Int):Prop:=∀(c:List Int) (i k:Nat),zcX c kids i k->i<k->(∃z,c[i]? =some z/\z∈L)\/zcX c (kids.drop j) i k
theorem fst_0 (kids:List Pat):FsT kids 0 []:=fun _ _ _ h _=>.inr h
theorem zup {kids:List Pat} {j:Nat} {c:List Int} {i k:Nat} (hj:j<kids.length) (h:zcX c (kids.drop j) i k):∃m,led c kids[j] i m/\zcX c (kids.drop (j+1)) m k:=by
 rw[xh hj,zaY] at h;exact h
theorem ziO {kids:List Pat} {j:Nat} {L M:List Int} (hj:j<kids.length) (h:FsT kids j L) (hL:∀z∈L,z∈M) (h1:zeS kids[j] M\/Nil kids[j]\/zyh (kids.drop (j+1))):FsT kids (j+1) M:=fun c i k hl hlt=>by
 rcases h c i k hl hlt with ⟨z,h2,h3⟩ | h2
 ·exact .inl ⟨z,h2,hL z h3⟩
 ·obtain⟨m,h3,h4⟩:=zup hj h2
  rcases xe (zgi c _ _ _ h3) with e | e
  ·subst e;exact .inr h4
  ·rcases h1 with h1 | h1 | h1
   ·exact .inl (h1 c i m h3 e)
   ·exact absurd h3 (h1 _ _ _)
   ·exact absurd h4 (h1 _ _ _)
theorem ziN {kids:List Pat} {j:Nat} {L M:List Int} (hj:j<kids.length) (h:FsT kids j L) (hL:∀z∈L,z∈M) (h1:zeS kids[j] M\/Nil kids[j]\/zyh (kids.drop (j+1))) (h0:Ful kids[j]) (op:Int) (cls:List Int) (ho:op=2):zeS (.mk op cls kids) M:=fun c i k hl hlt=>by
 subst ho;rw[zwT] at hl
 rcases h c i k hl hlt with ⟨z,h2,h3⟩ | h2
 ·exact⟨z,h2,hL z h3⟩
 ·obtain⟨m,h3,h4⟩:=zup hj h2
  rcases xe (zgi c _ _ _ h3) with e | e
  ·subst e;exact absurd h3 (h0 _ _)
  ·rcases h1 with h1 | h1 | h1
   ·exact h1 c i m h3 e
   ·exact absurd h3 (h1 _ _ _)
   ·exact absurd h4 (h1 _ _ _)
theorem zBf {kids:List Pat} {L:List Int} (h:FsT kids kids.length L) (op:Int) (cls:List Int) (ho:op=2):zeS (.mk op cls kids) L:=fun c i k hl hlt=>by
 subst ho;rw[zwT] at hl
 rcases h c i k hl hlt with h2 | h2
 ·exact h2
 ·rw[List.drop_length,zbh] at h2
  omega
theorem zsd {ps:List Pat} {j:Nat} (hj:j<ps.length) (h:Nil ps[j]):zyh ps:=fun c i k hl=>by
 rw[<- List.take_append_drop j ps,zfo] at hl;obtain⟨m,_,h2⟩:=hl;obtain⟨q,h3,_⟩:=zup hj h2;exact h _ _ _ h3
theorem zAC (kids:List Pat):Nil (.mk 1 [] kids):=fun c i k h=>by
 unfold led at h;rw[if_pos rfl] at h;obtain⟨_,z,_,h2⟩:=h
 cases h2
theorem zww {cls:List Int} {kids:List Pat} (h:zyh kids):Nil (.mk 2 cls kids):=fun c i k hl=>by
 rw[zwT] at hl;exact h _ _ _ hl
theorem zCY {cls:List Int} {kids:List Pat} (h:∀p∈kids,Nil p):Nil (.mk 3 cls kids):=fun c i k hl=>by
 rw[zFH] at hl
 revert i k
 induction kids with
 | nil=>intro i k h;unfold zcn at h;exact h
 | cons p ps ih=>
  intro i k h2;unfold zcn at h2
  rcases h2 with h2 | h2
  ·exact h p (xp ..) _ _ _ h2
  ·exact ih (fun q hq=>h q (xv _ hq)) i k h2
theorem zwx {cls:List Int} {p:Pat} {ps:List Pat} (h:Nil p):Nil (.mk 5 cls (p::ps)):=fun c i k hl=>by
 rw[zFG] at hl;obtain⟨_,h1,_⟩:=hl;exact h _ _ _ h1
mutual
theorem ziH (c:List Int):∀(p:Pat) (i:Nat),led c p i i->led [] p 0 0
 | .mk op cls kids,i,h=>by
  have H:=zwV c kids;have HL:=zdJ c kids;unfold led at h⊢
  split at h
  ·omega
  ·rename_i e
   rw[if_neg e]
   split at h
   ·rename_i e
    rw[if_pos e];exact zox c kids i h
   ·rename_i e
    rw[if_neg e]
    split at h
    ·rename_i e
     rw[if_pos e];exact zoz c kids i h
    ·rename_i e
     rw[if_neg e]
     split at h
     ·rename_i e
      rw[if_pos e];exact .refl _
     ·rename_i e
      rw[if_neg e]
      split at h
      ·rename_i e
       rw[if_pos e];obtain⟨j,h1,h2⟩:=h;have h3:=HL _ _ h1;have h4:=zbN HL h2;obtain rfl:j=i:=by omega
       exact⟨0,H _ h1,.refl _⟩
      ·rename_i e
       rw[if_neg e]
       split at h
       ·rename_i e
        rw[if_pos e];exact .inl rfl
       ·rename_i e
        rw[if_neg e]
theorem zox (c:List Int):∀(ps:List Pat) (i:Nat),zcX c ps i i->zcX [] ps 0 0
 | [],i,h=>by rw[zbh]
 | p::ps,i,h=>by
  rw[zaY] at h⊢;obtain⟨j,h1,h2⟩:=h;have h3:=zgi c p _ _ h1;have h4:=zgj c ps _ _ h2;obtain rfl:j=i:=by omega
  exact⟨0,ziH c p _ h1,zox c ps _ h2⟩
theorem zoz (c:List Int):∀(ps:List Pat) (i:Nat),zcn c ps i i->zcn [] ps 0 0
 | [],i,h=>by unfold zcn at h;exact h.elim
 | p::ps,i,h=>by
  unfold zcn at h⊢
  rcases h with h | h
  ·exact .inl (ziH c p i h)
  ·exact .inr (zoz c ps i h)
theorem zwV (c:List Int):∀(ps:List Pat) (i:Nat),zdm c ps i i->zdm [] ps 0 0
 | [],i,h=>by unfold zdm at h;exact h.elim
 | p::ps,i,h=>by unfold zdm at h⊢;exact ziH c p i h
end
theorem zFT {p:Pat} (h:¬led [] p 0 0):Ful p:=fun c i hl=>h (ziH c p i hl)
end Pt
end
section
open Go.RowKit
namespace Pt
def Rs (cls:List Int):Prop:=∀(i:Nat) (z:Int),cls[i]? =some z->0<=z/\z<2147483647/\∀(y:Int),0<i->cls[i - 1]? =some y->y<z
def OkN (op:Int) (cls:List Int) (kn:Nat):Prop:=(op=1/\kn=0/\Rs cls)\/cls=[]/\((op=0/\kn=0)\/(op=2/\2<=kn)\/(op=3/\2<=kn)\/(op=4/\kn=1)\/(op=5/\kn=1)\/(op=6/\kn=1))
section
variable (lo:Option Addr) (ln lc kn kc:Nat) (ko:Option Addr) (w:World)
theorem zCX (op:Int) (hk9:kn<=1000000) (h:(op=0/\kn=0)\/(op=2/\2<=kn)\/(op=3/\2<=kn)\/(op=4/\kn=1)\/(op=5/\kn=1)\/(op=6/\kn=1)):
  Calls Tryz.prog 186 #[.agg #[.int .i64 op,.slice lo 0 lc,.slice ko kn kc],.int .i64 2147483647] w fun e w'=>e= .returned (.int .i64 0)/\Below w.heap.size w w':=by
 have HB:=hid (fun(o:Obj)=>below_box (w:=w) (o:=o))
 rcases h with ⟨rfl,rfl⟩ | ⟨rfl,h2⟩ | ⟨rfl,h2⟩ | ⟨rfl,rfl⟩ | ⟨rfl,rfl⟩ | ⟨rfl,rfl⟩
 ·go_enter Tryz.func186,Tryz.ntmps186
  go_wp2;go_loopw [7] (fun y wr=>y= .int .i64 0/\wr=w.alloc (.cells #[.int .i64 0,.slice lo 0 lc,.slice ko 0 kc] 105)) (fun y _=>0)
  case atStart=>exact⟨rfl,rfl⟩
  case round=>
   obtain⟨rfl,rfl⟩:=hrel;go_wp2;go_ret;exact⟨rfl,HB.out _⟩
 ·have k1:(2:Int)<=(kn:Int):=by omega
  have k3:((kn:Int)==1)=false:=by simp;omega
  go_enter Tryz.func186,Tryz.ntmps186;go_wp2;go_loopw [7] (fun y wr=>y= .int .i64 0/\wr=w.alloc (.cells #[.int .i64 2,.slice lo 0 lc,.slice ko kn kc] 105)) (fun y _=>0)
  case atStart=>exact⟨rfl,rfl⟩
  case round=>
   obtain⟨rfl,rfl⟩:=hrel;go_wp2;go_ret;exact⟨rfl,HB.out _⟩
 ·have k1:(2:Int)<=(kn:Int):=by omega
  have k3:((kn:Int)==1)=false:=by simp;omega
  go_enter Tryz.func186,Tryz.ntmps186;go_wp2;go_loopw [7] (fun y wr=>y= .int .i64 0/\wr=w.alloc (.cells #[.int .i64 3,.slice lo 0 lc,.slice ko kn kc] 105)) (fun y _=>0)
  case atStart=>exact⟨rfl,rfl⟩
  case round=>
   obtain⟨rfl,rfl⟩:=hrel;go_wp2;go_ret;exact⟨rfl,HB.out _⟩
 ·go_enter Tryz.func186,Tryz.ntmps186
  go_wp2;go_loopw [7] (fun y wr=>y= .int .i64 0/\wr=w.alloc (.cells #[.int .i64 4,.slice lo 0 lc,.slice ko 1 kc] 105)) (fun y _=>0)
  case atStart=>exact⟨rfl,rfl⟩
  case round=>
   obtain⟨rfl,rfl⟩:=hrel;go_wp2;go_ret;exact⟨rfl,HB.out _⟩
 ·go_enter Tryz.func186,Tryz.ntmps186
  go_wp2;go_loopw [7] (fun y wr=>y= .int .i64 0/\wr=w.alloc (.cells #[.int .i64 5,.slice lo 0 lc,.slice ko 1 kc] 105)) (fun y _=>0)
  case atStart=>exact⟨rfl,rfl⟩
  case round=>
   obtain⟨rfl,rfl⟩:=hrel;go_wp2;go_ret;exact⟨rfl,HB.out _⟩
 ·go_enter Tryz.func186,Tryz.ntmps186
  go_wp2;go_loopw [7] (fun y wr=>y= .int .i64 0/\wr=w.alloc (.cells #[.int .i64 6,.slice lo 0 lc,.slice ko 1 kc] 105)) (fun y _=>0)
  case atStart=>exact⟨rfl,rfl⟩
  case round=>
   obtain⟨rfl,rfl⟩:=hrel;go_wp2;go_ret;exact⟨rfl,HB.out _⟩
theorem zCW (cls:List Int) (hln:ln=cls.length) (hl9:ln<=1000000) (hR:Rs cls) (hC:RdI w lo cls):
  Calls Tryz.prog 186 #[.agg #[.int .i64 1,.slice lo ln lc,.slice ko 0 kc],.int .i64 2147483647] w fun e w'=>e= .returned (.int .i64 0)/\Below w.heap.size w w':=by
 have HR:=hid hR;have HC:=hid hC;have HLN:=hid hln;clear hR hC hln;go_enter Tryz.func186,Tryz.ntmps186;go_wp2;obtain⟨w1,hw1⟩:∃w1,w1=w.alloc (.cells #[.int .i64 1,.slice lo ln lc,.slice ko 0 kc] 105):=⟨_,rfl⟩;have hb1:Below w.heap.size w w1:=by rw[hw1];exact below_box
 have x2:w1.cell? ⟨w.heap.size,1,none⟩=some (.slice lo ln lc):=by rw[hw1];simp[go_sem]
 have hs1:w.heap.size<w1.heap.size:=by rw[hw1];simp
 rw[<- hw1];have HB1:=hid hb1;have HX2:=hid x2;clear hw1 hb1 x2;go_loopw [7] (fun y wr=>∃i:Nat,y= .int .i64 i/\i<=ln/\Hid (Below w1.heap.size w1 wr)) (fun y _=>ln - (intOf y).toNat)
 case atStart=>exact⟨0,rfl,xf _,hid (Below.refl _ _)⟩
 case round=>
  obtain⟨i,rfl,hi,HB⟩:=hrel;have x2:wr.cell? ⟨w.heap.size,1,none⟩=some (.slice lo ln lc):=(HB.out.cell (p:=⟨w.heap.size,1,none⟩) hs1).trans HX2.out;have HBw:=hid (HB1.out.trans (HB.out.mono HB1.out.size))
  by_cases hlt:i<ln
  ·have i0:(0:Int)<=(i:Int):=by omega
   have i1:(i:Int)<(ln:Int):=by omega
   have hil:i<cls.length:=by have:=HLN.out;omega
   obtain⟨a,ha1,ha,c1⟩:=HC.out.at hil;have c2:wr.cell? (a.add i)=some (.int .i64 cls[i]):=(HBw.out.cell (p:=a.add i) (by rw[add_blk];exact ha)).trans c1
   obtain⟨z,hz⟩:∃z,z=cls[i]:=⟨_,rfl⟩;have hgz:cls[i]? =some z:=by rw[hz];exact xb hil
   rw[<- hz] at c2;obtain⟨r1,r2,r3⟩:=HR.out i z hgz;clear c1 hz;have d1:decide (z<0)=false:=decide_eq_false (by omega)
   have d2:decide ((2147483647:Int)<=z)=false:=decide_eq_false (by omega)
   have n1:¬z<0:=by omega
   have n2:¬(2147483647:Int)<=z:=by omega
   by_cases hi0:i=0
   ·subst hi0
    subst ha1;have c5:wr.cell? a=some (.int .i64 z):=by
     have e:a.add 0=a:=by unfold Addr.add;split<;>simp_all
     rw[e] at c2;exact c2
    have i5:(0:Int)<(ln:Int):=by omega
    clear hgz r3 c2 i1 i0;go_wp2_with fail;go_quiet (fail);have HBd:=hid (show Below w1.heap.size w1 (wr.drewN nq) from⟨HB.out.os,HB.out.tape,HB.out.output,HB.out.size,HB.out.block⟩)
    go_wp2;go_roundw
    case rel=>exact⟨1,by go_num,by omega,HBd⟩
    case measure=>simp[intOf];omega
   ·have hj:i - 1<cls.length:=by omega
    obtain⟨a2,ha2,hb2,c3⟩:=HC.out.at hj;rw[ha1] at ha2
    cases ha2
    have c4:wr.cell? (a.add (i - 1))=some (.int .i64 cls[i - 1]):=(HBw.out.cell (p:=a.add (i - 1)) (by rw[add_blk];exact ha)).trans c3
    obtain⟨y,hy⟩:∃y,y=cls[i - 1]:=⟨_,rfl⟩;have hgy:cls[i - 1]? =some y:=by rw[hy];exact xb hj
    rw[<- hy] at c4;have r4:=r3 y (by omega) hgy
    subst ha1;clear c3 hy hgz hgy r3;have d3:decide ((0:Int)<(i:Int))=true:=decide_eq_true (by omega)
    have n3:(0:Int)<(i:Int):=by omega
    have n3':0<i:=by omega
    have d4:decide (z<=y)=false:=decide_eq_false (by omega)
    have n4:¬z<=y:=by omega
    have e1:((i:Int) - 1).toNat=i - 1:=by omega
    have e2:(0:Int)<=(i:Int) - 1:=by omega
    have e3:(i:Int) - 1<(ln:Int):=by omega
    have e4:IntKind.i64.wrap ((i:Int) - 1)=(i:Int) - 1:=by unfold IntKind.wrap IntKind.bits IntKind.signed;simp;omega
    clear hi0;go_wp2_with fail;go_quiet (fail);have HBd:=hid (show Below w1.heap.size w1 (wr.drewN nq) from⟨HB.out.os,HB.out.tape,HB.out.output,HB.out.size,HB.out.block⟩)
    go_wp2;go_roundw
    case rel=>exact⟨i+1,by go_num,by omega,HBd⟩
    case measure=>simp[intOf];omega
  ·have i1:¬(i:Int)<(ln:Int):=by omega
   go_wp2;go_ret;exact⟨rfl,HBw.out⟩
end
end Pt
end
section
open Go.RowKit
namespace Pt
mutual
def szP:Pat->Nat
 | .mk _ _ kids=>szL kids+1
def szL:List Pat->Nat
 | []=>0
 | p::ps=>szP p+szL ps
end
mutual
def OkP:Pat->Prop
 | .mk op cls kids=>OkN op cls kids.length/\OkL kids
def OkL:List Pat->Prop
 | []=>True
 | p::ps=>OkP p/\OkL ps
end
theorem OkL.mem:∀{ps:List Pat} {p:Pat},OkL ps->p∈ps->OkP p
 | [],p,_,hp=>by cases hp
 | q::ps,p,h,hp=>by
  unfold OkL at h
  cases hp with
  | head=>exact h.1
  | tail _ hp=>exact OkL.mem h.2 hp
mutual
theorem OkP.wf:∀{p:Pat},OkP p->Wf p
 | .mk op cls kids,h=>by
  unfold OkP at h;unfold Wf;refine⟨fun h456 e=>?_,OkL.wf h.2⟩
  obtain⟨h1,_⟩:=h;subst e;unfold OkN at h1
  simp only[List.length_nil] at h1
  rcases h1 with ⟨h1,_⟩ | ⟨_,h1⟩<;>omega
theorem OkL.wf:∀{ps:List Pat},OkL ps->WfL ps
 | [],_=>by unfold WfL;trivial
 | q::ps,h=>by
  unfold OkL at h;unfold WfL;exact⟨OkP.wf h.1,OkL.wf h.2⟩
end
theorem zcA:∀(ps:List Pat) (j:Nat) (p:Pat),ps[j]? =some p->szL (ps.take (j+1))=szL (ps.take j)+szP p
 | [],j,p,h=>by simp at h
 | q::ps,0,p,h=>by simp at h;subst h;simp[szL]
 | q::ps,j+1,p,h=>by
  have:=zcA ps j p (by simpa using h)
  simp only[xx,szL,this]
  omega
theorem zdB:∀(ps:List Pat) (j:Nat),szL (ps.take j)<=szL ps
 | [],j=>by simp[szL]
 | q::ps,0=>by simp[szL]
 | q::ps,j+1=>by
  have:=zdB ps j
  simp only[xx,szL]
  omega
def CkQ (w:World) (n:Nat) (e:Ending) (w':World):Prop:=e= .returned (.tuple #[.int .i64 0,.int .i64 (n:Int)])/\Below w.heap.size w w'
set_option maxRecDepth 100000 in
theorem check_in (lo ko:Option Addr) (ln lc kn kc:Nat) (op:Int) (w:World) (ahead:Nat) (S:Nat->Nat) (hk9:kn<=1000000) (h1:ahead<2048) (hS:∀j,j<=kn->S j<=3000) (HS0:Hid (S 0=ahead+1))
  (HN:Hid (∀W,Below w.heap.size w W->Calls Tryz.prog 186 #[.agg #[.int .i64 op,.slice lo ln lc,.slice ko kn kc],.int .i64 2147483647] W fun e w'=>e= .returned (.int .i64 0)/\Below W.heap.size W w'))
  (HK:Hid (∀j,j<kn->∃b o u0 u1 u2,ko=some ⟨b,o,none⟩/\b<w.heap.size/\w.cell? ⟨b,o+j * 3,none⟩=some u0/\w.cell? ⟨b,o+j * 3+1,none⟩=some u1/\w.cell? ⟨b,o+j * 3+2,none⟩=some u2/\∀W,Below w.heap.size w W->Calls Tryz.prog 171 #[.agg #[u0,u1,u2],.int .i64 2147483647,.int .i64 (S j)] W (CkQ W (S (j+1))))):
  Calls Tryz.prog 171 #[.agg #[.int .i64 op,.slice lo ln lc,.slice ko kn kc],.int .i64 2147483647,.int .i64 ahead] w (CkQ w (S kn)):=by
 have a1:(ahead:Int)<2048:=by omega
 have HS:=hid hS;clear hS;go_enter Tryz.func171,Tryz.ntmps171;go_wp2_with fail;obtain⟨w1,hw1⟩:∃w1,w1=w.alloc (.cells #[.int .i64 op,.slice lo ln lc,.slice ko kn kc] 105):=⟨_,rfl⟩;have hb1:Below w.heap.size w w1:=by rw[hw1];exact below_box
 have x2:w1.cell? ⟨w.heap.size,2,none⟩=some (.slice ko kn kc):=by rw[hw1];simp[go_sem]
 have hs1:w.heap.size<w1.heap.size:=by rw[hw1];simp
 rw[<- hw1];have HB1:=hid hb1;have HX2:=hid x2;clear hw1 hb1 x2;refine(HN.out w1 HB1.out).mono ?_;rintro e w2 ⟨rfl,hB2⟩;have HB2:=hid hB2;clear hB2;go_wp2;go_loopw [8,9,10] (fun x y z wr=>∃(j s:Nat),x= .int .i64 0/\y= .int .i64 s/\z= .int .i64 j/\j<=kn/\s<=3000/\Hid (s=S j)/\Hid (Below w1.heap.size w1 wr)) (fun _ _ z _=>kn - (intOf z).toNat)
 case atStart=>exact⟨0,ahead+1,rfl,by go_num,rfl,xf _,by omega,hid HS0.out.symm,HB2⟩
 case round=>
  clear HB2;obtain⟨j,s,rfl,rfl,rfl,hj,hs9,HSj,HB⟩:=hrel;have x2:wr.cell? ⟨w.heap.size,2,none⟩=some (.slice ko kn kc):=(HB.out.cell (p:=⟨w.heap.size,2,none⟩) hs1).trans HX2.out;have HBw:=hid (HB1.out.trans (HB.out.mono HB1.out.size))
  by_cases hlt:j<kn
  ·have j0:(0:Int)<=(j:Int):=by omega
   have j1:(j:Int)<(kn:Int):=by omega
   obtain⟨b,o,u0,u1,u2,rfl,hb,q0,q1,q2,hL⟩:=HK.out j hlt;have y0:wr.cell? ⟨b,o+j * 3,none⟩=some u0:=(HBw.out.cell (p:=⟨b,o+j * 3,none⟩) hb).trans q0;have y1:wr.cell? ⟨b,o+j * 3+1,none⟩=some u1:=(HBw.out.cell (p:=⟨b,o+j * 3+1,none⟩) hb).trans q1;have y2:wr.cell? ⟨b,o+j * 3+2,none⟩=some u2:=(HBw.out.cell (p:=⟨b,o+j * 3+2,none⟩) hb).trans q2;rw[<- HSj.out] at hL;have HL:=hid hL;clear q0 q1 q2 hL;go_wp2_with fail;refine(HL.out wr HBw.out).mono ?_;rintro e w3 ⟨rfl,hB3⟩;have HB3:=hid (HB.out.trans (hB3.mono HB.out.size));clear hB3 y0 y1 y2 x2;go_wp2;go_roundw
   case rel=>exact⟨j+1,S (j+1),rfl,rfl,by go_num,by omega,HS.out _ (by omega),hid rfl,HB3⟩
   case measure=>simp[intOf];omega
  ·have j1:¬(j:Int)<(kn:Int):=by omega
   have HQ:=hid (show CkQ w (S kn) (.returned (.tuple #[.int .i64 0,.int .i64 s])) wr from⟨by rw[HSj.out,show j=kn by omega],HBw.out⟩)
   go_wp2;go_ret2;exact HQ.out
end Pt
end
section
open Go.RowKit
namespace Pt
theorem zuX:∀p:Pat,OkP p->∀(v0 v1 v2:Value) (ahead:Nat) (w:World),RdP w p v0 v1 v2->ahead+szP p<=2048->Calls Tryz.prog 171 #[.agg #[v0,v1,v2],.int .i64 2147483647,.int .i64 ahead] w (CkQ w (ahead+szP p)):=by
 refine Pat.ind fun op cls kids ih hO v0 v1 v2 ahead w hP hs=>?_
 unfold RdP at hP;unfold OkP at hO;unfold szP at hs⊢;obtain⟨rfl,⟨lo,lc,rfl,hl1,hl2⟩,ko,kc,rfl,hk1,hk2,_⟩:=hP;have h:=check_in lo ko cls.length lc kids.length kc op w ahead (fun j=>ahead+1+szL (kids.take j)) hk2 (by omega) (fun j _=>by have:=zdB kids j;omega) (hid (by simp[szL])) (hid fun W hW=>?_) (hid fun j hj=>?_)
 ·have e:ahead+1+szL (kids.take kids.length)=ahead+(szL kids+1):=by rw[List.take_length];omega
  rw[e] at h;exact h
 ·obtain⟨h1,_⟩:=hO
  rcases h1 with ⟨rfl,h2,h3⟩ | ⟨rfl,h2⟩
  ·rw[h2]
   exact zCW lo cls.length lc kc ko W cls rfl hl2 h3 (hl1.below hW)
  ·exact zCX lo lc kids.length kc ko W op hk2 h2
 ·obtain⟨b,o,h1,h2,u0,u1,u2,q0,q1,q2,hq⟩:=RdK.at kids ko 0 j _ hk1 (xb hj)
  rw[xB] at q0 q1 q2;refine⟨b,o,u0,u1,u2,h1,h2,q0,q1,q2,fun W hW=>?_⟩
  have e:=zcA kids j _ (xb hj);have e2:=zdB kids (j+1);have:=ih _ (xk hj) (hO.2.mem (xk hj)) u0 u1 u2 (ahead+1+szL (kids.take j)) W (RdP.below hW _ _ _ _ hq) (by omega)
  rw[show ahead+1+szL (kids.take j)+szP kids[j]=ahead+1+szL (kids.take (j+1)) by omega] at this
  exact this
theorem zqz (p:Pat) (hO:OkP p) (hs:szP p<=2048) (v0 v1 v2:Value) (w:World) (hP:RdP w p v0 v1 v2):Calls Tryz.prog 148 #[.agg #[v0,v1,v2],.int .i64 2147483647] w fun e w'=>e= .returned (.int .i64 0)/\Below w.heap.size w w':=by
 have HC:=hid (fun(W:World) (h:Below w.heap.size w W)=>zuX p hO v0 v1 v2 0 W (RdP.below h _ _ _ _ hP) (by omega))
 clear hP;go_enter Tryz.func148,Tryz.ntmps148;go_wp2_with fail;refine(HC.out _ below_box).mono ?_;rintro e w2 ⟨rfl,hB2⟩;have HB:=hid (below_box.trans (hB2.mono (by simp)))
 clear hB2;go_wp2;go_ret;exact⟨rfl,HB.out⟩
theorem zdq (p:Pat) (hO:OkP p) (hs:szP p<=2048) (v0 v1 v2:Value) (w:World) (hP:RdP w p v0 v1 v2):Calls Tryz.prog 111 #[.agg #[v0,v1,v2]] w fun e w'=>e= .returned (.bool true)/\Below w.heap.size w w':=by
 have HC:=hid (fun(W:World) (h:Below w.heap.size w W)=>zqz p hO hs v0 v1 v2 W (RdP.below h _ _ _ _ hP))
 clear hP;go_enter Tryz.func111,Tryz.ntmps111;go_wp2_with fail;refine(HC.out _ below_box).mono ?_;rintro e w2 ⟨rfl,hB2⟩;have HB:=hid (below_box.trans (hB2.mono (by simp)))
 clear hB2;go_wp2;go_ret;exact⟨rfl,HB.out⟩
def zmR (L:List Nat):List Value:=L.map fun(x:Nat)=>.int .i64 (x:Int)
open Classical in
noncomputable def flt (A:Nat->Prop) (n:Nat):List Nat:=(List.range n).filter fun i=>decide (A i)
theorem zFV (A:Nat->Prop):flt A 0=[]:=rfl
open Classical in
theorem zfr (A:Nat->Prop) (n:Nat):flt A (n+1)=if A n then flt A n++[n] else flt A n:=by
 unfold flt;rw[List.range_succ,List.filter_append]
 by_cases h:A n
 ·simp[h]
 ·simp[h]
theorem zmU (A:Nat->Prop) (n:Nat):(flt A n).length<=n:=by
 unfold flt;exact xC (List.length_filter_le _ _) (by simp)
theorem zmT (A:Nat->Prop) (n x:Nat):x∈flt A n ↔ x<n/\A x:=by simp[flt]
theorem zkB {A B:Nat->Prop} {n:Nat} (h:∀i,i<n->(A i ↔ B i)):flt A n=flt B n:=by
 unfold flt
 apply List.filter_congr
 intro i hi;rw[List.mem_range] at hi
 simp[h i hi]
def LsQ (w:World) (L:List Nat) (e:Ending) (w':World):Prop:=∃(vo:Option Addr) (vc:Nat),e= .returned (.slice vo L.length vc)/\w'.ownsRow w.heap.size 3 1 (.slice vo L.length vc) L.length (zmR L)/\Below w.heap.size w w'
theorem zoJ (L:List Nat):∀v∈zmR L,v.oneCell'=true:=fun v hv=>by
 unfold zmR at hv;obtain⟨x,_,rfl⟩:=xn.1 hv
 rfl
theorem zyH (w:World) (v:Value) (T:TypeId):∀j u,[v][j]? =some u->(w.alloc (.cells #[v] T)).cell? ((⟨w.heap.size,0,none⟩:Addr).add j)=some u:=World.news_of_block (cs:=#[v]) (heap_alloc_new w _)
theorem Tryz.info3:(Tryz.prog.info? 3).map (fun i=>(i.zero,i.size,i.bytes))=some (some (.int .i64 0),1,8):=by kernel_rfl
theorem Tryz.underInts:Tryz.prog.underlying 23=some (.slice 3):=by kernel_rfl
theorem zka {w wr w8:World} {v:Value} {o:Obj} {B n:Nat} {xs:List Value} (hB:Below w.heap.size w wr) (hB0:B=w.heap.size) (own:wr.ownsRow B 3 1 v n xs) (gr:World.grownBy (wr.alloc o) w8 v.ownBlock):Below w.heap.size w w8:=by
 subst hB0;have hs:=hB.size;have h1:Below w.heap.size w (wr.alloc o):=hB.alloc hs _;refine h1.grown gr (by simp;omega) fun k hk=>?_
 rcases own.2 with ⟨rfl,_⟩ | ⟨g,cap,cur,rfl,h2,_⟩
 ·cases hk
 ·cases hk;exact h2
theorem zpC (p:Pat) (hO:OkP p) (hs:szP p<=2048) (v0 v1 v2:Value) (c:List Int) (co:Option Addr) (cn cc:Nat) (hcn:cn=c.length) (hc:cn<=90000) (w:World) (hP:RdP w p v0 v1 v2) (hI:RdI w co c):
  Calls Tryz.prog 112 #[.agg #[v0,v1,v2],.slice co cn cc] w (LsQ w (flt (fun i=>led c p i cn) (cn+1))):=by
 have HG:=hid (fun(W:World) (h:Below w.heap.size w W)=>zdq p hO hs v0 v1 v2 W (RdP.below h _ _ _ _ hP))
 have HL:=hid (fun(W:World) (h:Below w.heap.size w W)=>zkq c cn ((cn+1) / 64) hcn hc rfl co cc p hO.wf v0 v1 v2 W (RdP.below h _ _ _ _ hP) (hI.below h))
 clear hP hI hcn;obtain⟨i0,hi3,hz0,hz1,hz2⟩:=info_parts Tryz.info3;have HI3:=hid (xt hi3 (xt hz0 (xt hz1 hz2)));clear hi3 hz0 hz1 hz2;obtain⟨m,hm⟩:∃m,m=(cn+1) / 64:=⟨_,rfl⟩;rw[<- hm] at HL;have HMm:=hid hm;clear hm;go_enter Tryz.func112,Tryz.ntmps112;go_wp2_with fail;obtain⟨w1,hw1⟩:∃w1,w1=w.alloc (.cells #[v0,v1,v2] 105):=⟨_,rfl⟩;have hb1:Below w.heap.size w w1:=by rw[hw1];exact below_box
 have x0:w1.cell? ⟨w.heap.size,0,none⟩=some v0:=by rw[hw1];simp[go_sem]
 have x1:w1.cell? ⟨w.heap.size,1,none⟩=some v1:=by rw[hw1];simp[go_sem]
 have x2:w1.cell? ⟨w.heap.size,2,none⟩=some v2:=by rw[hw1];simp[go_sem]
 have hs1:w.heap.size<w1.heap.size:=by rw[hw1];simp
 rw[<- hw1];have HB1:=hid hb1;clear hw1 hb1;refine(HG.out w1 HB1.out).mono ?_;rintro e w2 ⟨rfl,hB2⟩;have y0:=(hB2.cell (p:=⟨w.heap.size,0,none⟩) hs1).trans x0;have y1:=(hB2.cell (p:=⟨w.heap.size,1,none⟩) hs1).trans x1;have y2:=(hB2.cell (p:=⟨w.heap.size,2,none⟩) hs1).trans x2;have HB2:=hid (HB1.out.trans (hB2.mono HB1.out.size));clear hB2 x0 x1 x2;go_wp2_with fail;refine(HL.out w2 HB2.out).mono ?_;rintro e w3 ⟨W,⟨g,cap,bs,rfl,hM3,hB3⟩,hR3⟩;have HM3:=hid hM3;have HB3:=hid (HB2.out.trans (hB3.mono HB2.out.size));have HR3:=hid hR3;clear hM3 hB3 hR3 y0 y1 y2;go_wp2;go_loopw [6,7] (fun x y wr=>∃(i n:Nat) (vo:Option Addr) (vc:Nat),x= .slice vo n vc/\y= .int .i64 i/\i<=cn+1/\n<=i/\Hid (n=(flt (fun i=>led c p i cn) i).length)/\Hid (wr.ownsRow w3.heap.size 3 1 (.slice vo n vc) n (zmR (flt (fun i=>led c p i cn) i)))/\Hid (Below w3.heap.size w3 wr)) (fun _ y _=>cn+1 - (intOf y).toNat)
 case atStart=>exact⟨0,0,none,0,rfl,rfl,xf _,xq _,hid rfl,hid (by rw[zFV];exact World.ownsRow_nil _ _ _ _),hid (Below.refl _ _)⟩
 case round=>
  obtain⟨i,n,vo,vc,rfl,rfl,hi,hni,HN,HO,HB⟩:=hrel
  by_cases hlt:i<cn+1
  ·have i0':(0:Int)<=(i:Int):=by omega
   have i1:(i:Int)<=(cn:Int):=by omega
   have i2:(i:Int)<(cn:Int)+1:=by omega
   have HM:=hid (HM3.out.below HB.out);have c1:=HM.out.cell i hlt;have hq:cn / 64<m+1:=by have:=HMm.out;have:=xw (c:=64) (show cn<=cn+1 by omega);omega
   have HH:=hid (ziK (bs i) (m+1) cn _ wr (HM.out.row i hlt) hq (HM.out.bd i _ hlt hq) (by omega))
   have HRi:=hid (HR3.out i cn hlt (by omega))
   clear hq;go_wp2_with fail;refine HH.out.mono ?_;rintro e w4 ⟨rfl,e4⟩;obtain rfl:=e4.symm
   by_cases hb:bt (W i) cn=true
   ·rw[hb]
    have HF:=hid (show flt (fun i=>led c p i cn) (i+1)=flt (fun i=>led c p i cn) i++[i] from by rw[zfr,if_pos (HRi.out.1 hb)])
    clear hb c1 HH;go_wp2_with (at_builtin;refine wpList_append_lies _ rfl _ _ 23 rfl w3.heap.size 3 i0 (.int .i64 0) 1 8 Tryz.underInts HI3.out.1 HI3.out.2.1 HI3.out.2.2.1 HI3.out.2.2.2 rfl (by decide) (.slice vo n vc) n (zmR (flt (fun i=>led c p i cn) i)) rfl (HO.out.alloc _) ⟨wr.heap.size,0,none⟩ 1 1 [.int .i64 (i:Int)] rfl rfl (zyH wr _ _) (zoJ [i]) (by decide) (by unfold maxLen;omega) (by omega) (by have:=HB.out.size;simp;omega) (wr.heap.size+1) (by simp) ?_;intro g8 c8 w8 o8 gr8 hl8 hlt8;have HO8:=hid o8;have HB8:=hid (zka HB.out rfl HO.out gr8);clear o8 gr8 hl8 hlt8)
    go_roundw
    case rel=>exact⟨i+1,n+1,_,_,rfl,by go_num,by omega,by omega,hid (by rw[HF.out,xz,HN.out];rfl),hid (by rw[HF.out];unfold zmR;rw[xF];exact HO8.out),HB8⟩
    case measure=>simp[intOf];omega
   ·have hb':bt (W i) cn=false:=by simpa using hb
    rw[hb'];have HF:=hid (show flt (fun i=>led c p i cn) (i+1)=flt (fun i=>led c p i cn) i from by rw[zfr,if_neg (fun h=>hb (HRi.out.2 h))])
    clear hb hb' c1 HH;go_wp2;go_roundw
    case rel=>exact⟨i+1,n,vo,vc,rfl,by go_num,by omega,by omega,hid (by rw[HF.out];exact HN.out),hid (by rw[HF.out];exact HO.out),HB⟩
    case measure=>simp[intOf];omega
  ·have i1:¬(i:Int)<=(cn:Int):=by omega
   have HQ:=hid (show LsQ w (flt (fun i=>led c p i cn) (cn+1)) (.returned (.slice vo n vc)) wr from by
    have e:i=cn+1:=by omega
    have h1:=HN.out;have h2:=HO.out;rw[e] at h1 h2;refine⟨vo,vc,by rw[h1],?_,HB3.out.trans (HB.out.mono HB3.out.size)⟩
    rw[h1] at h2;exact⟨h2.1,h2.2.imp (fun h=>h) fun⟨g,cap,cur,a1,a2,a3⟩=>⟨g,cap,cur,a1,xC HB3.out.size a2,a3⟩⟩)
   go_wp2;go_ret;exact HQ.out
end Pt
end
section
open Go.RowKit
namespace Pt
theorem zpa (p:Pat) (hO:OkP p) (hs:szP p<=2048) (v0 v1 v2:Value) (c:List Int) (co:Option Addr) (cn cc:Nat) (hcn:cn=c.length) (hc:cn<=90000) (w:World) (hP:RdP w p v0 v1 v2) (hI:RdI w co c):
  Calls Tryz.prog 113 #[.agg #[v0,v1,v2],.slice co cn cc] w (LsQ w (flt (fun i=>led c p 0 i) (cn+1))):=by
 have HG:=hid (fun(W:World) (h:Below w.heap.size w W)=>zdq p hO hs v0 v1 v2 W (RdP.below h _ _ _ _ hP))
 have HL:=hid (fun(W:World) (h:Below w.heap.size w W)=>zkq c cn ((cn+1) / 64) hcn hc rfl co cc p hO.wf v0 v1 v2 W (RdP.below h _ _ _ _ hP) (hI.below h))
 clear hP hI hcn;obtain⟨i0,hi3,hz0,hz1,hz2⟩:=info_parts Tryz.info3;have HI3:=hid (xt hi3 (xt hz0 (xt hz1 hz2)));clear hi3 hz0 hz1 hz2;obtain⟨m,hm⟩:∃m,m=(cn+1) / 64:=⟨_,rfl⟩;rw[<- hm] at HL;have HMm:=hid hm;clear hm;go_enter Tryz.func113,Tryz.ntmps113;go_wp2_with fail;obtain⟨w1,hw1⟩:∃w1,w1=w.alloc (.cells #[v0,v1,v2] 105):=⟨_,rfl⟩;have hb1:Below w.heap.size w w1:=by rw[hw1];exact below_box
 have x0:w1.cell? ⟨w.heap.size,0,none⟩=some v0:=by rw[hw1];simp[go_sem]
 have x1:w1.cell? ⟨w.heap.size,1,none⟩=some v1:=by rw[hw1];simp[go_sem]
 have x2:w1.cell? ⟨w.heap.size,2,none⟩=some v2:=by rw[hw1];simp[go_sem]
 have hs1:w.heap.size<w1.heap.size:=by rw[hw1];simp
 rw[<- hw1];have HB1:=hid hb1;clear hw1 hb1;refine(HG.out w1 HB1.out).mono ?_;rintro e w2 ⟨rfl,hB2⟩;have y0:=(hB2.cell (p:=⟨w.heap.size,0,none⟩) hs1).trans x0;have y1:=(hB2.cell (p:=⟨w.heap.size,1,none⟩) hs1).trans x1;have y2:=(hB2.cell (p:=⟨w.heap.size,2,none⟩) hs1).trans x2;have HB2:=hid (HB1.out.trans (hB2.mono HB1.out.size));clear hB2 x0 x1 x2;go_wp2_with fail;refine(HL.out w2 HB2.out).mono ?_;rintro e w3 ⟨W,⟨g,cap,bs,rfl,hM3,hB3⟩,hR3⟩;have HM3:=hid hM3;have z1:=hM3.cell 0 (by omega)
 have HB3:=hid (HB2.out.trans (hB3.mono HB2.out.size));have HR3:=hid hR3;clear hM3 hB3 hR3 y0 y1 y2;have z2:(0:Int)<(cn:Int)+1:=by omega
 have z3:0<cn+1:=by omega
 go_wp2;clear z1 z2 z3;go_loopw [6,7] (fun x y wr=>∃(i n:Nat) (vo:Option Addr) (vc:Nat),x= .slice vo n vc/\y= .int .i64 i/\i<=cn+1/\n<=i/\Hid (n=(flt (fun i=>led c p 0 i) i).length)/\Hid (wr.ownsRow w3.heap.size 3 1 (.slice vo n vc) n (zmR (flt (fun i=>led c p 0 i) i)))/\Hid (Below w3.heap.size w3 wr)) (fun _ y _=>cn+1 - (intOf y).toNat)
 case atStart=>exact⟨0,0,none,0,rfl,rfl,xf _,xq _,hid rfl,hid (by rw[zFV];exact World.ownsRow_nil _ _ _ _),hid (Below.refl _ _)⟩
 case round=>
  obtain⟨i,n,vo,vc,rfl,rfl,hi,hni,HN,HO,HB⟩:=hrel
  by_cases hlt:i<cn+1
  ·have i0':(0:Int)<=(i:Int):=by omega
   have i1:(i:Int)<=(cn:Int):=by omega
   have i2:(i:Int)<(cn:Int)+1:=by omega
   have HM:=hid (HM3.out.below HB.out);have hq:i / 64<m+1:=by have:=HMm.out;have:=xw (c:=64) (show i<=cn+1 by omega);omega
   have HH:=hid (ziK (bs 0) (m+1) i _ wr (HM.out.row 0 (by omega)) hq (HM.out.bd 0 _ (by omega) hq) (by omega))
   have HRi:=hid (HR3.out 0 i (by omega) hlt)
   clear hq;go_wp2_with fail;refine HH.out.mono ?_;rintro e w4 ⟨rfl,e4⟩;obtain rfl:=e4.symm
   by_cases hb:bt (W 0) i=true
   ·rw[hb]
    have HF:=hid (show flt (fun i=>led c p 0 i) (i+1)=flt (fun i=>led c p 0 i) i++[i] from by rw[zfr,if_pos (HRi.out.1 hb)])
    clear hb HH;go_wp2_with (at_builtin;refine wpList_append_lies _ rfl _ _ 23 rfl w3.heap.size 3 i0 (.int .i64 0) 1 8 Tryz.underInts HI3.out.1 HI3.out.2.1 HI3.out.2.2.1 HI3.out.2.2.2 rfl (by decide) (.slice vo n vc) n (zmR (flt (fun i=>led c p 0 i) i)) rfl (HO.out.alloc _) ⟨wr.heap.size,0,none⟩ 1 1 [.int .i64 (i:Int)] rfl rfl (zyH wr _ _) (zoJ [i]) (by decide) (by unfold maxLen;omega) (by omega) (by have:=HB.out.size;simp;omega) (wr.heap.size+1) (by simp) ?_;intro g8 c8 w8 o8 gr8 hl8 hlt8;have HO8:=hid o8;have HB8:=hid (zka HB.out rfl HO.out gr8);clear o8 gr8 hl8 hlt8)
    go_roundw
    case rel=>exact⟨i+1,n+1,_,_,rfl,by go_num,by omega,by omega,hid (by rw[HF.out,xz,HN.out];rfl),hid (by rw[HF.out];unfold zmR;rw[xF];exact HO8.out),HB8⟩
    case measure=>simp[intOf];omega
   ·have hb':bt (W 0) i=false:=by simpa using hb
    rw[hb'];have HF:=hid (show flt (fun i=>led c p 0 i) (i+1)=flt (fun i=>led c p 0 i) i from by rw[zfr,if_neg (fun h=>hb (HRi.out.2 h))])
    clear hb hb' HH;go_wp2;go_roundw
    case rel=>exact⟨i+1,n,vo,vc,rfl,by go_num,by omega,by omega,hid (by rw[HF.out];exact HN.out),hid (by rw[HF.out];exact HO.out),HB⟩
    case measure=>simp[intOf];omega
  ·have i1:¬(i:Int)<=(cn:Int):=by omega
   have HQ:=hid (show LsQ w (flt (fun i=>led c p 0 i) (cn+1)) (.returned (.slice vo n vc)) wr from by
    have e:i=cn+1:=by omega
    have h1:=HN.out;have h2:=HO.out;rw[e] at h1 h2;refine⟨vo,vc,by rw[h1],?_,HB3.out.trans (HB.out.mono HB3.out.size)⟩
    rw[h1] at h2;exact⟨h2.1,h2.2.imp (fun h=>h) fun⟨g,cap,cur,a1,a2,a3⟩=>⟨g,cap,cur,a1,xC HB3.out.size a2,a3⟩⟩)
   go_wp2;go_ret;exact HQ.out
theorem zui (lo:Option Addr) (n lc:Nat) (l:List Int) (c:Int) (w:World) (hl:RdI w lo l) (hn:n=l.length) (hm:n<=1000000):
  Calls Tryz.prog 114 #[.slice lo n lc,.int .i64 c] w fun e w'=>e= .returned (.bool (inb l c))/\w'=w:=by
 have HL:=hid hl;have HN:=hid hn;clear hl hn;go_enter Tryz.func114,Tryz.ntmps114;go_wp2;go_loopw [5] (fun y wr=>∃i:Nat,y= .int .i64 i/\i<=n/\wr=w/\Hid (∀z∈l.take i,z≠c)) (fun y _=>n - (intOf y).toNat)
 case atStart=>exact⟨0,rfl,xf _,rfl,hid (by simp)⟩
 case round=>
  obtain⟨i,rfl,hi,rfl,HT⟩:=hrel
  by_cases hlt:i<n
  ·have i0:(0:Int)<=(i:Int):=by omega
   have i1:(i:Int)<(n:Int):=by omega
   have hil:i<l.length:=by have:=HN.out;omega
   obtain⟨a,rfl,ha,c1⟩:=HL.out.at hil;obtain⟨z,hz⟩:∃z,z=l[i]:=⟨_,rfl⟩;rw[<- hz] at c1;have HZ:=hid hz;clear hz
   by_cases e:z=c
   ·subst e
    have b1:(z==z)=true:=by simp
    have HE:=hid (show inb l z=true from(zbv l z).2 (by rw[HZ.out];exact xk _))
    go_wp2;go_ret;exact⟨by rw[HE.out];rfl,rfl⟩
   ·have b1:(z==c)=false:=by simpa using e
    have HE:=hid e;clear e;go_wp2;go_roundw
    case rel=>
     refine⟨i+1,by go_num,by omega,trivial,hid fun x hx=>?_⟩
     rw[List.take_succ_eq_append_getElem hil,List.mem_append] at hx
     rcases hx with hx | hx
     ·exact HT.out x hx
     ·rw[List.mem_singleton] at hx
      rw[hx,<- HZ.out];exact HE.out
    case measure=>simp[intOf];omega
  ·have i1:¬(i:Int)<(n:Int):=by omega
   have HE:=hid (show inb l c=false from by
    cases h:inb l c with
    | false=>rfl
    | true=>exact absurd rfl (HT.out c (by rw[List.take_of_length_le (by have:=HN.out;omega)];exact(zbv l c).1 h)))
   go_wp2;go_ret;exact⟨by rw[HE.out];rfl,rfl⟩
theorem zii {w:World} {B:Nat} {vo:Option Addr} {vc n:Nat} {L:List Nat} (h:w.ownsRow B 3 1 (.slice vo n vc) n (zmR L)) (hn:n=L.length):RdI w vo (L.map fun(x:Nat)=>(x:Int)):=fun k z hk=>by
 have hk1:=(xa.1 hk).1;rw[xu] at hk1
 rcases h.2 with ⟨h1,h2⟩ | ⟨g,cap,cur,h1,h2,h3,h4,h5,h6,h7⟩
 ·omega
 ·cases h1
  refine⟨⟨g,0,none⟩,rfl,zab h3,?_⟩;rw[Addr.add_lit,xB,cell_of_row w g k cur _ _ h3];have e:(zmR L)[k]? =some (.int .i64 z):=by
   unfold zmR;rw[List.getElem?_map] at hk⊢
   cases hl:L[k]? with
   | none=>rw[hl] at hk;cases hk
   | some y=>rw[hl] at hk;simp at hk;simp[hk]
  rw[<- h7,xr (by omega)] at e
  simpa using e
end Pt
end
section
open Go.RowKit
namespace Pt
structure Rl where
 brk:Bool
 st:Bool
 en:Bool
 left:Pat
 right:Pat
def App (r:Rl) (c:List Int) (k:Nat):Prop:=(∃i,i<=k/\led c r.left i k)/\(∃j,k<=j/\j<=c.length/\led c r.right k j)/\(r.st=true->led c r.left 0 k)/\(r.en=true->led c r.right k c.length)
def zBV (r:Rl):Prop:=OkP r.left/\OkP r.right/\szP r.left<=2048/\szP r.right<=2048
def TlQ (w:World) (A:Prop) (e:Ending) (w':World):Prop:=∃b:Bool,e= .returned (.bool b)/\(b=true ↔ A)/\Below w.heap.size w w'
theorem zih {w:World} {g o n:Nat} {c:List Int} (h:RdI w (some ⟨g,o,none⟩) c):RdI w (some ⟨g,o,none⟩) (c.take n):=fun k z hk=>by
 have h1:=(xa.1 hk).1;rw[xD] at h1;rw[xr (by omega)] at hk
 exact h k z hk
theorem zij {w:World} {g o n:Nat} {c:List Int} (h:RdI w (some ⟨g,o,none⟩) c):RdI w (some ⟨g,o+n,none⟩) (c.drop n):=fun k z hk=>by
 rw[List.getElem?_drop] at hk;obtain⟨a,h1,h2,h3⟩:=h (n+k) z hk
 cases h1
 refine⟨_,rfl,h2,?_⟩;rw[Addr.add_lit] at h3⊢;rw[<- h3]
 congr 2
 omega
set_option maxRecDepth 100000 in
theorem znk (r:Rl) (hr:zBV r) (l0 l1 l2 r0 r1 r2:Value) (c:List Int) (g o cn cc k:Nat) (hcn:cn=c.length) (hc:cn<=90000) (hcc:cn<=cc) (hk:k<=cn) (w:World) (hL:RdP w r.left l0 l1 l2) (hR:RdP w r.right r0 r1 r2) (hI:RdI w (some ⟨g,o,none⟩) c):
  Calls Tryz.prog 76 #[.agg #[.bool r.brk,.bool r.st,.bool r.en,l0,l1,l2,r0,r1,r2],.slice (some ⟨g,o,none⟩) cn cc,.int .i64 k] w (TlQ w (App r c k)):=by
 obtain⟨o1,o2,s1,s2⟩:=hr;have HG1:=hid (fun(W:World) (h:Below w.heap.size w W)=>zdq r.left o1 s1 l0 l1 l2 W (RdP.below h _ _ _ _ hL))
 have HG2:=hid (fun(W:World) (h:Below w.heap.size w W)=>zdq r.right o2 s2 r0 r1 r2 W (RdP.below h _ _ _ _ hR))
 have HS:=hid (fun(W:World) (h:Below w.heap.size w W)=>zpC r.left o1 s1 l0 l1 l2 (c.take k) (some ⟨g,o,none⟩) k cc (by rw[xD];omega) (by omega) W (RdP.below h _ _ _ _ hL) (zih (hI.below h)))
 have HE:=hid (fun(W:World) (h:Below w.heap.size w W)=>zpa r.right o2 s2 r0 r1 r2 (c.drop k) (if cc=k then some ⟨g,o,none⟩ else some ⟨g,o+k,none⟩) (cn - k) (cc - k) (by rw[xE];omega) (by omega) W (RdP.below h _ _ _ _ hR) (by
  split
  ·intro j z hj
   have h1:=(xa.1 hj).1;rw[xE] at h1;omega
  ·exact zij (hI.below h)))
 have HSA:=hid (show flt (fun i=>led (c.take k) r.left i k) (k+1)=flt (fun i=>led c r.left i k) (k+1) from zkB fun i _=>zwR c r.left k i k (by omega) (xq _))
 have HEA:=hid (show flt (fun i=>led (c.drop k) r.right 0 i) (cn - k+1)=flt (fun i=>led c r.right k (k+i)) (cn - k+1) from zkB fun i hi=>by have:=zwS c r.right k 0 i (by omega) (by omega);simpa using this)
 have HCN:=hid hcn;clear hL hR hI hcn o1 o2 s1 s2;have k0:(0:Int)<=(k:Int):=by omega
 have k1:(k:Int)<=(cn:Int):=by omega
 have k2:(k:Int)<=(cc:Int):=by omega
 have k3:(cn:Int)<=(cc:Int):=by omega
 have d1:decide ((k:Int)<0)=false:=decide_eq_false (by omega)
 have d2:decide ((cn:Int)<(k:Int))=false:=decide_eq_false (by omega)
 have d3:decide (cn<k)=false:=decide_eq_false (by omega)
 obtain⟨rb,rs,re,rl,rr⟩:=r;go_enter Tryz.func76,Tryz.ntmps76;go_wp2_with fail;obtain⟨w1,hw1⟩:∃w1,w1=w.alloc (.cells #[.bool rb,.bool rs,.bool re,l0,l1,l2,r0,r1,r2] 107):=⟨_,rfl⟩;have hb1:Below w.heap.size w w1:=by rw[hw1];exact below_box
 have hs1:w.heap.size<w1.heap.size:=by rw[hw1];simp
 have HX1:=hid (fun(W:World) (h:Below w1.heap.size w1 W)=>show W.cell? ⟨w.heap.size,3,none⟩=some l0/\W.cell? ⟨w.heap.size,4,none⟩=some l1/\W.cell? ⟨w.heap.size,5,none⟩=some l2 from
  ⟨(h.cell (p:=⟨w.heap.size,3,none⟩) hs1).trans (by rw[hw1];simp[go_sem]),(h.cell (p:=⟨w.heap.size,4,none⟩) hs1).trans (by rw[hw1];simp[go_sem]),(h.cell (p:=⟨w.heap.size,5,none⟩) hs1).trans (by rw[hw1];simp[go_sem])⟩)
 have HX2:=hid (fun(W:World) (h:Below w1.heap.size w1 W)=>show W.cell? ⟨w.heap.size,6,none⟩=some r0/\W.cell? ⟨w.heap.size,7,none⟩=some r1/\W.cell? ⟨w.heap.size,8,none⟩=some r2 from
  ⟨(h.cell (p:=⟨w.heap.size,6,none⟩) hs1).trans (by rw[hw1];simp[go_sem]),(h.cell (p:=⟨w.heap.size,7,none⟩) hs1).trans (by rw[hw1];simp[go_sem]),(h.cell (p:=⟨w.heap.size,8,none⟩) hs1).trans (by rw[hw1];simp[go_sem])⟩)
 have HX3:=hid (fun(W:World) (h:Below w1.heap.size w1 W)=>show W.cell? ⟨w.heap.size,1,none⟩=some (.bool rs)/\W.cell? ⟨w.heap.size,2,none⟩=some (.bool re) from
  ⟨(h.cell (p:=⟨w.heap.size,1,none⟩) hs1).trans (by rw[hw1];simp[go_sem]),(h.cell (p:=⟨w.heap.size,2,none⟩) hs1).trans (by rw[hw1];simp[go_sem])⟩)
 rw[<- hw1];have HB1:=hid hb1;clear hw1 hb1;refine(HG1.out w1 HB1.out).mono ?_;rintro e w2 ⟨rfl,hB2⟩;have HB2:=hid hB2;obtain⟨x6,x7,x8⟩:=HX2.out w2 hB2;clear hB2;go_wp2_with fail;refine(HG2.out w2 (HB1.out.trans (HB2.out.mono HB1.out.size))).mono ?_;rintro e w3 ⟨rfl,hB3⟩;have HB3:=hid (HB2.out.trans (hB3.mono HB2.out.size));clear hB3 x6 x7 x8;go_wp2_with fail;refine zaf [(0,true),(1,true),(2,true),(3,true),(4,true),(5,false),(6,false)] (fun W=>W.cell? ⟨w.heap.size,3,none⟩=some l0/\W.cell? ⟨w.heap.size,4,none⟩=some l1/\W.cell? ⟨w.heap.size,5,none⟩=some l2) (fun _=>false) (by kernel_rfl) (by kernel_rfl) (fun j hj=>by cases hj) rfl (by kernel_rfl) (HX1.out _ (show Below w1.heap.size w1 w3.drew from⟨HB3.out.os,HB3.out.tape,HB3.out.output,HB3.out.size,HB3.out.block⟩)) ?_
 iterate 5 (refine zai ?_ rfl (by kernel_rfl) (fun w' hS=>?_) ?_;(rotate_left;(obtain⟨s1,s2,s3⟩:=hS;go_simp;with_reducible rfl);rotate_left))
 refine zah rfl (by kernel_rfl) fun KK hKK=>?_
 go_simp;have HB3d:=hid (show Below w1.heap.size w1 w3.drew from⟨HB3.out.os,HB3.out.tape,HB3.out.output,HB3.out.size,HB3.out.block⟩)
 refine(HS.out w3.drew (HB1.out.trans (HB3d.out.mono HB1.out.size))).mono ?_;rintro e w4 ⟨vo,vc,rfl,hO4,hB4⟩;have HB4:=hid (show Below w1.heap.size w1 w4 from HB3d.out.trans (hB4.mono HB3d.out.size))
 rw[HSA.out] at hO4⊢;obtain⟨L1,hL1⟩:∃L,L=flt (fun i=>led c rl i k) (k+1):=⟨_,rfl⟩
 rw[<- hL1] at hO4⊢;have HL1:=hid hL1;obtain⟨n1,hn1⟩:∃n,n=L1.length:=⟨_,rfl⟩;rw[<- hn1] at hO4⊢;have HN1:=hid hn1;have HR1:=hid (zii hO4 hn1);have q1:n1<=k+1:=by rw[hn1,hL1];exact zmU _ _
 clear hO4 hB4 hL1 hn1;refine hKK _ _ (fun _=>HX1.out _ HB4.out) ?_
 clear hKK;refine zah rfl (by kernel_rfl) fun KK hKK=>?_
 go_simp;refine hKK _ _ (fun _=>HX1.out _ HB4.out) ?_
 clear hKK;refine zay (NoPanic.normal ?_);go_wp2_with fail;refine zaf [(0,true),(1,true),(2,true),(3,true),(4,true),(5,false),(6,false)] (fun W=>W.cell? ⟨w.heap.size,6,none⟩=some r0/\W.cell? ⟨w.heap.size,7,none⟩=some r1/\W.cell? ⟨w.heap.size,8,none⟩=some r2) (fun _=>false) (by kernel_rfl) (by kernel_rfl) (fun j hj=>by cases hj) rfl (by kernel_rfl) (HX2.out _ (show Below w1.heap.size w1 w4.drew from⟨HB4.out.os,HB4.out.tape,HB4.out.output,HB4.out.size,HB4.out.block⟩)) ?_
 iterate 5 (refine zai ?_ rfl (by kernel_rfl) (fun w' hS=>?_) ?_;(rotate_left;(obtain⟨s1,s2,s3⟩:=hS;go_simp;with_reducible rfl);rotate_left))
 refine zah rfl (by kernel_rfl) fun KK hKK=>?_
 go_simp;have HB4d:=hid (show Below w1.heap.size w1 w4.drew from⟨HB4.out.os,HB4.out.tape,HB4.out.output,HB4.out.size,HB4.out.block⟩)
 obtain⟨ao,hao⟩:∃ao,ao=(if cc=k then some (⟨g,o,none⟩:Addr) else some ⟨g,o+k,none⟩):=⟨_,rfl⟩;rw[<- hao] at HE⊢;clear hao;refine(HE.out w4.drew (HB1.out.trans (HB4d.out.mono HB1.out.size))).mono ?_;rintro e w5 ⟨uo,uc,rfl,hO5,hB5⟩;have HB5':=hid (show Below w4.heap.size w4 w5 from⟨hB5.os,hB5.tape,hB5.output,hB5.size,hB5.block⟩)
 have HB5:=hid (show Below w1.heap.size w1 w5 from HB4d.out.trans (hB5.mono HB4d.out.size))
 rw[HEA.out] at hO5⊢;obtain⟨L2,hL2⟩:∃L,L=flt (fun i=>led c rr k (k+i)) (cn - k+1):=⟨_,rfl⟩
 rw[<- hL2] at hO5⊢;have HL2:=hid hL2;obtain⟨n2,hn2⟩:∃n,n=L2.length:=⟨_,rfl⟩;rw[<- hn2] at hO5⊢;have HN2:=hid hn2;have HR2:=hid (zii hO5 hn2);have q2:n2<=cn - k+1:=by rw[hn2,hL2];exact zmU _ _
 clear hO5 hB5 hL2 hn2;refine hKK _ _ (fun _=>HX2.out _ HB5.out) ?_
 clear hKK;refine zah rfl (by kernel_rfl) fun KK hKK=>?_
 go_simp;refine hKK _ _ (fun _=>HX2.out _ HB5.out) ?_
 clear hKK;refine zay (NoPanic.normal ?_);clear d1 d2 d3 HG1 HG2 HS HE HSA HEA HB2 HB3 HB3d HB4d;have HBw:=hid (HB1.out.trans (HB5.out.mono HB1.out.size));have HM1:=hid (fun(x:Nat)=>show x∈L1 ↔ x<k+1/\led c rl x k by rw[HL1.out];exact zmT _ _ _)
 have HM2:=hid (fun(x:Nat)=>show x∈L2 ↔ x<cn - k+1/\led c rr k (k+x) by rw[HL2.out];exact zmT _ _ _)
 clear HL1 HL2;obtain⟨y1,y2⟩:=HX3.out _ HB5.out
 by_cases z1:n1=0
 ·have HA:=hid (show ¬App ⟨rb,rs,re,rl,rr⟩ c k from fun⟨⟨i,h1,h2⟩,_⟩=>by
   have h3:=(HM1.out i).2 ⟨by omega,h2⟩
   rw[xi.1 (HN1.out.symm.trans z1)] at h3
   cases h3)
  subst z1;go_wp2;go_ret;exact⟨false,rfl,by simp[HA.out],HBw.out⟩
 have z1':((n1:Int)==0)=false:=by simpa using z1
 have HZ1:=hid z1;clear z1
 by_cases z2:n2=0
 ·have HA:=hid (show ¬App ⟨rb,rs,re,rl,rr⟩ c k from fun⟨_,⟨j,h1,h2,h3⟩,_⟩=>by
   have h4:=(HM2.out (j - k)).2 ⟨by have:=HCN.out;omega,by rw[xy h1];exact h3⟩
   rw[xi.1 (HN2.out.symm.trans z2)] at h4
   cases h4)
  subst z2;go_wp2;go_ret;exact⟨false,rfl,by simp[HA.out],HBw.out⟩
 have z2':((n2:Int)==0)=false:=by simpa using z2
 have HZ2:=hid z2;clear z2;have HC1:=hid (show ∃i,i<=k/\led c rl i k from by
  obtain⟨x,hx⟩:=xm (l:=L1) (by have:=HN1.out;have:=HZ1.out;omega)
  have:=(HM1.out x).1 hx;exact⟨x,by omega,this.2⟩)
 have HC2:=hid (show ∃j,k<=j/\j<=c.length/\led c rr k j from by
  obtain⟨x,hx⟩:=xm (l:=L2) (by have:=HN2.out;have:=HZ2.out;omega)
  have:=(HM2.out x).1 hx;exact⟨k+x,by omega,by have:=HCN.out;omega,this.2⟩)
 have HIn1:=hid (fun(W:World) (h:Below w5.heap.size w5 W)=>zui vo n1 vc _ 0 W ((HR1.out.below HB5'.out).below h) (by rw[xu];exact HN1.out) (by omega))
 have HIn2:=hid (fun(W:World) (h:Below w5.heap.size w5 W)=>zui uo n2 uc _ ((cn:Int) - (k:Int)) W (HR2.out.below h) (by rw[xu];exact HN2.out) (by omega))
 have HI1:=hid (show inb (L1.map fun(x:Nat)=>(x:Int)) 0=true ↔ led c rl 0 k from by
  rw[zbv]
  constructor
  ·intro h
   obtain⟨x,h1,h2⟩:=xn.1 h;have e:x=0:=by omega
   exact e ▸ ((HM1.out x).1 h1).2
  ·intro h
   exact xn.2 ⟨0,(HM1.out 0).2 ⟨by omega,h⟩,rfl⟩)
 have HI2:=hid (show inb (L2.map fun(x:Nat)=>(x:Int)) ((cn:Int) - (k:Int))=true ↔ led c rr k c.length from by
  rw[zbv]
  constructor
  ·intro h
   obtain⟨x,h1,h2⟩:=xn.1 h;have e:k+x=c.length:=by have:=HCN.out;omega
   exact e ▸ ((HM2.out x).1 h1).2
  ·intro h
   refine xn.2 ⟨cn - k,(HM2.out (cn - k)).2 ⟨by omega,?_⟩,by omega⟩
   rw[xy hk,HCN.out];exact h)
 clear HM1 HM2 HR1 HR2 HN1 HN2 HX1 HX2;obtain⟨b1,hb1⟩:∃b,b=inb (L1.map fun(x:Nat)=>(x:Int)) 0:=⟨_,rfl⟩
 obtain⟨b2,hb2⟩:∃b,b=inb (L2.map fun(x:Nat)=>(x:Int)) ((cn:Int) - (k:Int)):=⟨_,rfl⟩
 rw[<- hb1] at HIn1 HI1;rw[<- hb2] at HIn2 HI2;clear hb1 hb2;have HQ:=hid (show App ⟨rb,rs,re,rl,rr⟩ c k ↔ ((rs=true->b1=true)/\(re=true->b2=true)) from by
  unfold App
  simp only[]
  rw[<- HI1.out,<- HI2.out];exact⟨fun h=>⟨h.2.2.1,h.2.2.2⟩,fun h=>⟨HC1.out,HC2.out,h.1,h.2⟩⟩)
 have e9:IntKind.i64.wrap ((cn:Int) - (k:Int))=(cn:Int) - (k:Int):=by unfold IntKind.wrap IntKind.bits IntKind.signed;simp;omega
 cases rs with
 | false=>
  cases re with
  | false=>
   go_wp2;go_ret;exact⟨true,rfl,by simp[HQ.out],HBw.out⟩
  | true=>
   go_wp2_with fail;refine(HIn2.out w5 (Below.refl _ _)).mono ?_;rintro e w6 ⟨rfl,e6⟩;obtain rfl:=e6.symm;go_wp2;go_ret;exact⟨b2,rfl,by simp[HQ.out],HBw.out⟩
 | true=>
  go_wp2_with fail;refine(HIn1.out w5 (Below.refl _ _)).mono ?_;rintro e w6 ⟨rfl,e6⟩;obtain rfl:=e6.symm
  cases b1 with
  | false=>
   go_wp2;go_ret;exact⟨false,rfl,by simp[HQ.out],HBw.out⟩
  | true=>
   cases re with
   | false=>
    go_wp2;go_ret;exact⟨true,rfl,by simp[HQ.out],HBw.out⟩
   | true=>
    go_wp2_with fail;refine(HIn2.out w5 (Below.refl _ _)).mono ?_;rintro e w6 ⟨rfl,e6⟩;obtain rfl:=e6.symm;go_wp2;go_ret;exact⟨b2,rfl,by simp[HQ.out],HBw.out⟩
end Pt
end
section
open Go.RowKit
namespace Pt
def BlQ (w:World) (A:Prop) (e:Ending) (w':World):Prop:=∃b:Bool,e= .returned (.bool b)/\(b=false->A)/\Below w.heap.size w w'
def KdQ (w:World) (ko:Option Addr) (kn:Nat) (f:FuncId) (Q:Nat->World->Ending->World->Prop):Prop:=∀j,j<kn->∃b o u0 u1 u2,ko=some ⟨b,o,none⟩/\b<w.heap.size/\w.cell? ⟨b,o+j * 3,none⟩=some u0/\w.cell? ⟨b,o+j * 3+1,none⟩=some u1/\w.cell? ⟨b,o+j * 3+2,none⟩=some u2/\∀W,Below w.heap.size w W->Calls Tryz.prog f #[.agg #[u0,u1,u2]] W (Q j W)
theorem KdQ.below {w w':World} {ko:Option Addr} {kn:Nat} {f:FuncId} {Q:Nat->World->Ending->World->Prop} (h:KdQ w ko kn f Q) (hb:Below w.heap.size w w'):KdQ w' ko kn f Q:=fun j hj=>by
 obtain⟨b,o,u0,u1,u2,h1,h2,q0,q1,q2,hq⟩:=h j hj;have hc:∀k v,w.cell? ⟨b,k,none⟩=some v->w'.cell? ⟨b,k,none⟩=some v:=fun k v hk=>(hb.cell (p:=⟨b,k,none⟩) h2).trans hk
 exact⟨b,o,u0,u1,u2,h1,xA h2 hb.size,hc _ _ q0,hc _ _ q1,hc _ _ q2,fun W hW=>hq W (hb.trans (hW.mono hb.size))⟩
set_option maxRecDepth 100000 in
theorem zrI (ko:Option Addr) (kn kc:Nat) (M:Nat->Prop) (w:World) (hk9:kn<=1000000) (HK:Hid (KdQ w ko kn 168 fun j W=>BlQ W (M j))):
  Calls Tryz.prog 169 #[.slice ko kn kc] w (BlQ w (∃j,j<kn/\M j)):=by
 go_enter Tryz.func169,Tryz.ntmps169;go_wp2;go_loopw [3] (fun y wr=>∃i:Nat,y= .int .i64 i/\i<=kn/\Hid (Below w.heap.size w wr)) (fun y _=>kn - (intOf y).toNat)
 case atStart=>exact⟨0,rfl,xf _,hid (Below.refl _ _)⟩
 case round=>
  obtain⟨i,rfl,hi,HB⟩:=hrel
  by_cases hlt:i<kn
  ·have i0:(0:Int)<=(i:Int):=by omega
   have i1:(i:Int)<(kn:Int):=by omega
   obtain⟨b,o,u0,u1,u2,rfl,hb,q0,q1,q2,hL⟩:=HK.out i hlt;have y0:wr.cell? ⟨b,o+i * 3,none⟩=some u0:=(HB.out.cell (p:=⟨b,o+i * 3,none⟩) hb).trans q0;have y1:wr.cell? ⟨b,o+i * 3+1,none⟩=some u1:=(HB.out.cell (p:=⟨b,o+i * 3+1,none⟩) hb).trans q1;have y2:wr.cell? ⟨b,o+i * 3+2,none⟩=some u2:=(HB.out.cell (p:=⟨b,o+i * 3+2,none⟩) hb).trans q2;have HL:=hid (hL wr HB.out);clear q0 q1 q2 hL;go_wp2_with fail;refine HL.out.mono ?_;rintro e w3 ⟨v,rfl,hv,hB3⟩;have HB3:=hid (HB.out.trans (hB3.mono HB.out.size));have HV:=hid hv;clear hB3 hv y0 y1 y2
   cases v with
   | true=>
    go_wp2;go_roundw
    case rel=>exact⟨i+1,by go_num,by omega,HB3⟩
    case measure=>simp[intOf];omega
   | false=>
    have HM:=hid (show ∃j,j<kn/\M j from⟨i,hlt,HV.out rfl⟩)
    go_wp2;go_ret;exact⟨false,rfl,fun _=>HM.out,HB3.out⟩
  ·have i1:¬(i:Int)<(kn:Int):=by omega
   go_wp2;go_ret;exact⟨true,rfl,nofun,HB.out⟩
section
variable (lo ko:Option Addr) (ln lc kn kc:Nat) (w:World)
theorem zCs (v2:Value) (cls:List Int) (kids:List Pat) (hln:ln=cls.length):Calls Tryz.prog 168 #[.agg #[.int .i64 1,.slice lo ln lc,v2]] w (BlQ w (Nil (.mk 1 cls kids))):=by
 have HB:=hid (fun(o:Obj)=>below_box (w:=w) (o:=o))
 by_cases h:ln=0
 ·have HN:=hid (show Nil (.mk 1 cls kids) by rw[xi.1 (hln.symm.trans h)];exact zAC _)
  subst h;clear hln;go_enter Tryz.func168,Tryz.ntmps168;go_wp2;go_ret;exact⟨_,rfl,fun _=>HN.out,HB.out _⟩
 ·have h1:(0:Int)<(ln:Int):=by omega
  clear hln;go_enter Tryz.func168,Tryz.ntmps168;go_wp2;go_ret;exact⟨_,rfl,fun h2=>absurd (of_decide_eq_false h2) (by omega),HB.out _⟩
theorem zCr (M:Nat->Prop) (hk9:kn<=1000000) (HK:Hid (KdQ w ko kn 168 fun j W=>BlQ W (M j))):Calls Tryz.prog 168 #[.agg #[.int .i64 2,.slice lo ln lc,.slice ko kn kc]] w (BlQ w (∃j,j<kn/\M j)):=by
 have HB:=hid (fun(o:Obj)=>below_box (w:=w) (o:=o))
 have HR:=hid (fun(o:Obj)=>zrI ko kn kc M (w.alloc o) hk9 (hid (HK.out.below (below_box (o:=o)))))
 clear hk9;go_enter Tryz.func168,Tryz.ntmps168;go_wp2_with fail;refine(HR.out _).mono ?_;rintro e w3 ⟨v,rfl,hv,hB3⟩;have HV:=hid hv;have HB3:=hid ((HB.out _).trans (hB3.mono (by simp)))
 clear hv hB3;go_wp2;go_ret;exact⟨v,rfl,HV.out,HB3.out⟩
theorem zCq (M:Nat->Prop) (hk9:kn<=1000000) (HK:Hid (KdQ w ko kn 168 fun j W=>BlQ W (M j))):Calls Tryz.prog 168 #[.agg #[.int .i64 3,.slice lo ln lc,.slice ko kn kc]] w (BlQ w (∀j,j<kn->M j)):=by
 go_enter Tryz.func168,Tryz.ntmps168;go_wp2;obtain⟨w1,hw1⟩:∃w1,w1=w.alloc (.cells #[.int .i64 3,.slice lo ln lc,.slice ko kn kc] 105):=⟨_,rfl⟩;have hb1:Below w.heap.size w w1:=by rw[hw1];exact below_box
 have x2:w1.cell? ⟨w.heap.size,2,none⟩=some (.slice ko kn kc):=by rw[hw1];simp[go_sem]
 have hs1:w.heap.size<w1.heap.size:=by rw[hw1];simp
 rw[<- hw1];have HB1:=hid hb1;have HX2:=hid x2;clear hw1 hb1 x2;go_loopw [3] (fun y wr=>∃i:Nat,y= .int .i64 i/\i<=kn/\Hid (∀j,j<i->M j)/\Hid (Below w1.heap.size w1 wr)) (fun y _=>kn - (intOf y).toNat)
 case atStart=>exact⟨0,rfl,xf _,hid (fun j h=>by omega),hid (Below.refl _ _)⟩
 case round=>
  obtain⟨i,rfl,hi,HM,HB⟩:=hrel;have x2:wr.cell? ⟨w.heap.size,2,none⟩=some (.slice ko kn kc):=(HB.out.cell (p:=⟨w.heap.size,2,none⟩) hs1).trans HX2.out;have HBw:=hid (HB1.out.trans (HB.out.mono HB1.out.size))
  by_cases hlt:i<kn
  ·have i0:(0:Int)<=(i:Int):=by omega
   have i1:(i:Int)<(kn:Int):=by omega
   obtain⟨b,o,u0,u1,u2,rfl,hb,q0,q1,q2,hL⟩:=HK.out i hlt;have y0:wr.cell? ⟨b,o+i * 3,none⟩=some u0:=(HBw.out.cell (p:=⟨b,o+i * 3,none⟩) hb).trans q0;have y1:wr.cell? ⟨b,o+i * 3+1,none⟩=some u1:=(HBw.out.cell (p:=⟨b,o+i * 3+1,none⟩) hb).trans q1;have y2:wr.cell? ⟨b,o+i * 3+2,none⟩=some u2:=(HBw.out.cell (p:=⟨b,o+i * 3+2,none⟩) hb).trans q2;have HL:=hid (hL wr HBw.out);clear q0 q1 q2 hL;go_wp2_with fail;refine HL.out.mono ?_;rintro e w3 ⟨v,rfl,hv,hB3⟩;have HB3:=hid (HB.out.trans (hB3.mono HB.out.size));have HBw3:=hid (HB1.out.trans (HB3.out.mono HB1.out.size));have HV:=hid hv;clear hB3 hv y0 y1 y2 x2
   cases v with
   | true=>
    go_wp2;go_ret;exact⟨true,rfl,nofun,HBw3.out⟩
   | false=>
    have HM2:=hid (show ∀j,j<i+1->M j from fun j hj=>by
     rcases Nat.lt_or_ge j i with h | h
     ·exact HM.out j h
     ·obtain rfl:j=i:=by omega
      exact HV.out rfl)
    go_wp2;go_roundw
    case rel=>exact⟨i+1,by go_num,by omega,HM2,HB3⟩
    case measure=>simp[intOf];omega
  ·have i1:¬(i:Int)<(kn:Int):=by omega
   have HQ:=hid (show ∀j,j<kn->M j from fun j hj=>HM.out j (by omega))
   go_wp2;go_ret;exact⟨false,rfl,fun _=>HQ.out,HBw.out⟩
theorem zCp (M:Nat->Prop) (hk0:0<kn) (HK:Hid (KdQ w ko kn 168 fun j W=>BlQ W (M j))):Calls Tryz.prog 168 #[.agg #[.int .i64 5,.slice lo ln lc,.slice ko kn kc]] w (BlQ w (M 0)):=by
 have k0:(0:Int)<(kn:Int):=by omega
 obtain⟨b,o,u0,u1,u2,rfl,hb,q0,q1,q2,hL⟩:=HK.out 0 hk0;rw[Nat.zero_mul,Nat.add_zero] at q0 q1 q2;have HB1:=hid (fun(o:Obj)=>below_box (w:=w) (o:=o))
 have y0:=fun(o1:Obj)=>((HB1.out o1).cell (p:=⟨b,o,none⟩) hb).trans q0
 have y1:=fun(o1:Obj)=>((HB1.out o1).cell (p:=⟨b,o+1,none⟩) hb).trans q1
 have y2:=fun(o1:Obj)=>((HB1.out o1).cell (p:=⟨b,o+2,none⟩) hb).trans q2
 have HL:=hid (fun(o1:Obj)=>hL (w.alloc o1) (HB1.out o1))
 clear q0 q1 q2 hL HK;go_enter Tryz.func168,Tryz.ntmps168;go_wp2_with fail;refine(HL.out _).mono ?_;rintro e w3 ⟨v,rfl,hv,hB3⟩;have HV:=hid hv;have HB3:=hid ((HB1.out _).trans (hB3.mono (by simp)))
 clear hv hB3 y0 y1 y2;go_wp2;go_ret;exact⟨v,rfl,HV.out,HB3.out⟩
theorem zCo (v1 v2:Value) (op:Int) (A:Prop) (h1:op≠1) (h2:op≠2) (h3:op≠3) (h5:op≠5):Calls Tryz.prog 168 #[.agg #[.int .i64 op,v1,v2]] w (BlQ w A):=by
 have HB:=hid (fun(o:Obj)=>below_box (w:=w) (o:=o))
 have e1:(op==1)=false:=beq_eq_false_iff_ne.2 h1;have e2:(op==2)=false:=beq_eq_false_iff_ne.2 h2;have e3:(op==3)=false:=beq_eq_false_iff_ne.2 h3;have e5:(op==5)=false:=beq_eq_false_iff_ne.2 h5;clear h1 h2 h3 h5;go_enter Tryz.func168,Tryz.ntmps168;go_wp2;go_ret;exact⟨true,rfl,nofun,HB.out _⟩
end
theorem zua {w:World} {kids:List Pat} {ko:Option Addr} {f:FuncId} {Q:Pat->World->Ending->World->Prop} (hk:RdK w kids ko 0) (h:∀p∈kids,∀(v0 v1 v2:Value) (W:World),RdP W p v0 v1 v2->Calls Tryz.prog f #[.agg #[v0,v1,v2]] W (Q p W)):KdQ w ko kids.length f fun j W=>Q (kids.getD j (.mk 0 [] [])) W:=fun j hj=>by
 obtain⟨b,o,h1,h2,u0,u1,u2,q0,q1,q2,hq⟩:=RdK.at kids ko 0 j _ hk (xb hj);rw[xB] at q0 q1 q2;have e:kids.getD j (.mk 0 [] [])=kids[j]:=by simp[List.getD,hj]
 refine⟨b,o,u0,u1,u2,h1,h2,q0,q1,q2,fun W hW=>?_⟩
 simp only[e]
 exact h _ (xk hj) u0 u1 u2 W (RdP.below hW _ _ _ _ hq)
theorem zgo {kids:List Pat} {j:Nat} (hj:j<kids.length):kids.getD j (.mk 0 [] [])=kids[j]:=by simp[List.getD,hj]
theorem zhZ:∀p:Pat,OkP p->∀(v0 v1 v2:Value) (w:World),RdP w p v0 v1 v2->Calls Tryz.prog 168 #[.agg #[v0,v1,v2]] w (BlQ w (Nil p)):=by
 refine Pat.ind fun op cls kids ih hO v0 v1 v2 w hP=>?_
 unfold RdP at hP;unfold OkP at hO;obtain⟨rfl,⟨lo,lc,rfl,hl1,hl2⟩,ko,kc,rfl,hk1,hk2,_⟩:=hP;obtain⟨h1,hOK⟩:=hO;have HK:=hid (zua hk1 (fun p hp u0 u1 u2 W hW=>ih p hp (hOK.mem hp) u0 u1 u2 W hW))
 have hm:∀{A B:Prop} {f:FuncId} {args:Array Value},(A->B)->Calls Tryz.prog f args w (BlQ w A)->Calls Tryz.prog f args w (BlQ w B):=fun hab hc=>hc.mono fun e w' ⟨b,h1,h2,h3⟩=>⟨b,h1,fun h=>hab (h2 h),h3⟩
 by_cases o1:op=1
 ·subst o1
  exact zCs lo cls.length lc w _ cls kids rfl
 by_cases o2:op=2
 ·subst o2
  refine hm ?_ (zCr lo ko cls.length lc kids.length kc w _ hk2 HK);rintro ⟨j,hj,h⟩
  simp only[zgo hj] at h
  exact zww (zsd hj h)
 by_cases o3:op=3
 ·subst o3
  refine hm ?_ (zCq lo ko cls.length lc kids.length kc w _ hk2 HK);intro h;refine zCY fun p hp=>?_
  obtain⟨j,hj,rfl⟩:=List.getElem_of_mem hp;have:=h j hj
  simp only[zgo hj] at this
  exact this
 by_cases o5:op=5
 ·subst o5
  have hk0:0<kids.length:=by
   unfold OkN at h1
   rcases h1 with ⟨h1,_⟩ | ⟨_,h1⟩<;>omega
  refine hm ?_ (zCp lo ko cls.length lc kids.length kc w _ hk0 HK);intro h
  cases kids with
  | nil=>simp at hk0
  | cons p ps=>exact zwx h
 ·exact zCo w _ _ op _ o1 o2 o3 o5
theorem zwk (ps:List Pat) (hO:OkL ps) (ko:Option Addr) (kc:Nat) (w:World) (hk:RdK w ps ko 0) (h9:ps.length<=1000000):Calls Tryz.prog 169 #[.slice ko ps.length kc] w (BlQ w (zyh ps)):=by
 have HK:=hid (zua hk (fun p hp u0 u1 u2 W hW=>zhZ p (hO.mem hp) u0 u1 u2 W hW))
 refine(zrI ko ps.length kc _ w h9 HK).mono ?_;rintro e w' ⟨b,h1,h2,h3⟩;refine⟨b,h1,fun h=>?_,h3⟩
 obtain⟨j,hj,h4⟩:=h2 h
 simp only[zgo hj] at h4
 exact zsd hj h4
end Pt
end
section
open Go.RowKit
namespace Pt
def zyg (w:World) (ro:Option Addr) (rs:List Rl):Prop:=∀(j:Nat) (r:Rl),rs[j]? =some r->∃b o l0 l1 l2 r0 r1 r2,ro=some ⟨b,o,none⟩/\b<w.heap.size/\w.cell? ⟨b,o+j * 9,none⟩=some (.bool r.brk)/\w.cell? ⟨b,o+j * 9+1,none⟩=some (.bool r.st)/\w.cell? ⟨b,o+j * 9+2,none⟩=some (.bool r.en)∧
 w.cell? ⟨b,o+j * 9+3,none⟩=some l0/\w.cell? ⟨b,o+j * 9+4,none⟩=some l1/\w.cell? ⟨b,o+j * 9+5,none⟩=some l2/\w.cell? ⟨b,o+j * 9+6,none⟩=some r0/\w.cell? ⟨b,o+j * 9+7,none⟩=some r1/\w.cell? ⟨b,o+j * 9+8,none⟩=some r2/\RdP w r.left l0 l1 l2/\RdP w r.right r0 r1 r2
theorem zyg.below {w w':World} {ro:Option Addr} {rs:List Rl} (h:zyg w ro rs) (hb:Below w.heap.size w w'):zyg w' ro rs:=fun j r hj=>by
 obtain⟨b,o,l0,l1,l2,r0,r1,r2,h0,hl,a0,a1,a2,a3,a4,a5,a6,a7,a8,p1,p2⟩:=h j r hj;have hc:∀k v,w.cell? ⟨b,k,none⟩=some v->w'.cell? ⟨b,k,none⟩=some v:=fun k v hk=>(hb.cell (p:=⟨b,k,none⟩) hl).trans hk
 exact⟨b,o,l0,l1,l2,r0,r1,r2,h0,xA hl hb.size,hc _ _ a0,hc _ _ a1,hc _ _ a2,hc _ _ a3,hc _ _ a4,hc _ _ a5,hc _ _ a6,hc _ _ a7,hc _ _ a8,RdP.below hb _ _ _ _ p1,RdP.below hb _ _ _ _ p2⟩
open Classical in
noncomputable def dcd (rest:Bool) (c:List Int) (k:Nat):List Rl->Bool
 | []=>rest
 | r::rs=>if App r c k then r.brk else dcd rest c k rs
theorem zBt {rest:Bool} {c:List Int} {k i:Nat} {rs:List Rl} {r:Rl} (hr:rs[i]? =some r) (h:App r c k):dcd rest c k (rs.drop i)=r.brk:=by
 have hi:=(xa.1 hr).1;have he:rs[i]=r:=(xa.1 hr).2;rw[xh hi,he];unfold dcd;rw[if_pos h]
theorem zGm {rest:Bool} {c:List Int} {k i:Nat} {rs:List Rl} {r:Rl} (hr:rs[i]? =some r) (h:¬App r c k):dcd rest c k (rs.drop i)=dcd rest c k (rs.drop (i+1)):=by
 have hi:=(xa.1 hr).1;have he:rs[i]=r:=(xa.1 hr).2;rw[xh hi,he]
 conv=>lhs;unfold dcd
 rw[if_neg h]
noncomputable def zzT (rest:Bool) (rs:List Rl) (c:List Int) (k:Nat):Bool:=if c=[] then false else if k=0\/k=c.length then true else dcd rest c k rs
end Pt
end
section
namespace Pt
def zCz:List Int->Int->Bool
 | [],_=>true
 | x::l,b=>decide (b<x)&&(decide (x<2147483647)&&zCz l x)
theorem zid:∀(l:List Int) (b:Int),zCz l b=true->∀(k:Nat) (z:Int),l[k]? =some z->b<z/\z<2147483647/\∀(y:Int),l[k+1]? =some y->z<y
 | [],_,_,k,z,hk=>by simp at hk
 | x::l,b,h,k,z,hk=>by
  simp only[zCz,xg,decide_eq_true_eq] at h
  obtain⟨h1,h2,h3⟩:=h
  cases k with
  | zero=>
   cases hk
   refine⟨h1,h2,fun y hy=>?_⟩
   rw[xj] at hy;exact(zid l x h3 0 y hy).1
  | succ k=>
   rw[xj] at hk;obtain⟨q1,q2,q3⟩:=zid l x h3 k z hk;refine⟨by omega,q2,fun y hy=>q3 y ?_⟩
   rwa [xj] at hy
def okN (op:Int) (cls:List Int) (n:Nat):Bool:=
 (decide (op=1)&&(xG n 0&&zCz cls (-1))) || (cls.isEmpty&&((decide (op=0)&&xG n 0) || ((decide (op=2) || decide (op=3))&&xH 2 n) || ((decide (op=4) || decide (op=5) || decide (op=6))&&xG n 1)))
mutual
def okP:Pat->Bool
 | .mk op cls kids=>okN op cls kids.length&&okL kids
def okL:List Pat->Bool
 | []=>true
 | p::ps=>okP p&&okL ps
end
theorem zAs {cls:List Int} (h:zCz cls (-1)=true):Rs cls:=fun i z hz=>by
 obtain⟨h1,h2,_⟩:=zid cls (-1) h i z hz;refine⟨by omega,h2,fun y hi hy=>?_⟩
 obtain⟨_,_,h3⟩:=zid cls (-1) h (i - 1) y hy;exact h3 z (by rwa [Nat.sub_add_cancel hi])
theorem zrV {op:Int} {cls:List Int} {n:Nat} (h:okN op cls n=true):OkN op cls n:=by
 unfold okN at h
 simp only[Bool.or_eq_true,xg,decide_eq_true_eq,Nat.ble_eq,List.isEmpty_iff] at h
 rcases h with ⟨h1,h2,h3⟩ | ⟨h1,h2⟩
 ·exact .inl ⟨h1,xd h2,zAs h3⟩
 ·refine .inr ⟨h1,?_⟩
  rcases h2 with (⟨h2,h3⟩ | ⟨h2 | h2,h3⟩) | ⟨(h2 | h2) | h2,h3⟩
  ·exact .inl ⟨h2,xd h3⟩
  ·exact .inr (.inl ⟨h2,h3⟩)
  ·exact .inr (.inr (.inl ⟨h2,h3⟩))
  ·exact .inr (.inr (.inr (.inl ⟨h2,xd h3⟩)))
  ·exact .inr (.inr (.inr (.inr (.inl ⟨h2,xd h3⟩))))
  ·exact .inr (.inr (.inr (.inr (.inr ⟨h2,xd h3⟩))))
mutual
theorem zfU:∀p:Pat,okP p=true->OkP p
 | .mk op cls kids,h=>by
  unfold okP at h;rw[xg] at h;unfold OkP;exact⟨zrV h.1,zkb kids h.2⟩
theorem zkb:∀ps:List Pat,okL ps=true->OkL ps
 | [],_=>by unfold OkL;trivial
 | p::ps,h=>by
  unfold okL at h;rw[xg] at h;unfold OkL;exact⟨zfU p h.1,zkb ps h.2⟩
end
def okR (r:Rl):Bool:=okP r.left&&(okP r.right&&(xH (szP r.left) 2048&&xH (szP r.right) 2048))
theorem zrU {rs:List Rl} (h:(rs.all okR)=true):∀r∈rs,zBV r:=fun r hr=>by
 have h1:=List.all_eq_true.1 h r hr;unfold okR at h1
 simp only[xg,Nat.ble_eq] at h1
 exact⟨zfU _ h1.1,zfU _ h1.2.1,h1.2.2.1,h1.2.2.2⟩
end Pt
end
section
open Go.RowKit
namespace Pt
def En (c:List Int) (p:Pat) (k:Nat):Prop:=∃i,i<=k/\led c p i k
def Sw (c:List Int) (p:Pat) (k:Nat):Prop:=∃j,k<=j/\j<=c.length/\led c p k j
theorem led0 (c:List Int) (i k:Nat):led c (.mk 0 [] []) i k ↔ i=k:=by
 unfold led
 simp
theorem zqm (c cls:List Int) (kids:List Pat) (i k:Nat):led c (.mk 1 cls kids) i k ↔ k=i+1/\∃z,c[i]? =some z/\z∈cls:=by
 unfold led
 simp
theorem zwW (c cls:List Int) (ks:List Pat) (i k:Nat):led c (.mk 2 cls ks) i k ↔ zcX c ks i k:=by
 unfold led
 simp
theorem led3 (c cls:List Int) (ks:List Pat) (i k:Nat):led c (.mk 3 cls ks) i k ↔ zcn c ks i k:=by
 unfold led
 simp
theorem zzA (c cls:List Int) (p:Pat) (ps:List Pat) (i k:Nat):led c (.mk 4 cls (p::ps)) i k ↔ zcR (led c p) i k:=by
 have h:zdm c (p::ps)=led c p:=by rw[zdm]
 conv=>lhs;unfold led
 simp[h]
theorem led6 (c cls:List Int) (p:Pat) (ps:List Pat) (i k:Nat):led c (.mk 6 cls (p::ps)) i k ↔ i=k\/led c p i k:=by
 have h:zdm c (p::ps)=led c p:=by rw[zdm]
 conv=>lhs;unfold led
 simp[h]
theorem zeg (c:List Int) (i k:Nat):zcX c [] i k ↔ i=k:=by rw[zbh]
theorem zef (c:List Int) (p:Pat) (ps:List Pat) (i k:Nat):zcX c (p::ps) i k ↔ ∃j,led c p i j/\zcX c ps j k:=by rw[zaY];exact Iff.rfl
theorem zFL (c:List Int) (i k:Nat):zcn c [] i k ↔ False:=by rw[zcn]
theorem zFK (c:List Int) (p:Pat) (ps:List Pat) (i k:Nat):zcn c (p::ps) i k ↔ led c p i k\/zcn c ps i k:=by rw[zcn]
theorem znB (c cls:List Int) (kids:List Pat) (i k:Nat):zcR (led c (.mk 1 cls kids)) i k ↔ i<=k/\∀m,i<=m->m<k->∃z,c[m]? =some z/\z∈cls:=by
 constructor
 ·intro h
  induction h with
  | refl=>exact⟨xq _,fun m h1 h2=>by omega⟩
  | step h1 _ ih=>
   rw[zqm] at h1;obtain⟨rfl,hz⟩:=h1;obtain⟨h2,h3⟩:=ih;refine⟨by omega,fun m k1 k2=>?_⟩
   rcases xe k1 with e2 | e2
   ·exact e2 ▸ hz
   ·exact h3 m e2 k2
 ·rintro ⟨h1,h2⟩
  obtain⟨n,rfl⟩:∃n,k=i+n:=⟨k - i,by omega⟩
  clear h1
  induction n generalizing i with
  | zero=>exact .refl _
  | succ n ih=>
   refine .step (j:=i+1) ((zqm _ _ _ _ _).2 ⟨rfl,h2 i (xq _) (by omega)⟩) ?_
   have:=ih (i+1) (fun m k1 k2=>h2 m (by omega) (by omega))
   rwa [show i+1+n=i+(n+1) by omega] at this
theorem zak (brk:Bool) (l r:Pat) (c:List Int) (k:Nat):App ⟨brk,false,false,l,r⟩ c k ↔ En c l k/\Sw c r k:=by
 unfold App En Sw
 simp
theorem zkU (brk:Bool) (l r:Pat) (c:List Int) (k:Nat):App ⟨brk,true,false,l,r⟩ c k ↔ led c l 0 k/\Sw c r k:=by
 unfold App Sw
 simp only[true_implies,Bool.false_eq_true,false_implies,and_true]
 exact⟨fun h=>⟨h.2.2,h.2.1⟩,fun h=>⟨⟨0,xf _,h.1⟩,h.2,h.1⟩⟩
theorem zBu (rest:Bool) (c:List Int) (k:Nat):dcd rest c k []=rest:=rfl
theorem zaq {r:Rl} {c:List Int} {k:Nat} {d:Bool} (h:App r c k ↔ d=true) (rest:Bool) (rs:List Rl):dcd rest c k (r::rs)=bif d then r.brk else dcd rest c k rs:=by
 conv=>lhs;unfold dcd
 cases d with
 | true=>rw[if_pos (h.2 rfl)];rfl
 | false=>rw[if_neg (fun e=>by have:=h.1 e;cases this)];rfl
end Pt
end
end Go.Proofs.YtbbapnpdfcgjnaaGreatDoor
