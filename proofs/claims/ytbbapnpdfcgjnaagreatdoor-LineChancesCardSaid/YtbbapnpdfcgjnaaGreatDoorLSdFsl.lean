/- SdFsl: parts of the proof, joined. -/
import Derived.Test.YtbbapnpdfcgjnaaGreatDoorLSdCopy
open Nat renaming zero_add->xa, lt_of_lt_of_le->xe, le_trans->xh
open List renaming nil_append->xb, mem_append_left->xd, drop_of_length_le->xf, mem_append_right->xg, length_take->xi, length_drop->xj, mem_append->xk
set_option maxHeartbeats 64000000
namespace Go.Proofs.YtbbapnpdfcgjnaaGreatDoor
section
open Go.RowKit
namespace Pt
def FlQ (p:Pat) (w:World) (e:Ending) (w':World):Prop:=∃(vo:Option Addr) (vc:Nat) (L:List Int),e= .returned (.slice vo L.length vc)/\zjt w' (fun b=>b<w.heap.size) vo L/\zeS p L/\L.length<=2048000000/\Below w.heap.size w w'
theorem zrJ {w:World} {B C n:Nat} {vo:Option Addr} {vc:Nat} {L:List Int} (h:w.ownsRow C 3 1 (.slice vo n vc) n (zbw L)) (hn:n=L.length) (hB:B<=C):zjt w (fun b=>b<B) vo L:=fun k z hk=>by
 have hkl:=(List.getElem?_eq_some_iff.1 hk).1
 rcases h.2 with ⟨h1,h2⟩ | ⟨g,cap,cur,h1,h2,h3,_⟩
 ·omega
 ·cases h1
  refine⟨_,rfl,zab h3,fun h=>?_,?_⟩
  ·have h':g<B:=h
   omega
  ·rw[Addr.add_lit,xa]
   exact(zbA h).2.2.2 k _ (by unfold zbw;rw[List.getElem?_map,hk];rfl)
theorem zaC {w:World} {B C n:Nat} {v:Value} {xs:List Value} (h:w.ownsRow C 3 1 v n xs) (hB:B<=C):w.ownsRow B 3 1 v n xs:=⟨h.1,h.2.imp (fun e=>e) fun⟨g,cap,cur,a1,a2,a3,a4⟩=>⟨g,cap,cur,a1,by omega,a3,a4⟩⟩
theorem zlD {M:List Int} {k:Nat} {z:Int} {F:List Int} (h1:∀x∈F,x∈M\/x=z) (x:Int) (hx:x∈F):x∈M.take k++[z]++M.drop k:=by
 rcases h1 x hx with h | h
 ·rw[<- List.take_append_drop k M,xk] at h
  rcases h with h | h
  ·exact xd _ (xd _ h)
  ·exact xg _ h
 ·exact xd _ (xg _ (by rw[h];simp))
theorem zeB (M:List Int) {k:Nat} (z:Int) (hk:k<=M.length):(M.take k++[z]++M.drop k).length=M.length+1:=by
 simp
 omega
theorem zbm {w:World} {q:Nat} {z:Int} (h:w.heap[q]? =some (.cells #[.int .i64 z] 3)):RdI w (some ⟨q,0,none⟩) [z]:=fun k y hk=>by
 cases k with
 | succ k=>simp at hk
 | zero=>
  cases hk
  refine⟨_,rfl,zab h,?_⟩;rw[Addr.add_lit,cell_of_row w q _ _ _ _ h]
  rfl
theorem zdl (w:World):(w.alloc (.cells #[] 3)).ownsRow w.heap.size 3 1 (.slice (some ⟨w.heap.size,0,none⟩) 0 0) 0 (zbw []):=World.ownsRow_lit w #[] 0 (Nat.le_refl _) (by decide) (by simp)
theorem zhC {w w':World} {v:Value} {q:Nat} {o:Obj} (h:w.heap[q]? =some o) (hg:w.grownBy w' v.ownBlock) (hne:v.ownBlock≠some q):w'.heap[q]? =some o:=(hg.block q (zab h) (fun e=>hne e.symm)).trans h
set_option maxRecDepth 100000 in
theorem zgr (p:Pat) (hO:OkP p) (hs:szP p<=2048) (u0 u1 u2:Value) (w:World) (hP:RdP w p u0 u1 u2):Calls Tryz.prog 107 #[.agg #[u0,u1,u2]] w (FlQ p w):=by
 have HG:=hid (fun(W:World) (h:Below w.heap.size w W)=>zdq p hO hs u0 u1 u2 W (RdP.below h _ _ _ _ hP))
 have HFs:=hid (fun(W:World) (h:Below w.heap.size w W)=>zqt p hO hs u0 u1 u2 W (RdP.below h _ _ _ _ hP))
 clear hP hO;go_enter Tryz.func107,Tryz.ntmps107;go_wp2_with fail;obtain⟨w1,hw1⟩:∃w1,w1=w.alloc (.cells #[u0,u1,u2] 105):=⟨_,rfl⟩;have hb1:Below w.heap.size w w1:=by rw[hw1];exact below_box
 have hN:w1.heap[w.heap.size]? =some (.cells #[u0,u1,u2] 105):=by rw[hw1];exact heap_alloc_new _ _
 rw[<- hw1];have HB1:=hid hb1;have HN:=hid hN;clear hw1 hb1 hN;refine(HG.out w1 HB1.out).mono ?_;rintro e w2 ⟨rfl,hB2⟩;have hN2:=(hB2.block _ (zab HN.out)).trans HN.out;have x0:w2.cell? ⟨w.heap.size,0,none⟩=some u0:=by rw[cell_of_row w2 _ 0 _ _ _ hN2];rfl
 have x1:w2.cell? ⟨w.heap.size,1,none⟩=some u1:=by rw[cell_of_row w2 _ 1 _ _ _ hN2];rfl
 have x2:w2.cell? ⟨w.heap.size,2,none⟩=some u2:=by rw[cell_of_row w2 _ 2 _ _ _ hN2];rfl
 have HB2:=hid (HB1.out.trans (hB2.mono HB1.out.size));clear hB2 hN2;go_wp2_with fail;refine(HFs.out w2 HB2.out).mono ?_;rintro e w3 ⟨lo,lc,L,rfl,hI,hF,hL9,hB3⟩;have HI:=hid hI;have HF:=hid hF;have HB3:=hid (HB2.out.trans (hB3.mono HB2.out.size));have hl9:L.length<=2048000000:=by omega
 obtain⟨n,hn⟩:∃n,n=L.length:=⟨_,rfl⟩;rw[<- hn] at hl9⊢;have HNn:=hid hn;clear hI hF hL9 hB3 hn x0 x1 x2 HG HFs hs;go_wp2;go_loopw [4,5] (fun x y wr=>∃(i m:Nat) (vo:Option Addr) (vc:Nat) (M:List Int),x= .slice vo m vc/\y= .int .i64 i/\i<=n/\m<=i/\Hid (m=M.length)/\Hid (wr.ownsRow w3.heap.size 3 1 (.slice vo m vc) m (zbw M))/\Hid (∀x∈L.take i,x∈M)/\Hid (Below w3.heap.size w3 wr)) (fun _ y _=>n - (intOf y).toNat)
 case atStart=>exact⟨0,0,none,0,[],rfl,rfl,Nat.zero_le _,Nat.le_refl _,hid rfl,hid (World.ownsRow_nil _ _ _ _),hid (by simp),hid (Below.refl _ _)⟩
 case round=>
  obtain⟨i,m,vo,vc,M,rfl,rfl,hi,hmi,HM,HOw,HIn,HBr0⟩:=hrel
  by_cases hlt:i<n
  ·have i0:(0:Int)<=(i:Int):=by omega
   have i1:(i:Int)<(n:Int):=by omega
   have hil:i<L.length:=by have:=HNn.out;omega
   obtain⟨ad,rfl,had,c1⟩:=HI.out.at hil;have HAd:=hid had;obtain⟨z,hz⟩:∃z,z=L[i]:=⟨_,rfl⟩;rw[<- hz] at c1;have HCz0:=hid c1;have HTk:=hid (show ∀x∈L.take (i+1),x∈M\/x=z from fun x hx=>by
    rw[List.take_succ_eq_append_getElem hil,xk] at hx
    rcases hx with hx | hx
    ·exact .inl (HIn.out x hx)
    ·exact .inr (by rw[hz];simpa using hx))
   have HRM0:=hid (zcE HOw.out HM.out);have hmc:m<=vc:=by
    rcases HOw.out.2 with ⟨h1,h2⟩ | ⟨g,cap,cur,h1,_,_,h4,_⟩
    ·omega
    ·cases h1;exact h4
   clear hz c1 had;obtain⟨wo,rfl⟩:∃wo,wo=wr:=⟨_,rfl⟩;go_wp2;go_loopw [6] (fun y wr2=>∃k:Nat,y= .int .i64 k/\k<=m/\Hid (Below wo.heap.size wo wr2)) (fun y _=>m - (intOf y).toNat)
   case atStart=>exact⟨0,rfl,Nat.zero_le _,hid (Below.refl _ _)⟩
   case round=>
    obtain⟨k,rfl,hk,HB⟩:=hrel;have k0:(0:Int)<=(k:Int):=by omega
    have HBr:=hid (HBr0.out.trans (HB.out.mono HBr0.out.size));have c2:wr.cell? (ad.add i)=some (.int .i64 z):=(HBr.out.cell (p:=ad.add i) (by rw[add_blk];exact HAd.out)).trans HCz0.out
    have HCz:=hid c2
    by_cases hkm:k<m
    ·have k1:(k:Int)<(m:Int):=by omega
     have hkM:k<M.length:=by have:=HM.out;omega
     obtain⟨a2,hvo,h2,c3⟩:=(HRM0.out.below HB.out).at hkM;obtain⟨g,hg⟩:∃g,vo=some ⟨g,0,none⟩:=by
      rcases HOw.out.2 with ⟨h1,h2⟩ | ⟨g,cap,cur,h1,_⟩
      ·omega
      ·cases h1;exact⟨g,rfl⟩
     subst hg
     cases hvo
     have hgw:g<wo.heap.size:=(zbA HOw.out).2.1.elim fun cur h=>zab h
     rw[Addr.add_lit,xa] at c3;obtain⟨y,hy⟩:∃y,y=M[k]:=⟨_,rfl⟩;rw[<- hy] at c3;have HY:=hid hy;clear hy h2
     by_cases hyz:y<z
     ·go_wp2_with fail
      go_quiet (fail);have HBd:=hid (show Below wo.heap.size wo (wr.drewN nq) from⟨HB.out.os,HB.out.tape,HB.out.output,HB.out.size,HB.out.block⟩)
      go_wp2;go_roundw
      case rel=>exact⟨k+1,by go_num,by omega,HBd⟩
      case measure=>simp[intOf];omega
     ·have d1:decide (y<z)=false:=decide_eq_false hyz
      go_wp2_with fail;go_quiet (fail);obtain⟨wq,hwq⟩:∃W,W=wr.drewN nq:=⟨_,rfl⟩;have HBq:=hid (show Below wo.heap.size wo wq by rw[hwq];exact⟨HB.out.os,HB.out.tape,HB.out.output,HB.out.size,HB.out.block⟩)
      rw[<- hwq];clear hwq;have c4:wq.cell? (ad.add i)=some (.int .i64 z):=((HBr0.out.trans (HBq.out.mono HBr0.out.size)).cell (p:=ad.add i) (by rw[add_blk];exact HAd.out)).trans HCz0.out
      have c5:wq.cell? ⟨g,k,none⟩=some (.int .i64 y):=(World.cell?_of_block (a:=⟨g,k,none⟩) (by rw[HBq.out.block g hgw,HB.out.block g hgw])).trans c3
      by_cases hyz2:y=z
      ·subst hyz2
       have HPut:=hid (show ∀x∈L.take (i+1),x∈M from fun x hx=>by
        rcases HTk.out x hx with h | h
        ·exact h
        ·rw[h,HY.out];exact List.getElem_mem _)
       have b1:(y==y)=true:=by simp
       go_wp2_with fail;go_quiet (fail);obtain⟨wx,hwq⟩:∃W,W=wq.drewN nq:=⟨_,rfl⟩;have HBx:=hid (show Below wo.heap.size wo wx by rw[hwq];exact⟨HBq.out.os,HBq.out.tape,HBq.out.output,HBq.out.size,HBq.out.block⟩)
       rw[<- hwq];clear hwq;go_wp2;go_roundw
       case rel=>exact⟨i+1,m,some ⟨g,0,none⟩,vc,M,rfl,by go_num,by omega,by omega,HM,hid (zap HOw.out HBx.out),HPut,hid (HBr0.out.trans (HBx.out.mono HBr0.out.size))⟩
       case measure=>simp[intOf];omega
      ·have b1:(y==z)=false:=beq_eq_false_iff_ne.2 hyz2
       go_wp2_with fail;go_quiet (fail);obtain⟨wx,hwq⟩:∃W,W=wq.drewN nq:=⟨_,rfl⟩;have HBx:=hid (show Below wo.heap.size wo wx by rw[hwq];exact⟨HBq.out.os,HBq.out.tape,HBq.out.output,HBq.out.size,HBq.out.block⟩)
       rw[<- hwq];clear hwq;go_wp2_with fail;have HBr:=hid (HBr0.out.trans (HBx.out.mono HBr0.out.size));have HCz:=hid (show wx.cell? (ad.add i)=some (.int .i64 z) from(HBr.out.cell (p:=ad.add i) (by rw[add_blk];exact HAd.out)).trans HCz0.out)
       have HRM:=hid (HRM0.out.below HBx.out);have HPut:=hid (fun(x:Int) (hx:x∈L.take (i+1))=>zlD (M:=M) (k:=k) HTk.out x hx)
       have HLT:=hid (show k=(M.take k).length from by rw[xi,<- HM.out];omega)
       have HLD:=hid (show m - k=(M.drop k).length from by rw[xj,<- HM.out])
       have k3:(k:Int)<=(m:Int):=by omega
       have k4:(m:Int)<=(vc:Int):=by omega
       have k5:(k:Int)<=(vc:Int):=by omega
       have k6:¬vc<k:=by omega
       clear HBq c4 c5 c3 HY b1 hyz hyz2 d1 k1 HTk HCz0;obtain⟨v0,hv0⟩:∃v0,v0=wx.drew:=⟨_,rfl⟩;have HBv:=hid (show Below wx.heap.size wx v0 by rw[hv0];exact(Below.refl _ _).drew)
       have HB0:=hid (Below.refl v0.heap.size v0);have HT:=hid (fun(W:World) (h:Below v0.heap.size v0 W)=>show W.cell? (ad.add i)=some (.int .i64 z)/\True from⟨(((HBv.out.trans (h.mono HBv.out.size))).cell (p:=ad.add i) (by rw[add_blk];exact xe HAd.out (HBr.out.size))).trans HCz.out,trivial⟩)
       have HB0s:=hid (show w3.heap.size<=v0.heap.size from xh HBr.out.size HBv.out.size)
       have HR0:=hid (fun(W:World) (h:Below v0.heap.size v0 W)=>show RdI W (some ⟨g,0,none⟩) M from HRM.out.below (HBv.out.trans (h.mono HBv.out.size)))
       have HRT:=hid (fun(W:World) (h:Below v0.heap.size v0 W)=>zih (n:=k) (HR0.out W h))
       have HRD0:=hid (fun(ao:Option Addr) (hao:ao=if vc=k then some ⟨g,0,none⟩ else some ⟨g,k,none⟩) (W:World) (h:Below v0.heap.size v0 W)=>show RdI W ao (M.drop k) from by
        rw[hao]
        split
        ·rw[xf (by have:=HM.out;omega)];exact zeA _ _
        ·have hd:=zij (n:=k) (HR0.out W h)
         rw[xa] at hd;exact hd)
       refine zby (.one 1 1 (.one 2 1 (.one 3 1 (.one 5 1 (.one 6 1 (.one 7 1 (.one 8 1 (.one 11 1 (.one 12 1 (.one 13 1 (.two 0 9 (.two 4 9 (.one 9 2 (.one 10 2 (.one 14 2 (.one 15 1 .nil)))) (.one 4 2 (.one 10 2 (.one 14 2 (.one 15 1 .nil))))) (.one 0 2 (.one 4 2 (.one 10 2 (.one 14 2 (.one 15 1 .nil)))))))))))))))) (fun _=>True) (fun W=>W.cell? (ad.add i)=some (.int .i64 z)/\True) (fun _=>false) (by kernel_rfl) (by kernel_rfl) (fun j hj=>by cases hj) rfl (by kernel_rfl) trivial (HT.out _ (by rw[hv0];exact Below.refl _ _)) ?_
       rw[<- hv0];clear hv0
       iterate 10 (refine zbI ?_ rfl (by kernel_rfl) (fun w' hS=>?_) ?_;(rotate_left;(obtain⟨s1,_⟩:=hS;go_simp;with_reducible rfl);rotate_left))
       obtain⟨ao,hao⟩:∃ao,ao=(if vc=k then some (⟨g,0,none⟩:Addr) else some ⟨g,k,none⟩):=⟨_,rfl⟩;have HRD:=hid (HRD0.out ao hao)
       try rw[<- hao]
       clear hao HRD0;refine zbW ?x0 ?x9
       case x0=>
        refine zaZ rfl (by kernel_rfl) fun KK hKK=>?_
        go_simp;have HB1:=hid (HB0.out.trans ((below_box (w:=v0) (o:=.cells #[] 3)).mono HB0.out.size));refine hKK _ _ (fun _=>trivial) (HT.out _ HB1.out) ?_
        clear hKK KK;obtain⟨v1,hv1⟩:∃W,W=v0.alloc (.cells #[] 3):=⟨_,rfl⟩;rw[<- hv1] at HB1;rw[<- hv1];have HZ1:=hid (show v1.heap.size=v0.heap.size+1 by rw[hv1];simp)
        have HW1:=hid (show v1.ownsRow v0.heap.size 3 1 (.slice (some ⟨v0.heap.size,0,none⟩) 0 0) 0 (zbw []) by rw[hv1];exact zaC (zdl v0) HB0.out.size)
        have HK1:=hid (show Below v0.heap.size v0 v1 by rw[hv1];exact below_box)
        clear hv1;refine zbW ?x04 ?x09
        case x04=>
         refine zaZ rfl (by kernel_rfl) fun KK hKK=>?_
         refine zav _ _ rfl v0.heap.size (.slice (some ⟨v0.heap.size,0,none⟩) 0 0) 0 [] rfl HW1.out (some ⟨g,0,none⟩) k vc (M.take k) rfl (HRT.out _ HB1.out) HLT.out (by omega) HB1.out.size ?_
         intro vo2 vc2 v2 o2 gr2 hb2;rw[xa] at o2 hb2⊢;have HB2:=hid (HB1.out.trans (grown_below HW1.out gr2 HB1.out.size));have HW2:=hid o2;have HG2:=hid gr2;have HBk2:=hid hb2;refine hKK _ _ (fun _=>trivial) (HT.out _ HB2.out) ?_
         clear hKK KK o2 gr2 hb2;refine zas rfl (by kernel_rfl) fun KK hKK=>?_
         go_simp;have HB3:=hid (HB2.out.trans ((below_box (w:=v2) (o:=.cells #[.int .i64 z] 3)).mono HB2.out.size));refine hKK _ _ (fun _=>trivial) (HT.out _ HB3.out) ?_
         clear hKK KK;obtain⟨v3,hv3⟩:∃W,W=v2.alloc (.cells #[.int .i64 z] 3):=⟨_,rfl⟩;rw[<- hv3] at HB3;rw[<- hv3];have HZ3:=hid (show v3.heap.size=v2.heap.size+1 by rw[hv3];simp)
         have HQ3:=hid (show v3.heap[v2.heap.size]? =some (.cells #[.int .i64 z] 3) by rw[hv3];exact heap_alloc_new _ _)
         have HK3:=hid (show Below v2.heap.size v2 v3 by rw[hv3];exact below_box)
         clear hv3;have HW3:=hid (zap HW2.out HK3.out);refine zas rfl (by kernel_rfl) fun KK hKK=>?_
         refine zav _ _ rfl v0.heap.size (.slice vo2 k vc2) k ([]++M.take k) rfl HW3.out (some ⟨v2.heap.size,0,none⟩) 1 1 [z] rfl (zbm HQ3.out) rfl (by omega) HB3.out.size ?_
         intro vo4 vc4 v4 o4 gr4 hb4;have HB4:=hid (HB3.out.trans (grown_below HW3.out gr4 HB3.out.size));have HW4:=hid o4;have HG4:=hid gr4;have HBk4:=hid hb4;refine hKK _ _ (fun _=>trivial) (HT.out _ HB4.out) ?_
         clear hKK KK o4 gr4 hb4;refine zas rfl (by kernel_rfl) fun KK hKK=>?_
         refine zav _ _ rfl v0.heap.size (.slice vo4 (k+1) vc4) (k+1) ([]++M.take k++[z]) rfl HW4.out (ao) (m - k) (vc - k) (M.drop k) rfl (HRD.out _ HB4.out) HLD.out (by omega) HB4.out.size ?_
         intro vo5 vc5 v5 o5 gr5 hb5;have HB5:=hid (HB4.out.trans (grown_below HW4.out gr5 HB4.out.size));have HW5:=hid o5;have HG5:=hid gr5;have HBk5:=hid hb5;refine hKK _ _ (fun _=>trivial) (HT.out _ HB5.out) ?_
         clear hKK KK o5 gr5 hb5;refine zbI ?_ rfl (by kernel_rfl) (fun w' hS=>?_) ?_;(rotate_left;(go_simp;with_reducible rfl);rotate_left)
         refine zbg (NoPanic.normal ?_);have HFin:=hid (show v5.ownsRow w3.heap.size 3 1 (.slice vo5 (m+1) vc5) (m+1) (zbw (M.take k++[z]++M.drop k)) by
          have h1:=zaC HW5.out HB0s.out;rw[show k+1+(m - k)=m+1 by omega,xb] at h1
          exact h1)
         have HFb:=hid (HBr.out.trans (HBv.out.trans (HB5.out.mono HBv.out.size) |>.mono HBr.out.size))
         have em:k+1+(m - k)=m+1:=by omega
         rw[em];clear em;go_wp2;go_roundw
         case rel=>exact⟨i+1,m+1,vo5,vc5,M.take k++[z]++M.drop k,rfl,by go_num,by omega,by omega,hid (by rw[zeB M z (by rw[<- HM.out];exact hk),<- HM.out]),HFin,HPut,HFb⟩
         case measure=>simp[intOf];omega
        case x09=>
         refine zaZ rfl (by kernel_rfl) fun KK hKK=>?_
         go_simp;have HB2:=hid (HB1.out.trans ((below_box (w:=v1) (o:=.cells #[.int .i64 z] 3)).mono HB1.out.size));refine hKK _ _ (fun _=>trivial) (HT.out _ HB2.out) ?_
         clear hKK KK;obtain⟨v2,hv2⟩:∃W,W=v1.alloc (.cells #[.int .i64 z] 3):=⟨_,rfl⟩;rw[<- hv2] at HB2;rw[<- hv2];have HZ2:=hid (show v2.heap.size=v1.heap.size+1 by rw[hv2];simp)
         have HQ2:=hid (show v2.heap[v1.heap.size]? =some (.cells #[.int .i64 z] 3) by rw[hv2];exact heap_alloc_new _ _)
         have HK2:=hid (show Below v1.heap.size v1 v2 by rw[hv2];exact below_box)
         clear hv2;have HW2:=hid (zap HW1.out HK2.out);refine zas rfl (by kernel_rfl) fun KK hKK=>?_
         refine zav _ _ rfl v0.heap.size (.slice (some ⟨v0.heap.size,0,none⟩) 0 0) 0 [] rfl HW2.out (some ⟨g,0,none⟩) k vc (M.take k) rfl (HRT.out _ HB2.out) HLT.out (by omega) HB2.out.size ?_
         intro vo3 vc3 v3 o3 gr3 hb3;rw[xa] at o3 hb3⊢;have HB3:=hid (HB2.out.trans (grown_below HW2.out gr3 HB2.out.size));have HW3:=hid o3;have HG3:=hid gr3;have HBk3:=hid hb3;have HQ3:=hid (zhC HQ2.out gr3 (by simp[Value.ownBlock];have:=HZ2.out;have:=HZ1.out;omega))
         refine hKK _ _ (fun _=>trivial) (HT.out _ HB3.out) ?_
         clear hKK KK o3 gr3 hb3;refine zas rfl (by kernel_rfl) fun KK hKK=>?_
         refine zav _ _ rfl v0.heap.size (.slice vo3 k vc3) k ([]++M.take k) rfl HW3.out (some ⟨v1.heap.size,0,none⟩) 1 1 [z] rfl (zbm HQ3.out) rfl (by omega) HB3.out.size ?_
         intro vo4 vc4 v4 o4 gr4 hb4;have HB4:=hid (HB3.out.trans (grown_below HW3.out gr4 HB3.out.size));have HW4:=hid o4;have HG4:=hid gr4;have HBk4:=hid hb4;refine hKK _ _ (fun _=>trivial) (HT.out _ HB4.out) ?_
         clear hKK KK o4 gr4 hb4;refine zas rfl (by kernel_rfl) fun KK hKK=>?_
         refine zav _ _ rfl v0.heap.size (.slice vo4 (k+1) vc4) (k+1) ([]++M.take k++[z]) rfl HW4.out (ao) (m - k) (vc - k) (M.drop k) rfl (HRD.out _ HB4.out) HLD.out (by omega) HB4.out.size ?_
         intro vo5 vc5 v5 o5 gr5 hb5;have HB5:=hid (HB4.out.trans (grown_below HW4.out gr5 HB4.out.size));have HW5:=hid o5;have HG5:=hid gr5;have HBk5:=hid hb5;refine hKK _ _ (fun _=>trivial) (HT.out _ HB5.out) ?_
         clear hKK KK o5 gr5 hb5;refine zbI ?_ rfl (by kernel_rfl) (fun w' hS=>?_) ?_;(rotate_left;(go_simp;with_reducible rfl);rotate_left)
         refine zbg (NoPanic.normal ?_);have HFin:=hid (show v5.ownsRow w3.heap.size 3 1 (.slice vo5 (m+1) vc5) (m+1) (zbw (M.take k++[z]++M.drop k)) by
          have h1:=zaC HW5.out HB0s.out;rw[show k+1+(m - k)=m+1 by omega,xb] at h1
          exact h1)
         have HFb:=hid (HBr.out.trans (HBv.out.trans (HB5.out.mono HBv.out.size) |>.mono HBr.out.size))
         have em:k+1+(m - k)=m+1:=by omega
         rw[em];clear em;go_wp2;go_roundw
         case rel=>exact⟨i+1,m+1,vo5,vc5,M.take k++[z]++M.drop k,rfl,by go_num,by omega,by omega,hid (by rw[zeB M z (by rw[<- HM.out];exact hk),<- HM.out]),HFin,HPut,HFb⟩
         case measure=>simp[intOf];omega
       case x9=>
        refine zaZ rfl (by kernel_rfl) fun KK hKK=>?_
        go_simp;have HB1:=hid (HB0.out.trans ((below_box (w:=v0) (o:=.cells #[.int .i64 z] 3)).mono HB0.out.size));refine hKK _ _ (fun _=>trivial) (HT.out _ HB1.out) ?_
        clear hKK KK;obtain⟨v1,hv1⟩:∃W,W=v0.alloc (.cells #[.int .i64 z] 3):=⟨_,rfl⟩;rw[<- hv1] at HB1;rw[<- hv1];have HZ1:=hid (show v1.heap.size=v0.heap.size+1 by rw[hv1];simp)
        have HQ1:=hid (show v1.heap[v0.heap.size]? =some (.cells #[.int .i64 z] 3) by rw[hv1];exact heap_alloc_new _ _)
        have HK1:=hid (show Below v0.heap.size v0 v1 by rw[hv1];exact below_box)
        clear hv1;refine zas rfl (by kernel_rfl) fun KK hKK=>?_
        go_simp;have HB2:=hid (HB1.out.trans ((below_box (w:=v1) (o:=.cells #[] 3)).mono HB1.out.size));refine hKK _ _ (fun _=>trivial) (HT.out _ HB2.out) ?_
        clear hKK KK;obtain⟨v2,hv2⟩:∃W,W=v1.alloc (.cells #[] 3):=⟨_,rfl⟩;rw[<- hv2] at HB2;rw[<- hv2];have HZ2:=hid (show v2.heap.size=v1.heap.size+1 by rw[hv2];simp)
        have HW2:=hid (show v2.ownsRow v0.heap.size 3 1 (.slice (some ⟨v1.heap.size,0,none⟩) 0 0) 0 (zbw []) by rw[hv2];exact zaC (zdl v1) HB1.out.size)
        have HK2:=hid (show Below v1.heap.size v1 v2 by rw[hv2];exact below_box)
        clear hv2;have HQ2:=hid ((HK2.out.block _ (zab HQ1.out)).trans HQ1.out);refine zas rfl (by kernel_rfl) fun KK hKK=>?_
        refine zav _ _ rfl v0.heap.size (.slice (some ⟨v1.heap.size,0,none⟩) 0 0) 0 [] rfl HW2.out (some ⟨g,0,none⟩) k vc (M.take k) rfl (HRT.out _ HB2.out) HLT.out (by omega) HB2.out.size ?_
        intro vo3 vc3 v3 o3 gr3 hb3;rw[xa] at o3 hb3⊢;have HB3:=hid (HB2.out.trans (grown_below HW2.out gr3 HB2.out.size));have HW3:=hid o3;have HG3:=hid gr3;have HBk3:=hid hb3;have HQ3:=hid (zhC HQ2.out gr3 (by simp[Value.ownBlock];have:=HZ2.out;have:=HZ1.out;omega))
        refine hKK _ _ (fun _=>trivial) (HT.out _ HB3.out) ?_
        clear hKK KK o3 gr3 hb3;refine zas rfl (by kernel_rfl) fun KK hKK=>?_
        refine zav _ _ rfl v0.heap.size (.slice vo3 k vc3) k ([]++M.take k) rfl HW3.out (some ⟨v0.heap.size,0,none⟩) 1 1 [z] rfl (zbm HQ3.out) rfl (by omega) HB3.out.size ?_
        intro vo4 vc4 v4 o4 gr4 hb4;have HB4:=hid (HB3.out.trans (grown_below HW3.out gr4 HB3.out.size));have HW4:=hid o4;have HG4:=hid gr4;have HBk4:=hid hb4;refine hKK _ _ (fun _=>trivial) (HT.out _ HB4.out) ?_
        clear hKK KK o4 gr4 hb4;refine zas rfl (by kernel_rfl) fun KK hKK=>?_
        refine zav _ _ rfl v0.heap.size (.slice vo4 (k+1) vc4) (k+1) ([]++M.take k++[z]) rfl HW4.out (ao) (m - k) (vc - k) (M.drop k) rfl (HRD.out _ HB4.out) HLD.out (by omega) HB4.out.size ?_
        intro vo5 vc5 v5 o5 gr5 hb5;have HB5:=hid (HB4.out.trans (grown_below HW4.out gr5 HB4.out.size));have HW5:=hid o5;have HG5:=hid gr5;have HBk5:=hid hb5;refine hKK _ _ (fun _=>trivial) (HT.out _ HB5.out) ?_
        clear hKK KK o5 gr5 hb5;refine zbI ?_ rfl (by kernel_rfl) (fun w' hS=>?_) ?_;(rotate_left;(go_simp;with_reducible rfl);rotate_left)
        refine zbg (NoPanic.normal ?_);have HFin:=hid (show v5.ownsRow w3.heap.size 3 1 (.slice vo5 (m+1) vc5) (m+1) (zbw (M.take k++[z]++M.drop k)) by
         have h1:=zaC HW5.out HB0s.out;rw[show k+1+(m - k)=m+1 by omega,xb] at h1
         exact h1)
        have HFb:=hid (HBr.out.trans (HBv.out.trans (HB5.out.mono HBv.out.size) |>.mono HBr.out.size))
        have em:k+1+(m - k)=m+1:=by omega
        rw[em];clear em;go_wp2;go_roundw
        case rel=>exact⟨i+1,m+1,vo5,vc5,M.take k++[z]++M.drop k,rfl,by go_num,by omega,by omega,hid (by rw[zeB M z (by rw[<- HM.out];exact hk),<- HM.out]),HFin,HPut,HFb⟩
        case measure=>simp[intOf];omega
    ·have k1:¬(k:Int)<(m:Int):=by omega
     have hkm2:k=m:=by omega
     rcases HOw.out.2 with ⟨h1,h2⟩ | ⟨g,cap,cur,h1,h2,h3,h4,h5⟩
     ·cases h1
      obtain rfl:k=0:=by omega
      obtain rfl:M=[]:=List.length_eq_zero_iff.1 HM.out.symm;clear hkm2 HRM0 HOw h2;go_wp2_with fail;go_quiet (fail);obtain⟨wq,hwq⟩:∃W,W=wr.drewN nq:=⟨_,rfl⟩;have HBq:=hid (show Below wo.heap.size wo wq by rw[hwq];exact⟨HB.out.os,HB.out.tape,HB.out.output,HB.out.size,HB.out.block⟩)
      rw[<- hwq];clear hwq;go_wp2_with fail;go_quiet (fail);obtain⟨wx,hwq⟩:∃W,W=wq.drewN nq:=⟨_,rfl⟩;have HBx:=hid (show Below wo.heap.size wo wx by rw[hwq];exact⟨HBq.out.os,HBq.out.tape,HBq.out.output,HBq.out.size,HBq.out.block⟩)
      rw[<- hwq];clear hwq;go_wp2_with fail;have HBr:=hid (HBr0.out.trans (HBx.out.mono HBr0.out.size));have HCz:=hid (show wx.cell? (ad.add i)=some (.int .i64 z) from(HBr.out.cell (p:=ad.add i) (by rw[add_blk];exact HAd.out)).trans HCz0.out)
      have HPut:=hid (fun(x:Int) (hx:x∈L.take (i+1))=>zlD (M:=[]) (k:=0) HTk.out x hx)
      have HLT:=hid (show 0=(([]:List Int).take 0).length from rfl)
      have HLD:=hid (show 0 - 0=(([]:List Int).drop 0).length from rfl)
      clear HBq k1 HTk HCz0;obtain⟨v0,hv0⟩:∃v0,v0=wx.drew:=⟨_,rfl⟩;have HBv:=hid (show Below wx.heap.size wx v0 by rw[hv0];exact(Below.refl _ _).drew)
      have HB0:=hid (Below.refl v0.heap.size v0);have HT:=hid (fun(W:World) (h:Below v0.heap.size v0 W)=>show W.cell? (ad.add i)=some (.int .i64 z)/\True from⟨(((HBv.out.trans (h.mono HBv.out.size))).cell (p:=ad.add i) (by rw[add_blk];exact xe HAd.out (HBr.out.size))).trans HCz.out,trivial⟩)
      have HB0s:=hid (show w3.heap.size<=v0.heap.size from xh HBr.out.size HBv.out.size)
      have HRT:=hid (fun(W:World) (_:Below v0.heap.size v0 W)=>show RdI W none (([]:List Int).take 0) from by rw[List.take_nil];exact zeA _ _)
      have HRD:=hid (fun(W:World) (_:Below v0.heap.size v0 W)=>show RdI W none (([]:List Int).drop 0) from by rw[List.drop_nil];exact zeA _ _)
      refine zby (.one 1 1 (.one 2 1 (.one 3 1 (.one 5 1 (.one 6 1 (.one 7 1 (.one 8 1 (.one 11 1 (.one 12 1 (.one 13 1 (.two 0 9 (.two 4 9 (.one 9 2 (.one 10 2 (.one 14 2 (.one 15 1 .nil)))) (.one 4 2 (.one 10 2 (.one 14 2 (.one 15 1 .nil))))) (.one 0 2 (.one 4 2 (.one 10 2 (.one 14 2 (.one 15 1 .nil)))))))))))))))) (fun _=>True) (fun W=>W.cell? (ad.add i)=some (.int .i64 z)/\True) (fun _=>false) (by kernel_rfl) (by kernel_rfl) (fun j hj=>by cases hj) rfl (by kernel_rfl) trivial (HT.out _ (by rw[hv0];exact Below.refl _ _)) ?_
      rw[<- hv0];clear hv0
      iterate 10 (refine zbI ?_ rfl (by kernel_rfl) (fun w' hS=>?_) ?_;(rotate_left;(obtain⟨s1,_⟩:=hS;go_simp;with_reducible rfl);rotate_left))
      refine zbW ?x0 ?x9
      case x0=>
       refine zaZ rfl (by kernel_rfl) fun KK hKK=>?_
       go_simp;have HB1:=hid (HB0.out.trans ((below_box (w:=v0) (o:=.cells #[] 3)).mono HB0.out.size));refine hKK _ _ (fun _=>trivial) (HT.out _ HB1.out) ?_
       clear hKK KK;obtain⟨v1,hv1⟩:∃W,W=v0.alloc (.cells #[] 3):=⟨_,rfl⟩;rw[<- hv1] at HB1;rw[<- hv1];have HZ1:=hid (show v1.heap.size=v0.heap.size+1 by rw[hv1];simp)
       have HW1:=hid (show v1.ownsRow v0.heap.size 3 1 (.slice (some ⟨v0.heap.size,0,none⟩) 0 0) 0 (zbw []) by rw[hv1];exact zaC (zdl v0) HB0.out.size)
       have HK1:=hid (show Below v0.heap.size v0 v1 by rw[hv1];exact below_box)
       clear hv1;refine zbW ?x04 ?x09
       case x04=>
        refine zaZ rfl (by kernel_rfl) fun KK hKK=>?_
        refine zav _ _ rfl v0.heap.size (.slice (some ⟨v0.heap.size,0,none⟩) 0 0) 0 [] rfl HW1.out (none) 0 0 (([]:List Int).take 0) rfl (HRT.out _ HB1.out) HLT.out (by omega) HB1.out.size ?_
        intro vo2 vc2 v2 o2 gr2 hb2;rw[xa] at o2 hb2⊢;have HB2:=hid (HB1.out.trans (grown_below HW1.out gr2 HB1.out.size));have HW2:=hid o2;have HG2:=hid gr2;have HBk2:=hid hb2;refine hKK _ _ (fun _=>trivial) (HT.out _ HB2.out) ?_
        clear hKK KK o2 gr2 hb2;refine zas rfl (by kernel_rfl) fun KK hKK=>?_
        go_simp;have HB3:=hid (HB2.out.trans ((below_box (w:=v2) (o:=.cells #[.int .i64 z] 3)).mono HB2.out.size));refine hKK _ _ (fun _=>trivial) (HT.out _ HB3.out) ?_
        clear hKK KK;obtain⟨v3,hv3⟩:∃W,W=v2.alloc (.cells #[.int .i64 z] 3):=⟨_,rfl⟩;rw[<- hv3] at HB3;rw[<- hv3];have HZ3:=hid (show v3.heap.size=v2.heap.size+1 by rw[hv3];simp)
        have HQ3:=hid (show v3.heap[v2.heap.size]? =some (.cells #[.int .i64 z] 3) by rw[hv3];exact heap_alloc_new _ _)
        have HK3:=hid (show Below v2.heap.size v2 v3 by rw[hv3];exact below_box)
        clear hv3;have HW3:=hid (zap HW2.out HK3.out);refine zas rfl (by kernel_rfl) fun KK hKK=>?_
        refine zav _ _ rfl v0.heap.size (.slice vo2 0 vc2) 0 ([]++([]:List Int).take 0) rfl HW3.out (some ⟨v2.heap.size,0,none⟩) 1 1 [z] rfl (zbm HQ3.out) rfl (by omega) HB3.out.size ?_
        intro vo4 vc4 v4 o4 gr4 hb4;have HB4:=hid (HB3.out.trans (grown_below HW3.out gr4 HB3.out.size));have HW4:=hid o4;have HG4:=hid gr4;have HBk4:=hid hb4;refine hKK _ _ (fun _=>trivial) (HT.out _ HB4.out) ?_
        clear hKK KK o4 gr4 hb4;refine zas rfl (by kernel_rfl) fun KK hKK=>?_
        refine zav _ _ rfl v0.heap.size (.slice vo4 (0+1) vc4) (0+1) ([]++([]:List Int).take 0++[z]) rfl HW4.out (none) (0 - 0) 0 (([]:List Int).drop 0) rfl (HRD.out _ HB4.out) HLD.out (by omega) HB4.out.size ?_
        intro vo5 vc5 v5 o5 gr5 hb5;have HB5:=hid (HB4.out.trans (grown_below HW4.out gr5 HB4.out.size));have HW5:=hid o5;have HG5:=hid gr5;have HBk5:=hid hb5;refine hKK _ _ (fun _=>trivial) (HT.out _ HB5.out) ?_
        clear hKK KK o5 gr5 hb5;refine zbI ?_ rfl (by kernel_rfl) (fun w' hS=>?_) ?_;(rotate_left;(go_simp;with_reducible rfl);rotate_left)
        refine zbg (NoPanic.normal ?_);have HFin:=hid (show v5.ownsRow w3.heap.size 3 1 (.slice vo5 (0+1) vc5) (0+1) (zbw (([]:List Int).take 0++[z]++([]:List Int).drop 0)) by
         have h1:=zaC HW5.out HB0s.out;rw[show 0+1+(0 - 0)=0+1 by omega,xb] at h1
         exact h1)
        have HFb:=hid (HBr.out.trans (HBv.out.trans (HB5.out.mono HBv.out.size) |>.mono HBr.out.size))
        have em:0+1+(0 - 0)=0+1:=by omega
        rw[em];clear em;go_wp2;go_roundw
        case rel=>exact⟨i+1,0+1,vo5,vc5,([]:List Int).take 0++[z]++([]:List Int).drop 0,rfl,by go_num,by omega,by omega,hid (rfl),HFin,HPut,HFb⟩
        case measure=>simp[intOf];omega
       case x09=>
        refine zaZ rfl (by kernel_rfl) fun KK hKK=>?_
        go_simp;have HB2:=hid (HB1.out.trans ((below_box (w:=v1) (o:=.cells #[.int .i64 z] 3)).mono HB1.out.size));refine hKK _ _ (fun _=>trivial) (HT.out _ HB2.out) ?_
        clear hKK KK;obtain⟨v2,hv2⟩:∃W,W=v1.alloc (.cells #[.int .i64 z] 3):=⟨_,rfl⟩;rw[<- hv2] at HB2;rw[<- hv2];have HZ2:=hid (show v2.heap.size=v1.heap.size+1 by rw[hv2];simp)
        have HQ2:=hid (show v2.heap[v1.heap.size]? =some (.cells #[.int .i64 z] 3) by rw[hv2];exact heap_alloc_new _ _)
        have HK2:=hid (show Below v1.heap.size v1 v2 by rw[hv2];exact below_box)
        clear hv2;have HW2:=hid (zap HW1.out HK2.out);refine zas rfl (by kernel_rfl) fun KK hKK=>?_
        refine zav _ _ rfl v0.heap.size (.slice (some ⟨v0.heap.size,0,none⟩) 0 0) 0 [] rfl HW2.out (none) 0 0 (([]:List Int).take 0) rfl (HRT.out _ HB2.out) HLT.out (by omega) HB2.out.size ?_
        intro vo3 vc3 v3 o3 gr3 hb3;rw[xa] at o3 hb3⊢;have HB3:=hid (HB2.out.trans (grown_below HW2.out gr3 HB2.out.size));have HW3:=hid o3;have HG3:=hid gr3;have HBk3:=hid hb3;have HQ3:=hid (zhC HQ2.out gr3 (by simp[Value.ownBlock];have:=HZ2.out;have:=HZ1.out;omega))
        refine hKK _ _ (fun _=>trivial) (HT.out _ HB3.out) ?_
        clear hKK KK o3 gr3 hb3;refine zas rfl (by kernel_rfl) fun KK hKK=>?_
        refine zav _ _ rfl v0.heap.size (.slice vo3 0 vc3) 0 ([]++([]:List Int).take 0) rfl HW3.out (some ⟨v1.heap.size,0,none⟩) 1 1 [z] rfl (zbm HQ3.out) rfl (by omega) HB3.out.size ?_
        intro vo4 vc4 v4 o4 gr4 hb4;have HB4:=hid (HB3.out.trans (grown_below HW3.out gr4 HB3.out.size));have HW4:=hid o4;have HG4:=hid gr4;have HBk4:=hid hb4;refine hKK _ _ (fun _=>trivial) (HT.out _ HB4.out) ?_
        clear hKK KK o4 gr4 hb4;refine zas rfl (by kernel_rfl) fun KK hKK=>?_
        refine zav _ _ rfl v0.heap.size (.slice vo4 (0+1) vc4) (0+1) ([]++([]:List Int).take 0++[z]) rfl HW4.out (none) (0 - 0) 0 (([]:List Int).drop 0) rfl (HRD.out _ HB4.out) HLD.out (by omega) HB4.out.size ?_
        intro vo5 vc5 v5 o5 gr5 hb5;have HB5:=hid (HB4.out.trans (grown_below HW4.out gr5 HB4.out.size));have HW5:=hid o5;have HG5:=hid gr5;have HBk5:=hid hb5;refine hKK _ _ (fun _=>trivial) (HT.out _ HB5.out) ?_
        clear hKK KK o5 gr5 hb5;refine zbI ?_ rfl (by kernel_rfl) (fun w' hS=>?_) ?_;(rotate_left;(go_simp;with_reducible rfl);rotate_left)
        refine zbg (NoPanic.normal ?_);have HFin:=hid (show v5.ownsRow w3.heap.size 3 1 (.slice vo5 (0+1) vc5) (0+1) (zbw (([]:List Int).take 0++[z]++([]:List Int).drop 0)) by
         have h1:=zaC HW5.out HB0s.out;rw[show 0+1+(0 - 0)=0+1 by omega,xb] at h1
         exact h1)
        have HFb:=hid (HBr.out.trans (HBv.out.trans (HB5.out.mono HBv.out.size) |>.mono HBr.out.size))
        have em:0+1+(0 - 0)=0+1:=by omega
        rw[em];clear em;go_wp2;go_roundw
        case rel=>exact⟨i+1,0+1,vo5,vc5,([]:List Int).take 0++[z]++([]:List Int).drop 0,rfl,by go_num,by omega,by omega,hid (rfl),HFin,HPut,HFb⟩
        case measure=>simp[intOf];omega
      case x9=>
       refine zaZ rfl (by kernel_rfl) fun KK hKK=>?_
       go_simp;have HB1:=hid (HB0.out.trans ((below_box (w:=v0) (o:=.cells #[.int .i64 z] 3)).mono HB0.out.size));refine hKK _ _ (fun _=>trivial) (HT.out _ HB1.out) ?_
       clear hKK KK;obtain⟨v1,hv1⟩:∃W,W=v0.alloc (.cells #[.int .i64 z] 3):=⟨_,rfl⟩;rw[<- hv1] at HB1;rw[<- hv1];have HZ1:=hid (show v1.heap.size=v0.heap.size+1 by rw[hv1];simp)
       have HQ1:=hid (show v1.heap[v0.heap.size]? =some (.cells #[.int .i64 z] 3) by rw[hv1];exact heap_alloc_new _ _)
       have HK1:=hid (show Below v0.heap.size v0 v1 by rw[hv1];exact below_box)
       clear hv1;refine zas rfl (by kernel_rfl) fun KK hKK=>?_
       go_simp;have HB2:=hid (HB1.out.trans ((below_box (w:=v1) (o:=.cells #[] 3)).mono HB1.out.size));refine hKK _ _ (fun _=>trivial) (HT.out _ HB2.out) ?_
       clear hKK KK;obtain⟨v2,hv2⟩:∃W,W=v1.alloc (.cells #[] 3):=⟨_,rfl⟩;rw[<- hv2] at HB2;rw[<- hv2];have HZ2:=hid (show v2.heap.size=v1.heap.size+1 by rw[hv2];simp)
       have HW2:=hid (show v2.ownsRow v0.heap.size 3 1 (.slice (some ⟨v1.heap.size,0,none⟩) 0 0) 0 (zbw []) by rw[hv2];exact zaC (zdl v1) HB1.out.size)
       have HK2:=hid (show Below v1.heap.size v1 v2 by rw[hv2];exact below_box)
       clear hv2;have HQ2:=hid ((HK2.out.block _ (zab HQ1.out)).trans HQ1.out);refine zas rfl (by kernel_rfl) fun KK hKK=>?_
       refine zav _ _ rfl v0.heap.size (.slice (some ⟨v1.heap.size,0,none⟩) 0 0) 0 [] rfl HW2.out (none) 0 0 (([]:List Int).take 0) rfl (HRT.out _ HB2.out) HLT.out (by omega) HB2.out.size ?_
       intro vo3 vc3 v3 o3 gr3 hb3;rw[xa] at o3 hb3⊢;have HB3:=hid (HB2.out.trans (grown_below HW2.out gr3 HB2.out.size));have HW3:=hid o3;have HG3:=hid gr3;have HBk3:=hid hb3;have HQ3:=hid (zhC HQ2.out gr3 (by simp[Value.ownBlock];have:=HZ2.out;have:=HZ1.out;omega))
       refine hKK _ _ (fun _=>trivial) (HT.out _ HB3.out) ?_
       clear hKK KK o3 gr3 hb3;refine zas rfl (by kernel_rfl) fun KK hKK=>?_
       refine zav _ _ rfl v0.heap.size (.slice vo3 0 vc3) 0 ([]++([]:List Int).take 0) rfl HW3.out (some ⟨v0.heap.size,0,none⟩) 1 1 [z] rfl (zbm HQ3.out) rfl (by omega) HB3.out.size ?_
       intro vo4 vc4 v4 o4 gr4 hb4;have HB4:=hid (HB3.out.trans (grown_below HW3.out gr4 HB3.out.size));have HW4:=hid o4;have HG4:=hid gr4;have HBk4:=hid hb4;refine hKK _ _ (fun _=>trivial) (HT.out _ HB4.out) ?_
       clear hKK KK o4 gr4 hb4;refine zas rfl (by kernel_rfl) fun KK hKK=>?_
       refine zav _ _ rfl v0.heap.size (.slice vo4 (0+1) vc4) (0+1) ([]++([]:List Int).take 0++[z]) rfl HW4.out (none) (0 - 0) 0 (([]:List Int).drop 0) rfl (HRD.out _ HB4.out) HLD.out (by omega) HB4.out.size ?_
       intro vo5 vc5 v5 o5 gr5 hb5;have HB5:=hid (HB4.out.trans (grown_below HW4.out gr5 HB4.out.size));have HW5:=hid o5;have HG5:=hid gr5;have HBk5:=hid hb5;refine hKK _ _ (fun _=>trivial) (HT.out _ HB5.out) ?_
       clear hKK KK o5 gr5 hb5;refine zbI ?_ rfl (by kernel_rfl) (fun w' hS=>?_) ?_;(rotate_left;(go_simp;with_reducible rfl);rotate_left)
       refine zbg (NoPanic.normal ?_);have HFin:=hid (show v5.ownsRow w3.heap.size 3 1 (.slice vo5 (0+1) vc5) (0+1) (zbw (([]:List Int).take 0++[z]++([]:List Int).drop 0)) by
        have h1:=zaC HW5.out HB0s.out;rw[show 0+1+(0 - 0)=0+1 by omega,xb] at h1
        exact h1)
       have HFb:=hid (HBr.out.trans (HBv.out.trans (HB5.out.mono HBv.out.size) |>.mono HBr.out.size))
       have em:0+1+(0 - 0)=0+1:=by omega
       rw[em];clear em;go_wp2;go_roundw
       case rel=>exact⟨i+1,0+1,vo5,vc5,([]:List Int).take 0++[z]++([]:List Int).drop 0,rfl,by go_num,by omega,by omega,hid (rfl),HFin,HPut,HFb⟩
       case measure=>simp[intOf];omega
     ·cases h1
      have HKM:=hid hkm2;clear hkm2 h2 h3 h4 h5;go_wp2_with fail;go_quiet (fail);obtain⟨wq,hwq⟩:∃W,W=wr.drewN nq:=⟨_,rfl⟩;have HBq:=hid (show Below wo.heap.size wo wq by rw[hwq];exact⟨HB.out.os,HB.out.tape,HB.out.output,HB.out.size,HB.out.block⟩)
      rw[<- hwq];clear hwq;go_wp2_with fail;go_quiet (fail);obtain⟨wx,hwq⟩:∃W,W=wq.drewN nq:=⟨_,rfl⟩;have HBx:=hid (show Below wo.heap.size wo wx by rw[hwq];exact⟨HBq.out.os,HBq.out.tape,HBq.out.output,HBq.out.size,HBq.out.block⟩)
      rw[<- hwq];clear hwq;go_wp2_with fail;have HBr:=hid (HBr0.out.trans (HBx.out.mono HBr0.out.size));have HCz:=hid (show wx.cell? (ad.add i)=some (.int .i64 z) from(HBr.out.cell (p:=ad.add i) (by rw[add_blk];exact HAd.out)).trans HCz0.out)
      have HRM:=hid (HRM0.out.below HBx.out);have HPut:=hid (fun(x:Int) (hx:x∈L.take (i+1))=>zlD (M:=M) (k:=k) HTk.out x hx)
      have HLT:=hid (show k=(M.take k).length from by rw[xi,<- HM.out];omega)
      have HLD:=hid (show m - k=(M.drop k).length from by rw[xj,<- HM.out])
      have k3:(k:Int)<=(m:Int):=by omega
      have k4:(m:Int)<=(vc:Int):=by omega
      have k5:(k:Int)<=(vc:Int):=by omega
      have k6:¬vc<k:=by omega
      clear HBq k1 HTk HCz0;obtain⟨v0,hv0⟩:∃v0,v0=wx.drew:=⟨_,rfl⟩;have HBv:=hid (show Below wx.heap.size wx v0 by rw[hv0];exact(Below.refl _ _).drew)
      have HB0:=hid (Below.refl v0.heap.size v0);have HT:=hid (fun(W:World) (h:Below v0.heap.size v0 W)=>show W.cell? (ad.add i)=some (.int .i64 z)/\True from⟨(((HBv.out.trans (h.mono HBv.out.size))).cell (p:=ad.add i) (by rw[add_blk];exact xe HAd.out (HBr.out.size))).trans HCz.out,trivial⟩)
      have HB0s:=hid (show w3.heap.size<=v0.heap.size from xh HBr.out.size HBv.out.size)
      have HR0:=hid (fun(W:World) (h:Below v0.heap.size v0 W)=>show RdI W (some ⟨g,0,none⟩) M from HRM.out.below (HBv.out.trans (h.mono HBv.out.size)))
      have HRT:=hid (fun(W:World) (h:Below v0.heap.size v0 W)=>zih (n:=k) (HR0.out W h))
      have HRD0:=hid (fun(ao:Option Addr) (hao:ao=if vc=k then some ⟨g,0,none⟩ else some ⟨g,k,none⟩) (W:World) (h:Below v0.heap.size v0 W)=>show RdI W ao (M.drop k) from by
       rw[hao]
       split
       ·rw[xf (by have:=HM.out;omega)];exact zeA _ _
       ·have hd:=zij (n:=k) (HR0.out W h)
        rw[xa] at hd;exact hd)
      refine zby (.one 1 1 (.one 2 1 (.one 3 1 (.one 5 1 (.one 6 1 (.one 7 1 (.one 8 1 (.one 11 1 (.one 12 1 (.one 13 1 (.two 0 9 (.two 4 9 (.one 9 2 (.one 10 2 (.one 14 2 (.one 15 1 .nil)))) (.one 4 2 (.one 10 2 (.one 14 2 (.one 15 1 .nil))))) (.one 0 2 (.one 4 2 (.one 10 2 (.one 14 2 (.one 15 1 .nil)))))))))))))))) (fun _=>True) (fun W=>W.cell? (ad.add i)=some (.int .i64 z)/\True) (fun _=>false) (by kernel_rfl) (by kernel_rfl) (fun j hj=>by cases hj) rfl (by kernel_rfl) trivial (HT.out _ (by rw[hv0];exact Below.refl _ _)) ?_
      rw[<- hv0];clear hv0
      iterate 10 (refine zbI ?_ rfl (by kernel_rfl) (fun w' hS=>?_) ?_;(rotate_left;(obtain⟨s1,_⟩:=hS;go_simp;with_reducible rfl);rotate_left))
      obtain⟨ao,hao⟩:∃ao,ao=(if vc=k then some (⟨g,0,none⟩:Addr) else some ⟨g,k,none⟩):=⟨_,rfl⟩;have HRD:=hid (HRD0.out ao hao)
      try rw[<- hao]
      clear hao HRD0;refine zbW ?x0 ?x9
      case x0=>
       refine zaZ rfl (by kernel_rfl) fun KK hKK=>?_
       go_simp;have HB1:=hid (HB0.out.trans ((below_box (w:=v0) (o:=.cells #[] 3)).mono HB0.out.size));refine hKK _ _ (fun _=>trivial) (HT.out _ HB1.out) ?_
       clear hKK KK;obtain⟨v1,hv1⟩:∃W,W=v0.alloc (.cells #[] 3):=⟨_,rfl⟩;rw[<- hv1] at HB1;rw[<- hv1];have HZ1:=hid (show v1.heap.size=v0.heap.size+1 by rw[hv1];simp)
       have HW1:=hid (show v1.ownsRow v0.heap.size 3 1 (.slice (some ⟨v0.heap.size,0,none⟩) 0 0) 0 (zbw []) by rw[hv1];exact zaC (zdl v0) HB0.out.size)
       have HK1:=hid (show Below v0.heap.size v0 v1 by rw[hv1];exact below_box)
       clear hv1;refine zbW ?x04 ?x09
       case x04=>
        refine zaZ rfl (by kernel_rfl) fun KK hKK=>?_
        refine zav _ _ rfl v0.heap.size (.slice (some ⟨v0.heap.size,0,none⟩) 0 0) 0 [] rfl HW1.out (some ⟨g,0,none⟩) k vc (M.take k) rfl (HRT.out _ HB1.out) HLT.out (by omega) HB1.out.size ?_
        intro vo2 vc2 v2 o2 gr2 hb2;rw[xa] at o2 hb2⊢;have HB2:=hid (HB1.out.trans (grown_below HW1.out gr2 HB1.out.size));have HW2:=hid o2;have HG2:=hid gr2;have HBk2:=hid hb2;refine hKK _ _ (fun _=>trivial) (HT.out _ HB2.out) ?_
        clear hKK KK o2 gr2 hb2;refine zas rfl (by kernel_rfl) fun KK hKK=>?_
        go_simp;have HB3:=hid (HB2.out.trans ((below_box (w:=v2) (o:=.cells #[.int .i64 z] 3)).mono HB2.out.size));refine hKK _ _ (fun _=>trivial) (HT.out _ HB3.out) ?_
        clear hKK KK;obtain⟨v3,hv3⟩:∃W,W=v2.alloc (.cells #[.int .i64 z] 3):=⟨_,rfl⟩;rw[<- hv3] at HB3;rw[<- hv3];have HZ3:=hid (show v3.heap.size=v2.heap.size+1 by rw[hv3];simp)
        have HQ3:=hid (show v3.heap[v2.heap.size]? =some (.cells #[.int .i64 z] 3) by rw[hv3];exact heap_alloc_new _ _)
        have HK3:=hid (show Below v2.heap.size v2 v3 by rw[hv3];exact below_box)
        clear hv3;have HW3:=hid (zap HW2.out HK3.out);refine zas rfl (by kernel_rfl) fun KK hKK=>?_
        refine zav _ _ rfl v0.heap.size (.slice vo2 k vc2) k ([]++M.take k) rfl HW3.out (some ⟨v2.heap.size,0,none⟩) 1 1 [z] rfl (zbm HQ3.out) rfl (by omega) HB3.out.size ?_
        intro vo4 vc4 v4 o4 gr4 hb4;have HB4:=hid (HB3.out.trans (grown_below HW3.out gr4 HB3.out.size));have HW4:=hid o4;have HG4:=hid gr4;have HBk4:=hid hb4;refine hKK _ _ (fun _=>trivial) (HT.out _ HB4.out) ?_
        clear hKK KK o4 gr4 hb4;refine zas rfl (by kernel_rfl) fun KK hKK=>?_
        refine zav _ _ rfl v0.heap.size (.slice vo4 (k+1) vc4) (k+1) ([]++M.take k++[z]) rfl HW4.out (ao) (m - k) (vc - k) (M.drop k) rfl (HRD.out _ HB4.out) HLD.out (by omega) HB4.out.size ?_
        intro vo5 vc5 v5 o5 gr5 hb5;have HB5:=hid (HB4.out.trans (grown_below HW4.out gr5 HB4.out.size));have HW5:=hid o5;have HG5:=hid gr5;have HBk5:=hid hb5;refine hKK _ _ (fun _=>trivial) (HT.out _ HB5.out) ?_
        clear hKK KK o5 gr5 hb5;refine zbI ?_ rfl (by kernel_rfl) (fun w' hS=>?_) ?_;(rotate_left;(go_simp;with_reducible rfl);rotate_left)
        refine zbg (NoPanic.normal ?_);have HFin:=hid (show v5.ownsRow w3.heap.size 3 1 (.slice vo5 (m+1) vc5) (m+1) (zbw (M.take k++[z]++M.drop k)) by
         have h1:=zaC HW5.out HB0s.out;rw[show k+1+(m - k)=m+1 by omega,xb] at h1
         exact h1)
        have HFb:=hid (HBr.out.trans (HBv.out.trans (HB5.out.mono HBv.out.size) |>.mono HBr.out.size))
        have em:k+1+(m - k)=m+1:=by omega
        rw[em];clear em;go_wp2;go_roundw
        case rel=>exact⟨i+1,m+1,vo5,vc5,M.take k++[z]++M.drop k,rfl,by go_num,by omega,by omega,hid (by rw[zeB M z (by rw[<- HM.out];exact hk),<- HM.out]),HFin,HPut,HFb⟩
        case measure=>simp[intOf];omega
       case x09=>
        refine zaZ rfl (by kernel_rfl) fun KK hKK=>?_
        go_simp;have HB2:=hid (HB1.out.trans ((below_box (w:=v1) (o:=.cells #[.int .i64 z] 3)).mono HB1.out.size));refine hKK _ _ (fun _=>trivial) (HT.out _ HB2.out) ?_
        clear hKK KK;obtain⟨v2,hv2⟩:∃W,W=v1.alloc (.cells #[.int .i64 z] 3):=⟨_,rfl⟩;rw[<- hv2] at HB2;rw[<- hv2];have HZ2:=hid (show v2.heap.size=v1.heap.size+1 by rw[hv2];simp)
        have HQ2:=hid (show v2.heap[v1.heap.size]? =some (.cells #[.int .i64 z] 3) by rw[hv2];exact heap_alloc_new _ _)
        have HK2:=hid (show Below v1.heap.size v1 v2 by rw[hv2];exact below_box)
        clear hv2;have HW2:=hid (zap HW1.out HK2.out);refine zas rfl (by kernel_rfl) fun KK hKK=>?_
        refine zav _ _ rfl v0.heap.size (.slice (some ⟨v0.heap.size,0,none⟩) 0 0) 0 [] rfl HW2.out (some ⟨g,0,none⟩) k vc (M.take k) rfl (HRT.out _ HB2.out) HLT.out (by omega) HB2.out.size ?_
        intro vo3 vc3 v3 o3 gr3 hb3;rw[xa] at o3 hb3⊢;have HB3:=hid (HB2.out.trans (grown_below HW2.out gr3 HB2.out.size));have HW3:=hid o3;have HG3:=hid gr3;have HBk3:=hid hb3;have HQ3:=hid (zhC HQ2.out gr3 (by simp[Value.ownBlock];have:=HZ2.out;have:=HZ1.out;omega))
        refine hKK _ _ (fun _=>trivial) (HT.out _ HB3.out) ?_
        clear hKK KK o3 gr3 hb3;refine zas rfl (by kernel_rfl) fun KK hKK=>?_
        refine zav _ _ rfl v0.heap.size (.slice vo3 k vc3) k ([]++M.take k) rfl HW3.out (some ⟨v1.heap.size,0,none⟩) 1 1 [z] rfl (zbm HQ3.out) rfl (by omega) HB3.out.size ?_
        intro vo4 vc4 v4 o4 gr4 hb4;have HB4:=hid (HB3.out.trans (grown_below HW3.out gr4 HB3.out.size));have HW4:=hid o4;have HG4:=hid gr4;have HBk4:=hid hb4;refine hKK _ _ (fun _=>trivial) (HT.out _ HB4.out) ?_
        clear hKK KK o4 gr4 hb4;refine zas rfl (by kernel_rfl) fun KK hKK=>?_
        refine zav _ _ rfl v0.heap.size (.slice vo4 (k+1) vc4) (k+1) ([]++M.take k++[z]) rfl HW4.out (ao) (m - k) (vc - k) (M.drop k) rfl (HRD.out _ HB4.out) HLD.out (by omega) HB4.out.size ?_
        intro vo5 vc5 v5 o5 gr5 hb5;have HB5:=hid (HB4.out.trans (grown_below HW4.out gr5 HB4.out.size));have HW5:=hid o5;have HG5:=hid gr5;have HBk5:=hid hb5;refine hKK _ _ (fun _=>trivial) (HT.out _ HB5.out) ?_
        clear hKK KK o5 gr5 hb5;refine zbI ?_ rfl (by kernel_rfl) (fun w' hS=>?_) ?_;(rotate_left;(go_simp;with_reducible rfl);rotate_left)
        refine zbg (NoPanic.normal ?_);have HFin:=hid (show v5.ownsRow w3.heap.size 3 1 (.slice vo5 (m+1) vc5) (m+1) (zbw (M.take k++[z]++M.drop k)) by
         have h1:=zaC HW5.out HB0s.out;rw[show k+1+(m - k)=m+1 by omega,xb] at h1
         exact h1)
        have HFb:=hid (HBr.out.trans (HBv.out.trans (HB5.out.mono HBv.out.size) |>.mono HBr.out.size))
        have em:k+1+(m - k)=m+1:=by omega
        rw[em];clear em;go_wp2;go_roundw
        case rel=>exact⟨i+1,m+1,vo5,vc5,M.take k++[z]++M.drop k,rfl,by go_num,by omega,by omega,hid (by rw[zeB M z (by rw[<- HM.out];exact hk),<- HM.out]),HFin,HPut,HFb⟩
        case measure=>simp[intOf];omega
      case x9=>
       refine zaZ rfl (by kernel_rfl) fun KK hKK=>?_
       go_simp;have HB1:=hid (HB0.out.trans ((below_box (w:=v0) (o:=.cells #[.int .i64 z] 3)).mono HB0.out.size));refine hKK _ _ (fun _=>trivial) (HT.out _ HB1.out) ?_
       clear hKK KK;obtain⟨v1,hv1⟩:∃W,W=v0.alloc (.cells #[.int .i64 z] 3):=⟨_,rfl⟩;rw[<- hv1] at HB1;rw[<- hv1];have HZ1:=hid (show v1.heap.size=v0.heap.size+1 by rw[hv1];simp)
       have HQ1:=hid (show v1.heap[v0.heap.size]? =some (.cells #[.int .i64 z] 3) by rw[hv1];exact heap_alloc_new _ _)
       have HK1:=hid (show Below v0.heap.size v0 v1 by rw[hv1];exact below_box)
       clear hv1;refine zas rfl (by kernel_rfl) fun KK hKK=>?_
       go_simp;have HB2:=hid (HB1.out.trans ((below_box (w:=v1) (o:=.cells #[] 3)).mono HB1.out.size));refine hKK _ _ (fun _=>trivial) (HT.out _ HB2.out) ?_
       clear hKK KK;obtain⟨v2,hv2⟩:∃W,W=v1.alloc (.cells #[] 3):=⟨_,rfl⟩;rw[<- hv2] at HB2;rw[<- hv2];have HZ2:=hid (show v2.heap.size=v1.heap.size+1 by rw[hv2];simp)
       have HW2:=hid (show v2.ownsRow v0.heap.size 3 1 (.slice (some ⟨v1.heap.size,0,none⟩) 0 0) 0 (zbw []) by rw[hv2];exact zaC (zdl v1) HB1.out.size)
       have HK2:=hid (show Below v1.heap.size v1 v2 by rw[hv2];exact below_box)
       clear hv2;have HQ2:=hid ((HK2.out.block _ (zab HQ1.out)).trans HQ1.out);refine zas rfl (by kernel_rfl) fun KK hKK=>?_
       refine zav _ _ rfl v0.heap.size (.slice (some ⟨v1.heap.size,0,none⟩) 0 0) 0 [] rfl HW2.out (some ⟨g,0,none⟩) k vc (M.take k) rfl (HRT.out _ HB2.out) HLT.out (by omega) HB2.out.size ?_
       intro vo3 vc3 v3 o3 gr3 hb3;rw[xa] at o3 hb3⊢;have HB3:=hid (HB2.out.trans (grown_below HW2.out gr3 HB2.out.size));have HW3:=hid o3;have HG3:=hid gr3;have HBk3:=hid hb3;have HQ3:=hid (zhC HQ2.out gr3 (by simp[Value.ownBlock];have:=HZ2.out;have:=HZ1.out;omega))
       refine hKK _ _ (fun _=>trivial) (HT.out _ HB3.out) ?_
       clear hKK KK o3 gr3 hb3;refine zas rfl (by kernel_rfl) fun KK hKK=>?_
       refine zav _ _ rfl v0.heap.size (.slice vo3 k vc3) k ([]++M.take k) rfl HW3.out (some ⟨v0.heap.size,0,none⟩) 1 1 [z] rfl (zbm HQ3.out) rfl (by omega) HB3.out.size ?_
       intro vo4 vc4 v4 o4 gr4 hb4;have HB4:=hid (HB3.out.trans (grown_below HW3.out gr4 HB3.out.size));have HW4:=hid o4;have HG4:=hid gr4;have HBk4:=hid hb4;refine hKK _ _ (fun _=>trivial) (HT.out _ HB4.out) ?_
       clear hKK KK o4 gr4 hb4;refine zas rfl (by kernel_rfl) fun KK hKK=>?_
       refine zav _ _ rfl v0.heap.size (.slice vo4 (k+1) vc4) (k+1) ([]++M.take k++[z]) rfl HW4.out (ao) (m - k) (vc - k) (M.drop k) rfl (HRD.out _ HB4.out) HLD.out (by omega) HB4.out.size ?_
       intro vo5 vc5 v5 o5 gr5 hb5;have HB5:=hid (HB4.out.trans (grown_below HW4.out gr5 HB4.out.size));have HW5:=hid o5;have HG5:=hid gr5;have HBk5:=hid hb5;refine hKK _ _ (fun _=>trivial) (HT.out _ HB5.out) ?_
       clear hKK KK o5 gr5 hb5;refine zbI ?_ rfl (by kernel_rfl) (fun w' hS=>?_) ?_;(rotate_left;(go_simp;with_reducible rfl);rotate_left)
       refine zbg (NoPanic.normal ?_);have HFin:=hid (show v5.ownsRow w3.heap.size 3 1 (.slice vo5 (m+1) vc5) (m+1) (zbw (M.take k++[z]++M.drop k)) by
        have h1:=zaC HW5.out HB0s.out;rw[show k+1+(m - k)=m+1 by omega,xb] at h1
        exact h1)
       have HFb:=hid (HBr.out.trans (HBv.out.trans (HB5.out.mono HBv.out.size) |>.mono HBr.out.size))
       have em:k+1+(m - k)=m+1:=by omega
       rw[em];clear em;go_wp2;go_roundw
       case rel=>exact⟨i+1,m+1,vo5,vc5,M.take k++[z]++M.drop k,rfl,by go_num,by omega,by omega,hid (by rw[zeB M z (by rw[<- HM.out];exact hk),<- HM.out]),HFin,HPut,HFb⟩
       case measure=>simp[intOf];omega
  ·have i1:¬(i:Int)<(n:Int):=by omega
   have HQ:=hid (show FlQ p w (.returned (.slice vo m vc)) wr from⟨vo,vc,M,by rw[HM.out],zrJ HOw.out HM.out HB3.out.size,HF.out.mono fun x hx=>HIn.out x (by rw[List.take_of_length_le (by have:=HNn.out;omega)];exact hx),by have:=HM.out;omega,HB3.out.trans (HBr0.out.mono HB3.out.size)⟩)
   go_wp2;go_ret;exact HQ.out
end Pt
end
end Go.Proofs.YtbbapnpdfcgjnaaGreatDoor
