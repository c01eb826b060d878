/- LnRd: parts of the proof, joined. -/
import Derived.Test.YtbbapnpdfcgjnaaGreatDoorNLnCut
import Derived.Test.YtbbapnpdfcgjnaaGreatDoorNPwKit
set_option maxHeartbeats 64000000
namespace Go.Proofs.YtbbapnpdfcgjnaaGreatDoor
namespace Ln
open Go.RowKit
theorem zaE:∀(P:List (Nat × Bool)) (k:Nat) (x:Nat × Bool),P[k]? =some x->∀j,j<2->(du P)[k * 2+j]? =(ch2 x)[j]?
 | [],k,x,h,_,_=>by simp at h
 | y::P,0,x,h,j,hj=>by
  rw[List.getElem?_cons_zero] at h
  cases h
  show(ch2 y++du P)[0 * 2+j]? =_
  rw[Nat.zero_mul,Nat.zero_add,List.getElem?_append_left (by show j<2;exact hj)]
 | y::P,k+1,x,h,j,hj=>by
  rw[List.getElem?_cons_succ] at h
  show(ch2 y++du P)[(k+1) * 2+j]? =_
  rw[List.getElem?_append_right (by show 2<=_;omega),show(k+1) * 2+j - (ch2 y).length=k * 2+j by show(k+1) * 2+j - 2=_;omega]
  exact zaE P k x h j hj
def qq (w:World) (vo:Option Addr) (P:List (Nat × Bool)):Prop:=∀(k:Nat) (x:Nat × Bool),P[k]? =some x->∃g,vo=some ⟨g,0,none⟩/\g<w.heap.size/\w.cell? ⟨g,k * 2,none⟩=some (.int .i64 (x.1:Nat))/\w.cell? ⟨g,k * 2+1,none⟩=some (.bool x.2)
theorem qq.below {w w':World} {vo:Option Addr} {P:List (Nat × Bool)} (h:qq w vo P) (hb:Below w.heap.size w w'):qq w' vo P:=fun k x hx=>by
 obtain⟨g,h1,h2,h3,h4⟩:=h k x hx;exact⟨g,h1,Nat.lt_of_lt_of_le h2 hb.size,(hb.cell (p:=⟨g,k * 2,none⟩) h2).trans h3,(hb.cell (p:=⟨g,k * 2+1,none⟩) h2).trans h4⟩
theorem qq.set {w:World} {vo:Option Addr} {P:List (Nat × Bool)} (h:qq w vo P) (G i:Nat) (v:Value) (hne:∀b,vo=some ⟨b,0,none⟩->b≠G):qq (w.setCell ⟨G,i,none⟩ v) vo P:=fun k x hx=>by
 obtain⟨g,h1,h2,h3,h4⟩:=h k x hx;have hb:(w.setCell ⟨G,i,none⟩ v).heap[g]? =w.heap[g]? :=Below.heap_setCell _ _ _ g (hne g h1);refine⟨g,h1,by simpa using h2,?_,?_⟩
 ·exact(World.cell?_of_block (w:=w) (a:=⟨g,k * 2,none⟩) hb).trans h3
 ·exact(World.cell?_of_block (w:=w) (a:=⟨g,k * 2+1,none⟩) hb).trans h4
theorem zaV {w:World} {B:Nat} {v:Value} {P:List (Nat × Bool)} (h:w.ownsRow B 53 2 v P.length (du P)):
  ∃vo vc,v= .slice vo P.length vc/\qq w vo P/\((P.length=0/\vo=none)\/∃g cur,vo=some ⟨g,0,none⟩/\B<=g/\Pw.Cb w g cur 53/\P.length * 2<=cur.size):=by
 rcases h.2 with ⟨h1,h2⟩ | ⟨g,cap,cur,h1,h2,h3,h4,h5,h6,h7⟩
 ·exact⟨none,0,by rw[h1,h2],fun k x hx=>by have:=(List.getElem?_eq_some_iff.1 hx).1;omega,.inl ⟨h2,rfl⟩⟩
 ·subst h1
  refine⟨_,_,rfl,fun k x hx=>?_,.inr ⟨g,cur,rfl,h2,h3,by rw[h6];exact Nat.mul_le_mul_right 2 h4⟩⟩
  obtain⟨_,_,_,hc⟩:=Pt.cW h;exact⟨g,rfl,Pt.ae h3,hc _ _ ((zaE P k x hx 0 (by decide)).trans rfl),hc _ _ ((zaE P k x hx 1 (by decide)).trans rfl)⟩
theorem pJ (ao bo:Option Addr) (n ac bc:Nat) (P:List (Nat × Bool)) (w:World) (ha:qq w ao P) (hb:qq w bo P) (hn:n=P.length) (hl:n<=100000):
  Calls Tryz.prog 33 #[.slice ao n ac,.slice bo n bc] w fun e w'=>e= .returned (.bool true)/\Below w.heap.size w w':=by
 have HA:=hid ha;have HB:=hid hb;have HN:=hid hn;clear ha hb hn;go_enter Tryz.func33,Tryz.ntmps33;go_wp2;go_loopw [5] (fun y wr=>∃i:Nat,y= .int .i64 i/\i<=n/\Hid (Below w.heap.size w wr)) (fun y _=>n - (intOf y).toNat)
 case atStart=>exact⟨0,rfl,Nat.zero_le _,hid (Below.refl _ _)⟩
 case round=>
  obtain⟨i,rfl,hi,HW⟩:=hrel
  by_cases hlt:i<n
  ·have k0:(0:Int)<=(i:Int):=by omega
   have k1:(i:Int)<(n:Int):=by omega
   have hiP:i<P.length:=by have:=HN.out;omega
   obtain⟨x,hx⟩:∃x,P[i]? =some x:=⟨_,List.getElem?_eq_getElem hiP⟩;obtain⟨g,rfl,_,a0,a1⟩:=HA.out.below HW.out i x hx;obtain⟨g2,rfl,_,b0,b1⟩:=HB.out.below HW.out i x hx;obtain⟨p,hp⟩:∃p,p=x.1:=⟨_,rfl⟩;obtain⟨m,hm⟩:∃m,m=x.2:=⟨_,rfl⟩;rw[<- hp] at a0 b0;rw[<- hm] at a1 b1;clear hp hm hx hiP;go_wp2_with fail;go_quiet (fail);obtain⟨wx,hwx⟩:∃v,v=wr.drewN nq:=⟨_,rfl⟩;have HX:=hid (show Below w.heap.size w wx by rw[hwx];exact⟨HW.out.os,HW.out.tape,HW.out.output,HW.out.size,HW.out.block⟩)
   rw[<- hwx];clear hwx a0 a1 b0 b1;go_wp2;go_roundw
   case rel=>exact⟨i+1,by go_num,by omega,HX⟩
   case measure=>simp[intOf];omega
  ·have k1:¬(i:Int)<(n:Int):=by omega
   go_wp2;go_ret;exact⟨rfl,HW.out⟩
end Ln
end Go.Proofs.YtbbapnpdfcgjnaaGreatDoor
