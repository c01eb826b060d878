/- LnNm: parts of the proof, joined. -/
import Derived.Test.YtbbapnpdfcgjnaaGreatDoorEDcNm
import Derived.Test.YtbbapnpdfcgjnaaGreatDoorELnDb
set_option maxHeartbeats 64000000
namespace Go.Proofs.YtbbapnpdfcgjnaaGreatDoor
namespace Dc
open Go.RowKit
set_option maxRecDepth 100000 in
theorem zqv(U:List (List UInt8))(A:List Tr)(Q:Nat)(r:Int)(w:World)(h:Bk U A Q w)(hC:mL 0 A 1114112)(hc:∀g∈A,g.2.2<U.length)(hn:U.length<=1000)(hl:A.length<=10000000)(b:List UInt8)(hb:U[gtp (cj r) A]?=some b):
  Calls Tryz.prog 61 #[.pointer (some ⟨Q,0,none⟩),.int .i32 r] w fun e w'=>e=.returned (.string ⟨b.toArray⟩)/\Below w.heap.size w w':=by
 have HG:=aa (fun w0:World=>fun(h0:Bk U A Q w0)=>show Calls Tryz.prog 91 #[.pointer (some ⟨Q,0,none⟩),.int .i32 r] w0 fun e w'=>e=.returned (.int .i64 (gtp (cj r) A:Nat))/\w'=w0 by
  obtain⟨B,nv,sv,vs,h1⟩:=h0;exact zcs B Q U.length U A nv sv vs r w0 h1 hC hc hn hl)
 obtain⟨k,hk⟩:=am (gtp (cj r) A);rw[<- hk]at HG hb;clear hk hC hc hl;have HK:=aa h;obtain⟨a,ac,z0,z1⟩:=h.names k b hb;have kl:k<U.length:=(List.getElem?_eq_some_iff.1 hb).1;obtain⟨N,hN⟩:=am U.length;rw[<- hN]at z0 kl hn;clear hN hb h;have k1:(k:Int)<(N:Int):=by omega
 have k0:(0:Int)<=(k:Int):=by omega
 go_enter Tryz.func61,Tryz.ntmps61;go_wp2_with fail;refine au [(0,true),(1,true),(2,true),(3,true),(4,true),(5,true),(6,false),(7,true),(8,true),(9,true)] (fun w'=>w'.cell? ⟨Q,0,none⟩=some (.slice (some a) N ac)/\w'.cell? (a.add k)=some (.string ⟨b.toArray⟩)) (fun _=>false) (by kernel_rfl) (by kernel_rfl) (fun j hj=>by cases hj) rfl (by kernel_rfl) ⟨z0,z1⟩ ?_
 iterate 6 (refine ax ?_ rfl (by kernel_rfl) (fun w' hS=>?_) ?_;(rotate_left;(obtain⟨y0,y1⟩:=hS;go_simp;with_reducible rfl);rotate_left))
 refine av rfl (by kernel_rfl) fun KK hKK=>?_
 go_simp;refine(HG.o w.drew (HK.o.below (gd w))).mono ?_;rintro e w1 ⟨rfl,hw1⟩;subst hw1;refine hKK _ _ (fun _=>⟨z0,z1⟩) ?_
 clear hKK KK
 iterate 3 (refine ax ?_ rfl (by kernel_rfl) (fun w' hS=>?_) ?_;(rotate_left;(obtain⟨y0,y1⟩:=hS;go_simp;with_reducible rfl);rotate_left))
 refine aS (NoPanic.normal ?_);go_simp;go_wp2;go_ret;exact⟨rfl,gd w⟩
def lnN(c:Int):List UInt8:=lnU.getD c.toNat []
set_option maxRecDepth 100000 in
theorem zqG:lnP.length<=12000:=by decide+kernel
theorem zmj(Q:Nat)(r:Nat)(w:World)(h:Bk lnU lnW Q w)(hr:r<=1114111):
  Calls Tryz.prog 61 #[.pointer (some ⟨Q,0,none⟩),.int .i32 (r:Int)] w fun e w'=>e=.returned (.string ⟨(lnN (bJ (r:Int))).toArray⟩)/\Below w.heap.size w w':=by
 have e1:cj (r:Int)=(r:Int):=by unfold cj;rw[if_neg (by omega)]
 have e2:=zfZ (r:Int) (by omega) (by omega)
 have e3:gtp (cj (r:Int)) lnW<lnU.length:=by
  obtain⟨i1,i2⟩:=zev (r:Int);exact zgr lnW _ zaM zaN _ i1 i2
 refine zqv lnU lnW Q r w h zaM zaN (by decide) (by decide+kernel) _ ?_
 rw[e1]at e3⊢;unfold lnN;rw[e2,Int.toNat_natCast,List.getD_eq_getElem?_getD,List.getElem?_eq_getElem e3]
 rfl
set_option maxRecDepth 100000 in
theorem db14(w:World):Calls Tryz.prog 59 #[] w fun e w'=>Below w.heap.size w w'/\∃Q,e=.returned (.pointer (some ⟨Q,0,none⟩))/\Bk lnU lnW Q w':=by
 go_enter Tryz.func59,Tryz.ntmps59;go_wp2_with fail;refine(zqi _ lnP w (by kernel_rfl) (.inl zqG) lnU lnS lnW zwy zto).mono ?_
 rintro e w1 ⟨hb,Q,rfl,hk⟩;have HB:=aa hb;have HK:=aa hk;clear hb hk;go_wp2;go_ret;exact⟨HB.o,Q,rfl,HK.o⟩
end Dc
end Go.Proofs.YtbbapnpdfcgjnaaGreatDoor
