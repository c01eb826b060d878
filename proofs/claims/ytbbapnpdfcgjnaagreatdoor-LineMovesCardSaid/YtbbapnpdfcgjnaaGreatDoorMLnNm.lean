/- LnNm: parts of the proof, joined. -/
import Derived.Test.YtbbapnpdfcgjnaaGreatDoorMDcNm
import Derived.Test.YtbbapnpdfcgjnaaGreatDoorMLnDb
set_option maxHeartbeats 64000000
namespace Go.Proofs.YtbbapnpdfcgjnaaGreatDoor
namespace Dc
open Go.RowKit
set_option maxRecDepth 100000 in
theorem zqk (U:List (List UInt8)) (A:List Tr) (Q:Nat) (r:Int) (w:World) (h:Bk U A Q w) (hC:mw 0 A 1114112) (hc:∀g∈A,g.2.2<U.length) (hn:U.length<=1000) (hl:A.length<=10000000) (b:List UInt8) (hb:U[gtp (cd r) A]? =some b):
  Calls Tryz.prog 61 #[.pointer (some ⟨Q,0,none⟩),.int .i32 r] w fun e w'=>e= .returned (.string ⟨b.toArray⟩)/\Below w.heap.size w w':=by
 have HG:=hid (fun w0:World=>fun(h0:Bk U A Q w0)=>show Calls Tryz.prog 91 #[.pointer (some ⟨Q,0,none⟩),.int .i32 r] w0 fun e w'=>e= .returned (.int .i64 (gtp (cd r) A:Nat))/\w'=w0 by
  obtain⟨B,nv,sv,vs,h1⟩:=h0;exact zcp B Q U.length U A nv sv vs r w0 h1 hC hc hn hl)
 obtain⟨k,hk⟩:∃k,k=gtp (cd r) A:=⟨_,rfl⟩;rw[<- hk] at HG hb;clear hk hC hc hl;have HK:=hid h;obtain⟨a,ac,z0,z1⟩:=h.names k b hb;have kl:k<U.length:=(List.getElem?_eq_some_iff.1 hb).1;obtain⟨N,hN⟩:∃N,N=U.length:=⟨_,rfl⟩;rw[<- hN] at z0 kl hn;clear hN hb h;have k1:(k:Int)<(N:Int):=by omega
 have k0:(0:Int)<=(k:Int):=by omega
 go_enter Tryz.func61,Tryz.ntmps61;go_wp2_with fail;refine am [(0,true),(1,true),(2,true),(3,true),(4,true),(5,true),(6,false),(7,true),(8,true),(9,true)] (fun w'=>w'.cell? ⟨Q,0,none⟩=some (.slice (some a) N ac)/\w'.cell? (a.add k)=some (.string ⟨b.toArray⟩)) (fun _=>false) (by kernel_rfl) (by kernel_rfl) (fun j hj=>by cases hj) rfl (by kernel_rfl) ⟨z0,z1⟩ ?_
 iterate 6 (refine av ?_ rfl (by kernel_rfl) (fun w' hS=>?_) ?_;(rotate_left;(obtain⟨y0,y1⟩:=hS;go_simp;with_reducible rfl);rotate_left))
 refine ar rfl (by kernel_rfl) fun KK hKK=>?_
 go_simp;refine(HG.out w.drew (HK.out.below (fY w))).mono ?_;rintro e w1 ⟨rfl,hw1⟩;subst hw1;refine hKK _ _ (fun _=>⟨z0,z1⟩) ?_
 clear hKK KK
 iterate 3 (refine av ?_ rfl (by kernel_rfl) (fun w' hS=>?_) ?_;(rotate_left;(obtain⟨y0,y1⟩:=hS;go_simp;with_reducible rfl);rotate_left))
 refine aQ (NoPanic.normal ?_);go_simp;go_wp2;go_ret;exact⟨rfl,fY w⟩
def lnN (c:Int):List UInt8:=lnU.getD c.toNat []
set_option maxRecDepth 100000 in
theorem zqv:lnP.length<=12000:=by decide+kernel
theorem zmi (Q:Nat) (r:Nat) (w:World) (h:Bk lnU lnW Q w) (hr:r<=1114111):
  Calls Tryz.prog 61 #[.pointer (some ⟨Q,0,none⟩),.int .i32 (r:Int)] w fun e w'=>e= .returned (.string ⟨(lnN (bE (r:Int))).toArray⟩)/\Below w.heap.size w w':=by
 have e1:cd (r:Int)=(r:Int):=by unfold cd;rw[if_neg (by omega)]
 have e2:=zfZ (r:Int) (by omega) (by omega)
 have e3:gtp (cd (r:Int)) lnW<lnU.length:=by
  obtain⟨i1,i2⟩:=zex (r:Int);exact zgq lnW _ zaH zaI _ i1 i2
 refine zqk lnU lnW Q r w h zaH zaI (by decide) (by decide+kernel) _ ?_
 rw[e1] at e3⊢;unfold lnN;rw[e2,Int.toNat_natCast,List.getD_eq_getElem?_getD,List.getElem?_eq_getElem e3]
 rfl
set_option maxRecDepth 100000 in
theorem db14 (w:World):Calls Tryz.prog 59 #[] w fun e w'=>Below w.heap.size w w'/\∃Q,e= .returned (.pointer (some ⟨Q,0,none⟩))/\Bk lnU lnW Q w':=by
 go_enter Tryz.func59,Tryz.ntmps59;go_wp2_with fail;refine(zpX _ lnP w (by kernel_rfl) (.inl zqv) lnU lnS lnW zwk ztb).mono ?_
 rintro e w1 ⟨hb,Q,rfl,hk⟩;have HB:=hid hb;have HK:=hid hk;clear hb hk;go_wp2;go_ret;exact⟨HB.out,Q,rfl,HK.out⟩
end Dc
end Go.Proofs.YtbbapnpdfcgjnaaGreatDoor
