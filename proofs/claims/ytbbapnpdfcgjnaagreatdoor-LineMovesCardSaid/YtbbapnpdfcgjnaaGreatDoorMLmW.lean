/- LmW: parts of the proof, joined. -/
import Derived.Test.YtbbapnpdfcgjnaaGreatDoorMLnRd
import Derived.Test.YtbbapnpdfcgjnaaGreatDoorMWdLv
set_option maxHeartbeats 64000000
namespace Go.Proofs.YtbbapnpdfcgjnaaGreatDoor
namespace Ln
open Go.RowKit
theorem zhd (o:Option (Nat × Bool)):∃(a:Nat) (b c:Bool),zfq o= .tuple #[.agg #[.int .i64 (a:Nat),.bool b],.bool c]:=by
 cases o with
 | none=>exact⟨0,false,false,rfl⟩
 | some x=>exact⟨x.1,x.2,true,rfl⟩
set_option maxRecDepth 100000 in
theorem zqx (l:List UInt8) (z:Int) (hl:l.length<=60) (w:World) (ht:Tb w) (hv:Ev.Tbs tabs w):
  Calls Tryz.prog 8 #[.string ⟨l.toArray⟩,.int .i64 z] w fun e w'=>e= .returned (.bool true)/\Below w.heap.size w w':=by
 have HV:=hid hv;have hl1:¬(60:Int)<(l.length:Int):=by omega
 have HT:=hid ht;have H1:=hid (zjq l z w ht (by omega))
 have H2:=hid (fun(W:World)=>zjf l z (by omega) W)
 have H3:=hid (fun(W:World) (h:Below w.heap.size w W)=>zjp l z W (HT.out.below h) (by omega))
 have H4:=hid (fun(W:World)=>zjc l z (by omega) W)
 have H5:=hid (fun(W:World) (h:Below w.heap.size w W)=>zke l z W (HT.out.below h) (by omega))
 have H6:=hid (fun(W:World)=>zco l z (by omega) W)
 obtain⟨a,b,c,ho⟩:=zhd (nxC z (ct l (rl l).length));obtain⟨a2,b2,c2,ho2⟩:=zhd (pvC z (ct l (rl l).length));obtain⟨kd,hkd⟩:∃k,k=kdC (atC z (ct l (rl l).length)):=⟨_,rfl⟩;rw[ho] at H1 H2;rw[ho2] at H3 H4;rw[<- hkd] at H5 H6;clear ho ho2 hkd ht hv;go_enter Tryz.func8,Tryz.ntmps8;go_wp2_with fail;refine H1.out.mono ?_;rintro e w1 ⟨rfl,be⟩;have HB1:=hid be;clear be H1;obtain⟨v1,hv1⟩:∃v,v=w1.alloc (.cells #[.int .i64 (a:Nat),.bool b] 53):=⟨_,rfl⟩;have HX1:=hid (show Pw.Cb v1 w1.heap.size #[.int .i64 (a:Nat),.bool b] 53 by rw[hv1];exact Pw.Cb.new w1 _ _)
 have HC1:=hid (show Below w.heap.size w v1 by rw[hv1];exact HB1.out.alloc HB1.out.size _)
 go_wp2_with fail;rw[<- hv1];clear hv1;refine(H2.out v1).mono ?_;rintro e w2 ⟨rfl,be⟩;have HB2:=hid (HC1.out.trans (be.mono HC1.out.size));have HX1b:=hid (HX1.out.below be);clear be HX1 HC1;obtain⟨v2,hv2⟩:∃v,v=w2.alloc (.cells #[.int .i64 (a:Nat),.bool b] 53):=⟨_,rfl⟩;have HX2:=hid (show Pw.Cb v2 w2.heap.size #[.int .i64 (a:Nat),.bool b] 53 by rw[hv2];exact Pw.Cb.new w2 _ _)
 have HC2:=hid (show Below w.heap.size w v2 by rw[hv2];exact HB2.out.alloc HB2.out.size _)
 have HX1:=hid (show Pw.Cb v2 w1.heap.size #[.int .i64 (a:Nat),.bool b] 53 by rw[hv2];exact HX1b.out.alloc _)
 go_wp2_with fail;rw[<- hv2];clear hv2 HX1b;refine(H3.out v2 HC2.out).mono ?_;rintro e w3 ⟨rfl,be⟩;have HB3:=hid (HC2.out.trans (be.mono HC2.out.size));have HX1b:=hid (HX1.out.below be);have HX2b:=hid (HX2.out.below be);clear be HX1 HX2 HC2;obtain⟨v3,hv3⟩:∃v,v=w3.alloc (.cells #[.int .i64 (a2:Nat),.bool b2] 53):=⟨_,rfl⟩;have HX3:=hid (show Pw.Cb v3 w3.heap.size #[.int .i64 (a2:Nat),.bool b2] 53 by rw[hv3];exact Pw.Cb.new w3 _ _)
 have HC3:=hid (show Below w.heap.size w v3 by rw[hv3];exact HB3.out.alloc HB3.out.size _)
 have HX1:=hid (show Pw.Cb v3 w1.heap.size #[.int .i64 (a:Nat),.bool b] 53 by rw[hv3];exact HX1b.out.alloc _)
 have HX2:=hid (show Pw.Cb v3 w2.heap.size #[.int .i64 (a:Nat),.bool b] 53 by rw[hv3];exact HX2b.out.alloc _)
 go_wp2_with fail;rw[<- hv3];clear hv3 HX1b HX2b;refine(H4.out v3).mono ?_;rintro e w4 ⟨rfl,be⟩;have HB4:=hid (HC3.out.trans (be.mono HC3.out.size));have HX1b:=hid (HX1.out.below be);have HX2b:=hid (HX2.out.below be);have HX3b:=hid (HX3.out.below be);clear be HX1 HX2 HX3 HC3;obtain⟨v4,hv4⟩:∃v,v=w4.alloc (.cells #[.int .i64 (a2:Nat),.bool b2] 53):=⟨_,rfl⟩;have HX4:=hid (show Pw.Cb v4 w4.heap.size #[.int .i64 (a2:Nat),.bool b2] 53 by rw[hv4];exact Pw.Cb.new w4 _ _)
 have HC4:=hid (show Below w.heap.size w v4 by rw[hv4];exact HB4.out.alloc HB4.out.size _)
 have HX1:=hid (show Pw.Cb v4 w1.heap.size #[.int .i64 (a:Nat),.bool b] 53 by rw[hv4];exact HX1b.out.alloc _)
 have HX2:=hid (show Pw.Cb v4 w2.heap.size #[.int .i64 (a:Nat),.bool b] 53 by rw[hv4];exact HX2b.out.alloc _)
 have HX3:=hid (show Pw.Cb v4 w3.heap.size #[.int .i64 (a2:Nat),.bool b2] 53 by rw[hv4];exact HX3b.out.alloc _)
 go_wp2_with fail;rw[<- hv4];clear hv4 HX1b HX2b HX3b;refine(H5.out v4 HC4.out).mono ?_;rintro e w5 ⟨rfl,be⟩;have HB5:=hid (HC4.out.trans (be.mono HC4.out.size));have HX1b:=hid (HX1.out.below be);have HX2b:=hid (HX2.out.below be);have HX3b:=hid (HX3.out.below be);have HX4b:=hid (HX4.out.below be);clear be HX1 HX2 HX3 HX4 HC4;go_wp2_with fail;refine(H6.out w5).mono ?_;rintro e w6 ⟨rfl,be⟩;have HB6:=hid (HB5.out.trans (be.mono HB5.out.size));have HX1:=hid (HX1b.out.below be);have HX2:=hid (HX2b.out.below be);have HX3:=hid (HX3b.out.below be);have HX4:=hid (HX4b.out.below be);clear be HX1b HX2b HX3b HX4b;have y10:w6.cell? ⟨w1.heap.size,0,none⟩=some (.int .i64 (a:Nat)):=(HX1.out.cell 0).trans rfl;have y11:w6.cell? ⟨w1.heap.size,1,none⟩=some (.bool b):=(HX1.out.cell 1).trans rfl;have y20:w6.cell? ⟨w2.heap.size,0,none⟩=some (.int .i64 (a:Nat)):=(HX2.out.cell 0).trans rfl;have y21:w6.cell? ⟨w2.heap.size,1,none⟩=some (.bool b):=(HX2.out.cell 1).trans rfl;have y30:w6.cell? ⟨w3.heap.size,0,none⟩=some (.int .i64 (a2:Nat)):=(HX3.out.cell 0).trans rfl;have y31:w6.cell? ⟨w3.heap.size,1,none⟩=some (.bool b2):=(HX3.out.cell 1).trans rfl;have y40:w6.cell? ⟨w4.heap.size,0,none⟩=some (.int .i64 (a2:Nat)):=(HX4.out.cell 0).trans rfl;have y41:w6.cell? ⟨w4.heap.size,1,none⟩=some (.bool b2):=(HX4.out.cell 1).trans rfl;have ek:(kd==kd)=true:=by simp
 have ec:(c==c)=true:=by simp
 have ec2:(c2==c2)=true:=by simp
 clear HX1 HX2 HX3 HX4;go_wp2_with fail;refine(zhP w6 (ziV HV.out HB6.out)).mono ?_;rintro e w7 ⟨rfl,be⟩;have HB7:=hid (HB6.out.trans (be.mono HB6.out.size));clear be y10 y11 y20 y21 y30 y31 y40 y41;go_wp2;go_ret;exact⟨rfl,HB7.out⟩
set_option maxRecDepth 100000 in
theorem zqw (l:List UInt8) (z:Int) (w:World) (ht:Tb w) (hv:Ev.Tbs tabs w):
  Calls Tryz.prog 8 #[.string ⟨l.toArray⟩,.int .i64 z] w fun e w'=>e= .returned (.bool true)/\Below w.heap.size w w':=by
 by_cases h0:60<l.length
 ·have HL:=hid (zhP w hv)
  have h1:(60:Int)<(l.length:Int):=by omega
  clear ht hv;go_enter Tryz.func8,Tryz.ntmps8;go_wp2_with fail;refine HL.out.mono ?_;rintro e w1 ⟨rfl,hb⟩;have HB:=hid hb;clear hb HL;go_wp2;go_ret;exact⟨rfl,HB.out⟩
 ·exact zqx l z (by omega) w ht hv
end Ln
end Go.Proofs.YtbbapnpdfcgjnaaGreatDoor
