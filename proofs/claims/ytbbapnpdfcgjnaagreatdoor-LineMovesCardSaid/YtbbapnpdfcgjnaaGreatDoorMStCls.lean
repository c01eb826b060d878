/- StCls: parts of the proof, joined. -/
import Derived.Test.YtbbapnpdfcgjnaaGreatDoorMSdApp
import Derived.Test.YtbbapnpdfcgjnaaGreatDoorMDcNm
set_option maxHeartbeats 64000000
namespace Go.Proofs.YtbbapnpdfcgjnaaGreatDoor
section
open Go.RowKit
namespace Pt
def dcl (A:List Dc.Tr) (l:List UInt8):List Nat:=(rl l).map fun x=>Dc.gtp (Dc.cd (x.1:Int)) A
def lu (A:List Dc.Tr) (l:List UInt8):List Int:=(dcl A l).map fun(x:Nat)=>(x:Int)
theorem zqY (A:List Dc.Tr) (l:List UInt8):(dcl A l).length=(rl l).length:=List.length_map ..
theorem dJ (A:List Dc.Tr) (l:List UInt8):(lu A l).length=(rl l).length:=by unfold lu;rw[List.length_map,zqY]
theorem znG (L:List Nat):bf (L.map fun(x:Nat)=>(x:Int))=kh L:=by unfold bf kh;rw[List.map_map];rfl
theorem zbJ {P:Program} {ops:Array Oper} {Q:Exit->Act->World->Prop} {S:World->Prop} {fin:Nat->Bool} {o:Oper} {k:Nat} {r:List (Nat × Bool)} {a:Act} {w:World} (h0:ops[k]? =some o) (hw:Region.wanted o (yielded ops a.tmps)=false) (hS:S w) (h2:ei P ops Q S fin r (a.put o.dst undef) w):ei P ops Q S fin ((k,false)::r) a w:=⟨o,h0,by rw[hw];exact⟨fun _=>hS,h2⟩⟩
set_option maxRecDepth 100000 in
theorem mW (U:List (List UInt8)) (A:List Dc.Tr) (hC:Dc.mw 0 A 1114112) (hc:∀g∈A,g.2.2<U.length) (hU:U.length<=1000) (hA:A.length<=10000000) (B Q:Nat) (nv sv:Value) (vs:List Value) (X:Nat) (l:List UInt8) (xo:Option Addr) (n xc:Nat) (w:World) (hD:Dc.aX B Q U (Dc.dst U.length A) nv sv vs w) (hX:w.cell? ⟨X,0,none⟩=some (.pointer (some ⟨Q,0,none⟩))) (hXl:X<w.heap.size) (hT:Dc.RdT w xo (Dc.txt l)) (hn:n=(rl l).length) (hn9:n<=1000000):
  Calls Tryz.prog 73 #[.pointer (some ⟨X,0,none⟩),.slice xo n xc] w fun e w'=>∃vo vc,e= .returned (.slice vo n vc)/\w'.ownsRow w.heap.size 3 1 (.slice vo n vc) n (bf (lu A l))/\Below w.heap.size w w':=by
 have HG:=hid (fun(W:World) (h:Below w.heap.size w W) (z:Int)=>Dc.zcp B Q U.length U A nv sv vs z W (hD.below h) hC hc hU hA)
 have HT:=hid (fun(W:World) (h:Below w.heap.size w W)=>hT.below h)
 have HX:=hid (fun(W:World) (h:Below w.heap.size w W)=>show W.cell? ⟨X,0,none⟩=some (.pointer (some ⟨Q,0,none⟩)) from(h.cell (p:=⟨X,0,none⟩) hXl).trans hX)
 have HN:=hid hn;clear hD hX hXl hT hn hC hc hU hA;go_enter Tryz.func73,Tryz.ntmps73;go_wp2;go_loopw [5,6] (fun x y wr=>∃(i:Nat) (vo:Option Addr) (vc:Nat),x= .slice vo i vc/\y= .int .i64 i/\i<=n/\Hid (wr.ownsRow w.heap.size 3 1 (.slice vo i vc) i (bf ((lu A l).take i)))/\Hid (Below w.heap.size w wr)) (fun _ y _=>n - (intOf y).toNat)
 case atStart=>exact⟨0,none,0,rfl,rfl,Nat.zero_le _,hid (World.ownsRow_nil _ _ _ _),hid (Below.refl _ _)⟩
 case round=>
  obtain⟨i,vo,vc,rfl,rfl,hi,HOw,HB⟩:=hrel
  by_cases hlt:i<n
  ·have i0:(0:Int)<=(i:Int):=by omega
   have i1:(i:Int)<(n:Int):=by omega
   have hil:i<(rl l).length:=by have:=HN.out;omega
   obtain⟨x,hx⟩:∃x,x=(rl l)[i]:=⟨_,rfl⟩;have hxi:(rl l)[i]? =some x:=by rw[hx];exact List.getElem?_eq_getElem hil
   obtain⟨g,rfl,hg,c0,c1,c2⟩:=HT.out wr HB.out i _ (jX l i x hxi);have c0:wr.cell? ⟨g,i * 3,none⟩=some (.int .i32 (x.1:Int)):=c0;obtain⟨z,hz⟩:∃z,z=(x.1:Int):=⟨_,rfl⟩;rw[<- hz] at c0;have HD:=hid (show(lu A l).take (i+1)=(lu A l).take i++[((Dc.gtp (Dc.cd z) A:Nat):Int)] from by
    rw[List.take_succ_eq_append_getElem (by rw[dJ];exact hil)]
    congr 2
    unfold lu dcl
    simp only[List.getElem_map,hz,hx])
   have HGz:=hid (HG.out wr.drew ⟨HB.out.os,HB.out.tape,HB.out.output,HB.out.size,HB.out.block⟩ z);obtain⟨G,hG⟩:∃G,G=Dc.gtp (Dc.cd z) A:=⟨_,rfl⟩;rw[<- hG] at HD HGz;have HSw:=hid (fun(W:World) (h:Below w.heap.size w W)=>show W.cell? ⟨X,0,none⟩=some (.pointer (some ⟨Q,0,none⟩))/\W.cell? ⟨g,i * 3,none⟩=some (.int .i32 z) from⟨HX.out W h,by
    obtain⟨g',e,_,d0,_⟩:=HT.out W h i _ (jX l i x hxi)
    cases e
    rw[hz];exact d0⟩)
   have HS:=hid (fun(W:World) (h:Below wr.heap.size wr W)=>HSw.out W (HB.out.trans (h.mono HB.out.size)))
   clear hx hxi hz hG c1 c2 hg hil c0;go_wp2_with fail;refine am [(0,true),(1,true),(2,true),(3,true),(4,true),(5,true),(6,true),(7,true),(8,true),(9,true),(10,false),(11,false),(12,false),(13,false)] (fun W=>W.cell? ⟨X,0,none⟩=some (.pointer (some ⟨Q,0,none⟩))/\W.cell? ⟨g,i * 3,none⟩=some (.int .i32 z)) (fun _=>false) (by kernel_rfl) (by kernel_rfl) (fun j hj=>by cases hj) rfl (by kernel_rfl) (HS.out _ (show Below wr.heap.size wr wr.drew from(Below.refl _ _).drew)) ?_
   iterate 10 (refine av ?_ rfl (by kernel_rfl) (fun w' hS=>?_) ?_;(rotate_left;(obtain⟨s0,s1⟩:=hS;go_simp;with_reducible rfl);rotate_left))
   refine ar rfl (by kernel_rfl) fun KK hKK=>?_
   go_simp;refine HGz.out.mono ?_;rintro e w2 ⟨rfl,rfl⟩;refine hKK _ _ (fun _=>HS.out _ (show Below wr.heap.size wr wr.drew from(Below.refl _ _).drew)) ?_
   clear hKK;refine ar rfl (by kernel_rfl) fun KK hKK=>?_
   go_simp;obtain⟨w3,hw3⟩:∃w3,w3=(wr.alloc (.cells #[.int .i64 (G:Int)] 3)).drew:=⟨_,rfl⟩;rw[<- hw3];have HB3:=hid (show Below wr.heap.size wr w3 by rw[hw3];exact below_box.drew)
   have HQ3:=hid (show w3.heap[wr.heap.size]? =some (.cells #[.int .i64 (G:Int)] 3) by rw[hw3];exact heap_alloc_new _ _)
   clear hw3;refine hKK _ _ (fun _=>HS.out _ HB3.out) ?_
   clear hKK;have HO3:=hid (aB HOw.out HB3.out);have HBw3:=hid (HB.out.trans (HB3.out.mono HB.out.size));refine ar rfl (by kernel_rfl) fun KK hKK=>?_
   refine aL _ _ rfl w.heap.size (.slice vo i vc) i ((lu A l).take i) rfl HO3.out (some ⟨wr.heap.size,0,none⟩) 1 1 [(G:Int)] rfl (cq HQ3.out) rfl (by omega) HBw3.out.size ?_
   intro vo4 vc4 w4 o4 gr4 _;have HB4:=hid (HBw3.out.trans (aj HO3.out gr4 HBw3.out.size));have HO4:=hid (show w4.ownsRow w.heap.size 3 1 (.slice vo4 (i+1) vc4) (i+1) (bf ((lu A l).take (i+1))) by rw[HD.out];exact o4)
   refine hKK _ _ (fun _=>HSw.out _ HB4.out) ?_
   clear hKK o4 gr4;refine ar rfl (by kernel_rfl) fun KK hKK=>?_
   go_simp;refine hKK _ _ (fun _=>HSw.out _ HB4.out) ?_
   clear hKK;refine aQ (NoPanic.normal ?_);go_wp2;go_roundw
   case rel=>exact⟨i+1,vo4,vc4,rfl,by go_num,by omega,HO4,HB4⟩
   case measure=>simp[intOf];omega
  ·have i1:¬(i:Int)<(n:Int):=by omega
   obtain rfl:i=n:=by omega
   have HQ:=hid (show wr.ownsRow w.heap.size 3 1 (.slice vo i vc) i (bf (lu A l)) from by
    have h:=HOw.out
    rwa [List.take_of_length_le (by rw[dJ,<- HN.out];exact Nat.le_refl _)] at h)
   go_wp2;go_ret;exact⟨vo,vc,rfl,HQ.out,HB.out⟩
end Pt
end
end Go.Proofs.YtbbapnpdfcgjnaaGreatDoor
