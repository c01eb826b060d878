/- StCls: parts of the proof, joined. -/
import Derived.Test.YtbbapnpdfcgjnaaGreatDoorESdApp
import Derived.Test.YtbbapnpdfcgjnaaGreatDoorEDcNm
set_option maxHeartbeats 64000000
namespace Go.Proofs.YtbbapnpdfcgjnaaGreatDoor
section
open Go.RowKit
namespace Pt
def dcl(A:List Dc.Tr)(l:List UInt8):List Nat:=(rl l).map fun x=>Dc.gtp (Dc.cj (x.1:Int)) A
def lH(A:List Dc.Tr)(l:List UInt8):List Int:=(dcl A l).map fun(x:Nat)=>(x:Int)
theorem zri(A:List Dc.Tr)(l:List UInt8):(dcl A l).length=(rl l).length:=List.length_map ..
theorem dK(A:List Dc.Tr)(l:List UInt8):(lH A l).length=(rl l).length:=by unfold lH;rw[List.length_map,zri]
theorem znK(L:List Nat):bf (L.map fun(x:Nat)=>(x:Int))=kp L:=by unfold bf kp;rw[List.map_map];rfl
theorem zbN{P:Program}{ops:Array Oper}{Q:Exit->Act->World->Prop}{S:World->Prop}{fin:Nat->Bool}{o:Oper}{k:Nat}{r:List (Nat×Bool)}{a:Act}{w:World}(h0:ops[k]?=some o)(hw:Region.wanted o (yielded ops a.tmps)=false)(hS:S w)(h2:eD P ops Q S fin r (a.put o.dst undef) w):eD P ops Q S fin ((k,false)::r) a w:=⟨o,h0,by rw[hw];exact⟨fun _=>hS,h2⟩⟩
set_option maxRecDepth 100000 in
theorem nA(U:List (List UInt8))(A:List Dc.Tr)(hC:Dc.mL 0 A 1114112)(hc:∀g∈A,g.2.2<U.length)(hU:U.length<=1000)(hA:A.length<=10000000)(B Q:Nat)(nv sv:Value)(vs:List Value)(X:Nat)(l:List UInt8)(xo:Option Addr)(n xc:Nat)(w:World)(hD:Dc.ba B Q U (Dc.dst U.length A) nv sv vs w)(hX:w.cell? ⟨X,0,none⟩=some (.pointer (some ⟨Q,0,none⟩)))(hXl:X<w.heap.size)(hT:Dc.RdT w xo (Dc.txt l))(hn:n=(rl l).length)(hn9:n<=1000000):
  Calls Tryz.prog 73 #[.pointer (some ⟨X,0,none⟩),.slice xo n xc] w fun e w'=>∃vo vc,e=.returned (.slice vo n vc)/\w'.ownsRow w.heap.size 3 1 (.slice vo n vc) n (bf (lH A l))/\Below w.heap.size w w':=by
 have HG:=aa (fun(W:World)(h:Below w.heap.size w W)(z:Int)=>Dc.zcs B Q U.length U A nv sv vs z W (hD.below h) hC hc hU hA)
 have HT:=aa (fun(W:World)(h:Below w.heap.size w W)=>hT.below h)
 have HX:=aa (fun(W:World)(h:Below w.heap.size w W)=>show W.cell? ⟨X,0,none⟩=some (.pointer (some ⟨Q,0,none⟩))from(h.cell (p:=⟨X,0,none⟩) hXl).trans hX)
 have HN:=aa hn;clear hD hX hXl hT hn hC hc hU hA;go_enter Tryz.func73,Tryz.ntmps73;go_wp2;go_loopw [5,6] (fun x y wr=>∃(i:Nat)(vo:Option Addr)(vc:Nat),x=.slice vo i vc/\y=.int .i64 i/\i<=n/\ae (wr.ownsRow w.heap.size 3 1 (.slice vo i vc) i (bf ((lH A l).take i)))/\ae (Below w.heap.size w wr)) (fun _ y _=>n-(intOf y).toNat)
 case atStart=>exact⟨0,none,0,rfl,rfl,Nat.zero_le _,aa (World.ownsRow_nil _ _ _ _),aa (Below.refl _ _)⟩
 case round=>
  obtain⟨i,vo,vc,rfl,rfl,hi,HOw,HB⟩:=hrel
  by_cases hlt:i<n
  ·have i0:(0:Int)<=(i:Int):=by omega
   have i1:(i:Int)<(n:Int):=by omega
   have hil:i<(rl l).length:=by have:=HN.o;omega
   obtain⟨x,hx⟩:=am ((rl l)[i]);have hxi:(rl l)[i]?=some x:=by rw[hx];exact List.getElem?_eq_getElem hil
   obtain⟨g,rfl,hg,c0,c1,c2⟩:=HT.o wr HB.o i _ (j5 l i x hxi);have c0:wr.cell? ⟨g,i*3,none⟩=some (.int .i32 (x.1:Int)):=c0;obtain⟨z,hz⟩:=am (x.1:Int);rw[<- hz]at c0;have HD:ae ((lH A l).take (i+1)=(lH A l).take i++[((Dc.gtp (Dc.cj z) A:Nat):Int)]):=aa (by
    rw[List.take_succ_eq_append_getElem (by rw[dK];exact hil)]
    congr 2
    unfold lH dcl
    simp only[List.getElem_map,hz,hx])
   have HGz:=aa (HG.o wr.drew ⟨HB.o.os,HB.o.tape,HB.o.output,HB.o.size,HB.o.block⟩ z);obtain⟨G,hG⟩:=am (Dc.gtp (Dc.cj z) A);rw[<- hG]at HD HGz;have HSw:=aa (fun(W:World)(h:Below w.heap.size w W)=>show W.cell? ⟨X,0,none⟩=some (.pointer (some ⟨Q,0,none⟩))/\W.cell? ⟨g,i*3,none⟩=some (.int .i32 z)from⟨HX.o W h,by
    obtain⟨g',e,_,d0,_⟩:=HT.o W h i _ (j5 l i x hxi)
    cases e
    rw[hz];exact d0⟩)
   have HS:=aa (fun(W:World)(h:Below wr.heap.size wr W)=>HSw.o W (HB.o.trans (h.mono HB.o.size)))
   clear hx hxi hz hG c1 c2 hg hil c0;go_wp2_with fail;refine au [(0,true),(1,true),(2,true),(3,true),(4,true),(5,true),(6,true),(7,true),(8,true),(9,true),(10,false),(11,false),(12,false),(13,false)] (fun W=>W.cell? ⟨X,0,none⟩=some (.pointer (some ⟨Q,0,none⟩))/\W.cell? ⟨g,i*3,none⟩=some (.int .i32 z)) (fun _=>false) (by kernel_rfl) (by kernel_rfl) (fun j hj=>by cases hj) rfl (by kernel_rfl) (HS.o _ (show Below wr.heap.size wr wr.drew from(Below.refl _ _).drew)) ?_
   iterate 10 (refine ax ?_ rfl (by kernel_rfl) (fun w' hS=>?_) ?_;(rotate_left;(obtain⟨s0,s1⟩:=hS;go_simp;with_reducible rfl);rotate_left))
   refine av rfl (by kernel_rfl) fun KK hKK=>?_
   go_simp;refine HGz.o.mono ?_;rintro e w2 ⟨rfl,rfl⟩;refine hKK _ _ (fun _=>HS.o _ (show Below wr.heap.size wr wr.drew from(Below.refl _ _).drew)) ?_
   clear hKK;refine av rfl (by kernel_rfl) fun KK hKK=>?_
   go_simp;obtain⟨w3,hw3⟩:=am ((wr.alloc (.cells #[.int .i64 (G:Int)] 3)).drew);rw[<- hw3];have HB3:ae (Below wr.heap.size wr w3):=aa (by rw[hw3];exact below_box.drew)
   have HQ3:ae (w3.heap[wr.heap.size]?=some (.cells #[.int .i64 (G:Int)] 3)):=aa (by rw[hw3];exact heap_alloc_new _ _)
   clear hw3;refine hKK _ _ (fun _=>HS.o _ HB3.o) ?_
   clear hKK;have HO3:=aa (aD HOw.o HB3.o);have HBw3:=aa (HB.o.trans (HB3.o.mono HB.o.size));refine av rfl (by kernel_rfl) fun KK hKK=>?_
   refine aN _ _ rfl w.heap.size (.slice vo i vc) i ((lH A l).take i) rfl HO3.o (some ⟨wr.heap.size,0,none⟩) 1 1 [(G:Int)] rfl (cw HQ3.o) rfl (by omega) HBw3.o.size ?_
   intro vo4 vc4 w4 o4 gr4 _;have HB4:=aa (HBw3.o.trans (grown_below HO3.o gr4 HBw3.o.size));have HO4:ae (w4.ownsRow w.heap.size 3 1 (.slice vo4 (i+1) vc4) (i+1) (bf ((lH A l).take (i+1)))):=aa (by rw[HD.o];exact o4)
   refine hKK _ _ (fun _=>HSw.o _ HB4.o) ?_
   clear hKK o4 gr4;refine av rfl (by kernel_rfl) fun KK hKK=>?_
   go_simp;refine hKK _ _ (fun _=>HSw.o _ HB4.o) ?_
   clear hKK;refine aS (NoPanic.normal ?_);go_wp2;go_roundw
   case rel=>exact⟨i+1,vo4,vc4,rfl,by go_num,by omega,HO4,HB4⟩
   case measure=>simp[intOf];omega
  ·have i1:¬(i:Int)<(n:Int):=by omega
   obtain rfl:i=n:=by omega
   have HQ:ae (wr.ownsRow w.heap.size 3 1 (.slice vo i vc) i (bf (lH A l))):=aa (by
    have h:=HOw.o
    rwa [List.take_of_length_le (by rw[dK,<- HN.o];exact Nat.le_refl _)]at h)
   go_wp2;go_ret;exact⟨vo,vc,rfl,HQ.o,HB.o⟩
end Pt
end
end Go.Proofs.YtbbapnpdfcgjnaaGreatDoor
