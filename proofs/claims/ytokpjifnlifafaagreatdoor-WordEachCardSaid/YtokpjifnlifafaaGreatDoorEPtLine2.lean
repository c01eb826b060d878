/- PtLine2, PtLine3, PtPs, PtRest, PtRunWo1, PtRunWo2, PtRunWo3, PtRunWo4, PtRunWo5: parts of the proof, joined. -/
import Derived.Test.YtokpjifnlifafaaGreatDoorEPtEv
set_option maxHeartbeats 64000000
namespace Go.Proofs.YtokpjifnlifafaaGreatDoor
section
open Ev Go.RowKit
namespace Pt
def RlX (w:World) (rs:List Rl) (xs:List Value):Prop:=∀(j:Nat) (r:Rl),rs[j]? =some r->∃l0 l1 l2 r0 r1 r2,xs[j * 9]? =some (.bool r.brk)/\xs[j * 9+1]? =some (.bool r.st)/\xs[j * 9+2]? =some (.bool r.en)∧
 xs[j * 9+3]? =some l0/\xs[j * 9+4]? =some l1/\xs[j * 9+5]? =some l2/\xs[j * 9+6]? =some r0/\xs[j * 9+7]? =some r1/\xs[j * 9+8]? =some r2/\RdPx w r.left l0 l1 l2/\RdPx w r.right r0 r1 r2
theorem RlX.kt {w w':World} {rs:List Rl} {xs:List Value} (h:RlX w rs xs) (ho:KtP w w'):RlX w' rs xs:=fun j r hj=>by
 obtain⟨l0,l1,l2,r0,r1,r2,a0,a1,a2,a3,a4,a5,a6,a7,a8,p1,p2⟩:=h j r hj;exact⟨l0,l1,l2,r0,r1,r2,a0,a1,a2,a3,a4,a5,a6,a7,a8,RdPx.kt ho _ _ _ _ p1,RdPx.kt ho _ _ _ _ p2⟩
structure RrAt (B:Nat) (w:World) (X g nc:Nat) (vs:List Value) (vo:Option Addr) (n vc:Nat) (rs:List Rl) (xs:List Value) (rest rested:Bool):Prop where
 at_:w.heap[X]? =some (.cells #[.slice (some ⟨g,0,none⟩) vs.length nc,.slice vo n vc,.bool rest,.bool rested] 87 (0,0))
 nm:NmAt w g nc vs
 own:w.ownsRow B 107 9 (.slice vo n vc) n xs
 rul:RlX w rs xs
 hn:n=rs.length
 lx:B<=X
 lg:g<B
theorem RrAt.oth {B:Nat} {w w':World} {X g nc:Nat} {vs:List Value} {vo:Option Addr} {n vc:Nat} {rs:List Rl} {xs:List Value} {rest rested:Bool} (h:RrAt B w X g nc vs vo n vc rs xs rest rested) (ho:Oth g w w') (hN:NmAt w' g nc vs):RrAt B w' X g nc vs vo n vc rs xs rest rested:=by
 have:=h.lx;have:=h.lg;refine⟨(ho.block X (zab h.at_) (by omega)).trans h.at_,hN,⟨h.own.1,h.own.2.imp (fun e=>e) fun⟨q,cap,cur,a1,a2,a3,a4⟩=>⟨q,cap,cur,a1,a2,(ho.block q (zab a3) (by omega)).trans a3,a4⟩⟩,h.rul.kt (h.nm.kt ho),h.hn,h.lx,h.lg⟩
theorem NmAt.below {w w':World} {g nc:Nat} {vs:List Value} (h:NmAt w g nc vs) (hb:Below w.heap.size w w'):NmAt w' g nc vs:=by
 obtain⟨cur,h1,h2⟩:=h;exact⟨cur,(hb.block g (zab h1)).trans h1,h2⟩
theorem RrAt.below {B:Nat} {w w':World} {X g nc:Nat} {vs:List Value} {vo:Option Addr} {n vc:Nat} {rs:List Rl} {xs:List Value} {rest rested:Bool} (h:RrAt B w X g nc vs vo n vc rs xs rest rested) (hb:Below w.heap.size w w'):RrAt B w' X g nc vs vo n vc rs xs rest rested:=h.oth (.of hb) (h.nm.below hb)
structure Fr (B g:Nat) (w w':World):Prop where
 os:w'.os=w.os
 tape:w'.tape=w.tape
 output:w'.output=w.output
 size:w.heap.size<=w'.heap.size
 block:∀b,b<B->b≠g->w'.heap[b]? =w.heap[b]?
theorem Fr.trans {B g:Nat} {w v u:World} (h:Fr B g w v) (k:Fr B g v u):Fr B g w u:=⟨k.os.trans h.os,k.tape.trans h.tape,k.output.trans h.output,Nat.le_trans h.size k.size,fun b hb hne=>(k.block b hb hne).trans (h.block b hb hne)⟩
theorem Fr.of {B g:Nat} {w w':World} (h:Oth g w w') (hB:B<=w.heap.size):Fr B g w w':=⟨h.os,h.tape,h.output,h.size,fun b hb hne=>h.block b (by omega) hne⟩
def Fx (g X:Nat) (w w':World):Prop:=∀(b:Nat) (o:Obj),w.heap[b]? =some o->b≠g->b≠X->(∀c fr,o≠ .cells c 107 fr)->w'.heap[b]? =some o
theorem Fx.trans {g X:Nat} {w v u:World} (h:Fx g X w v) (k:Fx g X v u):Fx g X w u:=fun b o hb h1 h2 h3=>k b o (h b o hb h1 h2 h3) h1 h2 h3
theorem Fx.of {g X:Nat} {w w':World} (h:Oth g w w'):Fx g X w w':=fun b _ hb h1 _ _=>(h.block b (zab hb) h1).trans hb
def LnQ (B:Nat) (w:World) (X g nc:Nat) (vs:List Value) (rs:List Rl) (rest rested:Bool) (e:Ending) (w':World):Prop:=e= .returned (.int .i64 0)/\Fr B g w w'/\Fx g X w w'/\∃vo n vc xs,RrAt B w' X g nc vs vo n vc rs xs rest rested
def Pl1 (f:FuncId) (a v:Value):Prop:=∀W,Calls Tryz.prog f #[a] W fun e w'=>e= .returned v/\Below W.heap.size W w'
theorem RdPx.shape {w:World}:∀{p:Pat} {v0 v1 v2:Value},RdPx w p v0 v1 v2->∃(o:Int) (co:Option Addr) (cn cc:Nat) (ko:Option Addr) (kn kc:Nat),v0= .int .i64 o/\v1= .slice co cn cc/\v2= .slice ko kn kc
 | .mk op cls kids,v0,v1,v2,h=>by
  unfold RdPx at h;obtain⟨h1,⟨co,cc,h2,h3,h4⟩,ko,kc,h5,h6,h7⟩:=h;exact⟨op,co,_,cc,ko,_,kc,h1,h2,h5⟩
theorem six_sets (w:World) (Z:Nat) (t:TypeId) (o:Obj) (a0 a1 a2 a3 a4 a5 a6 a7 a8 b3 b4 b5 b6 b7 b8:Value) (h:w.heap[Z]? =some (.cells #[a0,a1,a2,a3,a4,a5,a6,a7,a8] t (0,0))) (w8:World)
  (hw:w8=((((((w.setCell ⟨Z,3,none⟩ b3).setCell ⟨Z,4,none⟩ b4).setCell ⟨Z,5,none⟩ b5).setCell ⟨Z,6,none⟩ b6).setCell ⟨Z,7,none⟩ b7).setCell ⟨Z,8,none⟩ b8).alloc o):
  w8.heap[Z]? =some (.cells #[a0,a1,a2,b3,b4,b5,b6,b7,b8] t (0,0))/\(∀b,b<w.heap.size->b≠Z->w8.heap[b]? =w.heap[b]?)/\w8.heap.size=w.heap.size+1/\w8.os=w.os/\w8.tape=w.tape/\w8.output=w.output:=by
 have hz:=zab h;obtain⟨u3,e3⟩:∃u,u=w.setCell ⟨Z,3,none⟩ b3:=⟨_,rfl⟩;rw[<- e3] at hw;have k3:Ony Z w u3:=by rw[e3];exact Ony.set Z 3 w b3
 have h3:u3.heap[Z]? =some (.cells #[a0,a1,a2,b3,a4,a5,a6,a7,a8] t (0,0)):=by rw[e3,heap_setCell_same w Z 3 _ t b3 h];rfl
 obtain⟨u4,e4⟩:∃u,u=u3.setCell ⟨Z,4,none⟩ b4:=⟨_,rfl⟩;rw[<- e4] at hw;have k4:Ony Z w u4:=by rw[e4];exact k3.trans (Ony.set Z 4 u3 b4)
 have h4:u4.heap[Z]? =some (.cells #[a0,a1,a2,b3,b4,a5,a6,a7,a8] t (0,0)):=by rw[e4,heap_setCell_same u3 Z 4 _ t b4 h3];rfl
 obtain⟨u5,e5⟩:∃u,u=u4.setCell ⟨Z,5,none⟩ b5:=⟨_,rfl⟩;rw[<- e5] at hw;have k5:Ony Z w u5:=by rw[e5];exact k4.trans (Ony.set Z 5 u4 b5)
 have h5:u5.heap[Z]? =some (.cells #[a0,a1,a2,b3,b4,b5,a6,a7,a8] t (0,0)):=by rw[e5,heap_setCell_same u4 Z 5 _ t b5 h4];rfl
 obtain⟨u6,e6⟩:∃u,u=u5.setCell ⟨Z,6,none⟩ b6:=⟨_,rfl⟩;rw[<- e6] at hw;have k6:Ony Z w u6:=by rw[e6];exact k5.trans (Ony.set Z 6 u5 b6)
 have h6:u6.heap[Z]? =some (.cells #[a0,a1,a2,b3,b4,b5,b6,a7,a8] t (0,0)):=by rw[e6,heap_setCell_same u5 Z 6 _ t b6 h5];rfl
 obtain⟨u7,e7⟩:∃u,u=u6.setCell ⟨Z,7,none⟩ b7:=⟨_,rfl⟩;rw[<- e7] at hw;have k7:Ony Z w u7:=by rw[e7];exact k6.trans (Ony.set Z 7 u6 b7)
 have h7:u7.heap[Z]? =some (.cells #[a0,a1,a2,b3,b4,b5,b6,b7,a8] t (0,0)):=by rw[e7,heap_setCell_same u6 Z 7 _ t b7 h6];rfl
 obtain⟨u8,e8⟩:∃u,u=u7.setCell ⟨Z,8,none⟩ b8:=⟨_,rfl⟩;rw[<- e8] at hw;have k8:Ony Z w u8:=by rw[e8];exact k7.trans (Ony.set Z 8 u7 b8)
 have h8:u8.heap[Z]? =some (.cells #[a0,a1,a2,b3,b4,b5,b6,b7,b8] t (0,0)):=by rw[e8,heap_setCell_same u7 Z 8 _ t b8 h7];rfl
 have kb:=zaa (w:=u8) (o:=o);rw[<- hw] at kb;have hs:w8.heap.size=u8.heap.size+1:=by rw[hw];simp
 exact⟨(kb.block Z (zab h8)).trans h8,fun b hb hne=>(kb.block b (by rw[k8.size];exact hb)).trans (k8.block b hne),by rw[hs,k8.size],kb.os.trans k8.os,kb.tape.trans k8.tape,kb.output.trans k8.output⟩
theorem Tryz.infoRule:(Tryz.prog.info? 107).map (fun i=>(i.zero,i.size,i.bytes))=some (some (.agg #[.bool false,.bool false,.bool false,.int .i64 0,.slice none 0 0,.slice none 0 0,.int .i64 0,.slice none 0 0,.slice none 0 0]),9,120):=by kernel_rfl
theorem Tryz.underRules:Tryz.prog.underlying 61=some (.slice 107):=by kernel_rfl
theorem RlX.snoc {w:World} {rs:List Rl} {xs:List Value} {r:Rl} {l0 l1 l2 r0 r1 r2:Value} (h:RlX w rs xs) (hx:xs.length=rs.length * 9) (p1:RdPx w r.left l0 l1 l2) (p2:RdPx w r.right r0 r1 r2):RlX w (rs++[r]) (xs++[.bool r.brk,.bool r.st,.bool r.en,l0,l1,l2,r0,r1,r2]):=fun j q hj=>by
 by_cases e:j<rs.length
 ·rw[List.getElem?_append_left e] at hj
  obtain⟨k0,k1,k2,m0,m1,m2,a0,a1,a2,a3,a4,a5,a6,a7,a8,q1,q2⟩:=h j q hj;refine⟨k0,k1,k2,m0,m1,m2,?_,?_,?_,?_,?_,?_,?_,?_,?_,q1,q2⟩
  all_goals (rw[List.getElem?_append_left (by omega)];assumption)
 ·have e2:j=rs.length:=by
   have:=(List.getElem?_eq_some_iff.1 hj).1
   simp at this
   omega
  subst e2;rw[List.getElem?_append_right (Nat.le_refl _),Nat.sub_self] at hj
  simp at hj
  subst hj;refine⟨l0,l1,l2,r0,r1,r2,?_,?_,?_,?_,?_,?_,?_,?_,?_,p1,p2⟩
  all_goals (rw[List.getElem?_append_right (by omega)];rw[hx];simp)
theorem news9 (w:World) (v:Array Value) (T:TypeId):∀j u,v.toList[j]? =some u->(w.alloc (.cells v T)).cell? ((⟨w.heap.size,0,none⟩:Addr).add j)=some u:=World.news_of_block (cs:=v) (heap_alloc_new w _)
theorem RrAt.more {B:Nat} {w8 w9 w10 w11:World} {X g nc:Nat} {vs:List Value} {vo:Option Addr} {n vc:Nat} {rs:List Rl} {xs ys:List Value} {rest:Bool} {r:Rl} {l0 l1 l2 r0 r1 r2:Value} {g8 c8:Nat}
  (h:RrAt B w8 X g nc vs vo n vc rs xs rest false) (p1:RdPx w8 r.left l0 l1 l2) (p2:RdPx w8 r.right r0 r1 r2) (hy:ys=[.bool r.brk,.bool r.st,.bool r.en,l0,l1,l2,r0,r1,r2]) (h9:Below w8.heap.size w8 w9) (o10:w10.ownsRow B 107 9 (.slice (some ⟨g8,0,none⟩) (n+1) c8) (n+1) (xs++ys)) (gr:World.grownBy w9 w10 (Value.slice vo n vc).ownBlock)
  (h11:w11=w10.setCell ⟨X,1,none⟩ (.slice (some ⟨g8,0,none⟩) (n+1) c8)):RrAt B w11 X g nc vs (some ⟨g8,0,none⟩) (n+1) c8 (rs++[r]) (xs++ys) rest false/\Fr B g w8 w11/\Fx g X w8 w11:=by
 have lx:=h.lx;have lg:=h.lg;have hX:=zab h.at_;have ow:∀q,(Value.slice vo n vc).ownBlock=some q->B<=q/\∃cur,w8.heap[q]? =some (.cells cur 107 (0,0)):=fun q hq=>by
  rcases h.own.2 with ⟨c1,_⟩ | ⟨q',cap,cur,c1,c2,c3,_⟩
  ·rw[c1] at hq;cases hq
  ·rw[c1] at hq;cases hq;exact⟨c2,cur,c3⟩
 have st:∀b,b<w8.heap.size->(Value.slice vo n vc).ownBlock≠some b->w10.heap[b]? =w8.heap[b]? :=fun b hb hne=>(gr.block b (Nat.lt_of_lt_of_le hb h9.size) (fun e=>hne e.symm)).trans (h9.block b hb)
 have so:∀(b:Nat) (c:Array Value) (t:TypeId) (fr:Nat × Nat),w8.heap[b]? =some (.cells c t fr)->t≠107->w10.heap[b]? =some (.cells c t fr):=fun b c t fr hb ht=>(st b (zab hb) (fun e=>by
  obtain⟨_,cur,h3⟩:=ow b e;rw[hb] at h3
  cases h3
  exact ht rfl)).trans hb
 have X10:=so X _ _ _ h.at_ (by decide)
 have k11:Ony X w10 w11:=by rw[h11];exact Ony.set X 1 w10 _
 have gX:(some g8:Option Nat)≠some X:=fun e=>by
  cases e
  rcases o10.2 with ⟨c1,_⟩ | ⟨q',cap,cur,c1,c2,c3,_⟩
  ·cases c1
  ·cases c1
   rw[X10] at c3
   cases c3
 have kt:KtP w8 w11:=fun b c t fr hb ht=>(k11.block b (fun e=>by
  rw[e,h.at_] at hb
  cases hb
  rcases ht with ht | ht<;>cases ht)).trans (so b c t fr hb (by rcases ht with rfl | rfl<;>decide))
 have hx:xs.length=rs.length * 9:=by have:=h.own.1;have:=h.hn;omega
 refine⟨⟨?_,?_,⟨o10.1,o10.2.imp (fun e=>e) fun⟨q,cap,cur,c1,c2,c3,c4⟩=>⟨q,cap,cur,c1,c2,(k11.block q (fun e=>by cases c1;exact gX (by rw[e]))).trans c3,c4⟩⟩,?_,by rw[h.hn];simp,lx,lg⟩,?_,fun b o hb h1 h2 h3=>(k11.block b h2).trans ((st b (zab hb) (fun e=>by
  obtain⟨_,cur,h4⟩:=ow b e;rw[hb] at h4
  cases h4
  exact h3 _ _ rfl)).trans hb)⟩
 ·rw[h11,heap_setCell_same w10 X 1 _ _ _ X10];rfl
 ·obtain⟨cur,h1,h2⟩:=h.nm
  exact⟨cur,(k11.block g (by omega)).trans (so g cur 9 (0,0) h1 (by decide)),h2⟩
 ·rw[hy]
  exact(h.rul.kt kt).snoc hx (RdPx.kt kt _ _ _ _ p1) (RdPx.kt kt _ _ _ _ p2)
 ·refine⟨k11.os.trans (gr.os.trans h9.os),k11.tape.trans (gr.tape.trans h9.tape),k11.output.trans (gr.output.trans h9.output),?_,fun b hb hne=>?_⟩
  ·rw[k11.size];exact Nat.le_trans h9.size gr.size
  ·rw[k11.block b (by omega)]
   exact st b (by omega) (fun e=>by have:=(ow b e).1;omega)
set_option maxRecDepth 100000 in
theorem zar (B X g nc:Nat) (vs:List Value) (vo:Option Addr) (n vc:Nat) (rs:List Rl) (xs:List Value) (rest:Bool) (w:World) (s p L R:List UInt8) (k:Nat) (brk:Bool) (pl pr:Pat) (hX:RrAt B w X g nc vs vo n vc rs xs rest false) (hn9:n<=60)
  (h1:Pl1 103 (.string ⟨s.toArray⟩) (.string ⟨p.toArray⟩)) (h2:Pl1 104 (.string ⟨p.toArray⟩) (.int .i64 k)) (hk:k<p.length) (hp9:p.length<=10000) (hR8:R.length<=10000) (hb:((p[k].toNat:Int)==47)=brk)
  (h3:Pl1 105 (.string ((⟨p.toArray⟩:ByteArray).extract 0 k)) (.string ⟨L.toArray⟩)) (h4:Pl1 105 (.string ((⟨p.toArray⟩:ByteArray).extract (k+1) p.length)) (.string ⟨R.toArray⟩)) (hL:L≠ [114,101,115,116]) (hL9:L.head? ≠some 94) (hR9:R.getLast? ≠some 36)
  (h5:∀W,NmAt W g nc vs->Calls Tryz.prog 106 #[.string ⟨L.toArray⟩,.slice (some ⟨g,0,none⟩) vs.length nc] W (PsQ g nc vs W pl))
  (h6:∀W,NmAt W g nc vs->Calls Tryz.prog 106 #[.string ⟨R.toArray⟩,.slice (some ⟨g,0,none⟩) vs.length nc] W (PsQ g nc vs W pr)):
  Calls Tryz.prog 72 #[.pointer (some ⟨X,0,none⟩),.string ⟨s.toArray⟩] w (LnQ B w X g nc vs (rs++[⟨brk,false,false,pl,pr⟩]) rest false):=by
 obtain⟨iR,hR0,hR1,hR2,hR3⟩:=info_parts Tryz.infoRule;have HIR:=hid (And.intro hR0 (And.intro hR1 (And.intro hR2 hR3)));clear hR0 hR1 hR2 hR3;have HX:=hid hX;have H1:=hid h1;have H2:=hid h2;have H3:=hid h3;have H4:=hid h4;have H5:=hid h5;have H6:=hid h6;clear hX h1 h2 h3 h4 h5 h6;go_enter Tryz.func72,Tryz.ntmps72;go_wp2_with fail;refine(H1.out w).mono ?_;rintro e w1 ⟨rfl,b1⟩;have HX1:=hid (HX.out.below b1);have HB1:=hid b1;clear b1;have p0:p.isEmpty=false:=by cases p with
  | nil=>simp at hk
  | cons a b=>rfl
 have p1:p≠ []:=by cases p with
  | nil=>simp at hk
  | cons a b=>simp
 go_wp2_with fail;refine(H2.out w1).mono ?_;rintro e w2 ⟨rfl,b2⟩;have HX2:=hid (HX1.out.below b2);have HB2:=hid (HB1.out.trans (b2.mono HB1.out.size));clear b2 HX1 HB1;have x1:w2.cell? ⟨X,1,none⟩=some (.slice vo n vc):=by rw[cell_of_row w2 X 1 _ _ _ HX2.out.at_];rfl
 have x3:w2.cell? ⟨X,3,none⟩=some (.bool false):=by rw[cell_of_row w2 X 3 _ _ _ HX2.out.at_];rfl
 have k0:(0:Int)<=(k:Int):=by omega
 have k1:(k:Int)<(p.length:Int):=by omega
 have k2:¬(k:Int)<0:=by omega
 have d1:decide ((k:Int)<0)=false:=decide_eq_false (by omega)
 have k3:(k:Int)<=(p.length:Int):=by omega
 have k4:(k:Int)+1<=(p.length:Int):=by omega
 go_wp2_with fail;have e9:((((⟨p.toArray⟩:ByteArray)[k]'(by show k<p.toArray.size;simpa using hk)).toNat:Int)==47)=brk:=hb
 rw[e9];clear e9 hb;have e8:IntKind.i64.wrap ((k:Int)+1)=(k:Int)+1:=by unfold IntKind.wrap IntKind.bits IntKind.signed;simp;omega
 have k5:(0:Int)<=(k:Int)+1:=by omega
 refine zag [(0,true),(1,true),(2,true),(4,true),(5,true),(6,true),(7,true),(3,false),(8,false),(9,false),(10,false)] (fun _=>True) (fun _=>false) (by kernel_rfl) (by kernel_rfl) (fun j hj=>by cases hj) rfl (by kernel_rfl) trivial ?_
 iterate 7 (refine zav ?_ rfl (by kernel_rfl) (fun w' hS=>?_) ?_;(rotate_left;(go_simp;with_reducible rfl);rotate_left))
 refine zal rfl (by kernel_rfl) fun KK hKK=>?_
 go_simp;refine(H3.out w2.drew).mono ?_;rintro e w3 ⟨rfl,b3⟩;have HB3:=hid (show Below w2.heap.size w2 w3 from⟨b3.os,b3.tape,b3.output,b3.size,b3.block⟩)
 clear b3;refine hKK _ _ (fun _=>trivial) ?_
 clear hKK;refine zal rfl (by kernel_rfl) fun KK hKK=>?_
 go_simp;refine(H4.out w3).mono ?_;rintro e w4 ⟨rfl,b4⟩;have HB4:=hid (show Below w2.heap.size w2 w4 from HB3.out.trans (b4.mono HB3.out.size))
 clear b4 HB3;refine hKK _ _ (fun _=>trivial) ?_
 clear hKK;refine zal rfl (by kernel_rfl) fun KK hKK=>?_
 go_simp;refine hKK _ _ (fun _=>trivial) ?_
 clear hKK;refine zal rfl (by kernel_rfl) fun KK hKK=>?_
 go_simp;refine hKK _ _ (fun _=>trivial) ?_
 clear hKK;refine zaG (NoPanic.normal ?_);have HX4:=hid (HX2.out.below HB4.out);have HBw:=hid (HB2.out.trans (HB4.out.mono HB2.out.size));have y1:w4.cell? ⟨X,1,none⟩=some (.slice vo n vc):=by rw[cell_of_row w4 X 1 _ _ _ HX4.out.at_];rfl
 have y0:w4.cell? ⟨X,0,none⟩=some (.slice (some ⟨g,0,none⟩) vs.length nc):=by rw[cell_of_row w4 X 0 _ _ _ HX4.out.at_];rfl
 have HXl:=hid (zab HX4.out.at_);have HBl:=hid (show B<=w.heap.size by have:=zab HX.out.at_;have:=HX.out.lx;omega)
 clear x1 x3 HX2 HB2 HB4 k2 k3 k4 k5 d1 e8 p0 p1 HX;have r1:(L== [114,101,115,116])=false:=by simpa using hL
 have n1:(n:Int)<64:=by omega
 have xl:X<w4.heap.size:=HXl.out
 rcases Classical.em (L=[]) with hL0 | hL0
 subst hL0;rotate_left;have l2:L.isEmpty=false:=by cases L with
  | nil=>exact absurd rfl hL0
  | cons x y=>rfl
 have l3:(L== [])=false:=by simpa using hL0
 have l4:0<L.length:=List.length_pos_iff.2 hL0;have l5:(0:Int)<(L.length:Int):=by omega
 have l6:(((((⟨L.toArray⟩:ByteArray)[0]'(by show 0<L.toArray.size;simpa using l4)).toNat:Int))==94)=false:=by
  rw[beq_eq_false_iff_ne];intro e
  apply hL9
  have e1:L[0]=94:=UInt8.toNat_inj.1 (by
   have:(L[0]).toNat=(94:Nat):=by exact_mod_cast e
   exact this)
  rw[List.head?_eq_getElem?,List.getElem?_eq_getElem l4,e1]
 all_goals (
  rcases Classical.em (R=[]) with hR0 | hR0
  subst hR0;rotate_left;have r2:R.isEmpty=false:=by cases R with
   | nil=>exact absurd rfl hR0
   | cons x y=>rfl
  have r3:(R== [])=false:=by simpa using hR0
  have r4:0<R.length:=List.length_pos_iff.2 hR0;have r5:IntKind.i64.wrap ((R.length:Int) - 1)=(R.length:Int) - 1:=by unfold IntKind.wrap IntKind.bits IntKind.signed;simp;omega
  have r6:(0:Int)<=(R.length:Int) - 1:=by omega
  have r7:(R.length:Int) - 1<(R.length:Int):=by omega
  have r8:((R.length:Int) - 1).toNat=R.length - 1:=by omega
  have r9:R.length - 1<R.length:=by omega
  have q2:(((((⟨R.toArray⟩:ByteArray)[R.length - 1]'(by show R.length - 1<R.toArray.size;simpa using r9)).toNat:Int))==36)=false:=by
   rw[beq_eq_false_iff_ne];intro e
   apply hR9
   have e1:R[R.length - 1]=36:=UInt8.toNat_inj.1 (by
    have:(R[R.length - 1]).toNat=(36:Nat):=by exact_mod_cast e
    exact this)
   rw[List.getLast?_eq_getElem?,List.getElem?_eq_getElem r9,e1])
 all_goals (
  go_wp2_with fail;refine(H5.out _ (HX4.out.nm.below zaa)).mono ?_;rintro e w5 ⟨u0,u1,u2,rfl,hp5,hn5,ho5⟩;obtain⟨po,pco,pcn,pcc,pko,pkn,pkc,rfl,rfl,rfl⟩:=RdPx.shape hp5;have HOw:=hid (fun(q:Nat) (hq:(Value.slice vo n vc).ownBlock=some q)=>show q<w4.heap.size from by
   rcases HX4.out.own.2 with ⟨c1,_⟩ | ⟨q',cap,cur,c1,_,c3,_⟩
   ·rw[c1] at hq;cases hq
   ·rw[c1] at hq;cases hq;exact zab c3)
  have hx5:=(HX4.out.below zaa).oth ho5 hn5;have HX5:=hid hx5;have HP5:=hid hp5;have zz:w5.heap[w4.heap.size]? =some (.cells #[.bool brk,.bool false,.bool false,.int .i64 0,.slice none 0 0,.slice none 0 0,.int .i64 0,.slice none 0 0,.slice none 0 0] 107 (0,0)):=(ho5.block _ (by simp) (fun e=>by have:=HX4.out.lg;have:=HX4.out.lx;have:=HXl.out;omega)).trans (heap_alloc_new _ _)
  have HZ5:=hid zz;have HO5:=hid ho5;have v0:w5.cell? ⟨X,0,none⟩=some (.slice (some ⟨g,0,none⟩) vs.length nc):=by rw[cell_of_row w5 X 0 _ _ _ hx5.at_];rfl
  have xl5:X<w5.heap.size:=zab hx5.at_;clear hx5 hp5 hn5 ho5 zz y0 y1;go_wp2_with fail;refine(H6.out _ (HX5.out.nm.below zaa)).mono ?_;rintro e w7 ⟨s0,s1,s2,rfl,hp7,hn7,ho7⟩;obtain⟨qo,qco,qcn,qcc,qko,qkn,qkc,rfl,rfl,rfl⟩:=RdPx.shape hp7;have hx7:=(HX5.out.below zaa).oth ho7 hn7;have HX7:=hid hx7;have HP7:=hid hp7;have HPL:=hid (RdPx.kt ((HX5.out.nm.below zaa).kt ho7) _ _ _ _ (RdPx.kt (.of zaa) _ _ _ _ HP5.out));have HZ7:=hid ((ho7.block w4.heap.size (by have:=zab HZ5.out;simp;omega) (fun e=>by have:=HX4.out.lg;have:=HX4.out.lx;have:=HXl.out;omega)).trans ((Below.heap_alloc _ _ _ (zab HZ5.out)).trans HZ5.out))
  have za:w7.heap[w5.heap.size]? =some (.cells #[.int .i64 po,.slice pco pcn pcc,.slice pko pkn pkc] 105 (0,0)):=(ho7.block _ (by simp) (fun e=>by have:=HX4.out.lg;have:=HX4.out.lx;omega)).trans (heap_alloc_new _ _)
  have HO7:=hid ho7;have a0:w7.cell? ⟨w5.heap.size,0,none⟩=some (.int .i64 po):=by rw[cell_of_row w7 _ 0 _ _ _ za];rfl
  have a1:w7.cell? ⟨w5.heap.size,1,none⟩=some (.slice pco pcn pcc):=by rw[cell_of_row w7 _ 1 _ _ _ za];rfl
  have a2:w7.cell? ⟨w5.heap.size,2,none⟩=some (.slice pko pkn pkc):=by rw[cell_of_row w7 _ 2 _ _ _ za];rfl
  have al:w5.heap.size<w7.heap.size:=zab za;have zl:w4.heap.size<w7.heap.size:=zab HZ7.out;have z0:w7.cell? ⟨w4.heap.size,0,none⟩=some (.bool brk):=by rw[cell_of_row w7 _ 0 _ _ _ HZ7.out];rfl
  have z1:w7.cell? ⟨w4.heap.size,1,none⟩=some (.bool false):=by rw[cell_of_row w7 _ 1 _ _ _ HZ7.out];rfl
  have z2:w7.cell? ⟨w4.heap.size,2,none⟩=some (.bool false):=by rw[cell_of_row w7 _ 2 _ _ _ HZ7.out];rfl
  have z3:w7.cell? ⟨w4.heap.size,3,none⟩=some (.int .i64 0):=by rw[cell_of_row w7 _ 3 _ _ _ HZ7.out];rfl
  have z4:w7.cell? ⟨w4.heap.size,4,none⟩=some (.slice none 0 0):=by rw[cell_of_row w7 _ 4 _ _ _ HZ7.out];rfl
  have z5:w7.cell? ⟨w4.heap.size,5,none⟩=some (.slice none 0 0):=by rw[cell_of_row w7 _ 5 _ _ _ HZ7.out];rfl
  have z6:w7.cell? ⟨w4.heap.size,6,none⟩=some (.int .i64 0):=by rw[cell_of_row w7 _ 6 _ _ _ HZ7.out];rfl
  have z7:w7.cell? ⟨w4.heap.size,7,none⟩=some (.slice none 0 0):=by rw[cell_of_row w7 _ 7 _ _ _ HZ7.out];rfl
  have z8:w7.cell? ⟨w4.heap.size,8,none⟩=some (.slice none 0 0):=by rw[cell_of_row w7 _ 8 _ _ _ HZ7.out];rfl
  have zf3:w7.frozen? ⟨w4.heap.size,3,none⟩=false:=frozen_of_row w7 _ 3 _ _ HZ7.out;have zf4:w7.frozen? ⟨w4.heap.size,4,none⟩=false:=frozen_of_row w7 _ 4 _ _ HZ7.out;have zf5:w7.frozen? ⟨w4.heap.size,5,none⟩=false:=frozen_of_row w7 _ 5 _ _ HZ7.out;have zf6:w7.frozen? ⟨w4.heap.size,6,none⟩=false:=frozen_of_row w7 _ 6 _ _ HZ7.out;have zf7:w7.frozen? ⟨w4.heap.size,7,none⟩=false:=frozen_of_row w7 _ 7 _ _ HZ7.out;have zf8:w7.frozen? ⟨w4.heap.size,8,none⟩=false:=frozen_of_row w7 _ 8 _ _ HZ7.out;have xl7:X<w7.heap.size:=zab hx7.at_;have x7:w7.cell? ⟨X,1,none⟩=some (.slice vo n vc):=by rw[cell_of_row w7 X 1 _ _ _ hx7.at_];rfl
  clear hx7 hp7 hn7 ho7 za v0;go_wp2_with fail;obtain⟨w8,hw8⟩:∃w8,w8=((((((w7.setCell ⟨w4.heap.size,3,none⟩ (.int .i64 po)).setCell ⟨w4.heap.size,4,none⟩ (.slice pco pcn pcc)).setCell ⟨w4.heap.size,5,none⟩ (.slice pko pkn pkc)).setCell ⟨w4.heap.size,6,none⟩ (.int .i64 qo)).setCell ⟨w4.heap.size,7,none⟩ (.slice qco qcn qcc)).setCell ⟨w4.heap.size,8,none⟩ (.slice qko qkn qkc)).alloc (.cells #[.int .i64 qo,.slice qco qcn qcc,.slice qko qkn qkc] 105):=⟨_,rfl⟩;rw[<- hw8];obtain⟨g0,g1,g2,g3,g4,g5⟩:=six_sets w7 w4.heap.size _ _ _ _ _ _ _ _ _ _ _ _ _ _ _ _ _ HZ7.out w8 hw8;clear hw8 z0 z1 z2 z3 z4 z5 z6 z7 z8 zf3 zf4 zf5 zf6 zf7 zf8 a0 a1 a2 x7;have hxz:X≠w4.heap.size:=by omega
  have X8:w8.heap[X]? =some (.cells #[.slice (some ⟨g,0,none⟩) vs.length nc,.slice vo n vc,.bool rest,.bool false] 87 (0,0)):=(g1 X xl7 hxz).trans HX7.out.at_;have ow8:w8.ownsRow B 107 9 (.slice vo n vc) n xs:=⟨HX7.out.own.1,HX7.out.own.2.imp (fun e=>e) fun⟨q,cap,cur,c1,c2,c3,c4⟩=>⟨q,cap,cur,c1,c2,(g1 q (zab c3) (fun e=>by
   have:=HOw.out q (by rw[c1];rfl)
   omega)).trans c3,c4⟩⟩
  have HX8:=hid (show RrAt B w8 X g nc vs vo n vc rs xs rest false from⟨X8,(by
   obtain⟨cur,h1,h2⟩:=HX7.out.nm;exact⟨cur,(g1 g (zab h1) (by have:=HX4.out.lg;have:=HX4.out.lx;omega)).trans h1,h2⟩),ow8,HX7.out.rul.kt (fun b c t fr hb ht=>(g1 b (zab hb) (fun e=>by
    rw[e,HZ7.out] at hb
    cases hb
    rcases ht with ht | ht<;>cases ht)).trans hb),HX7.out.hn,HX7.out.lx,HX7.out.lg⟩)
  have HKt:=hid (show KtP w7 w8 from fun b c t fr hb ht=>(g1 b (zab hb) (fun e=>by
    rw[e,HZ7.out] at hb
    cases hb
    rcases ht with ht | ht<;>cases ht)).trans hb)
  have HP1:=hid (RdPx.kt HKt.out _ _ _ _ HPL.out);have HP2:=hid (RdPx.kt HKt.out _ _ _ _ HP7.out);have HFr:=hid (show Fr B g w w8 from by
   have l1:=HX4.out.lx;have l2:=HX4.out.lg;have l3:=HXl.out;have f1:Fr B g w w4:=.of (.of HBw.out) (by have:=HBl.out;omega)
   have f2:Fr B g w4 w5:=(Fr.of (.of zaa) (by omega)).trans (.of HO5.out (by simp;omega))
   have f3:Fr B g w5 w7:=(Fr.of (.of zaa) (by omega)).trans (.of HO7.out (by simp;omega))
   exact f1.trans (f2.trans (f3.trans ⟨g3,g4,g5,by omega,fun b hb hne=>g1 b (by omega) (by omega)⟩)))
  have c0:w8.cell? ⟨w4.heap.size,0,none⟩=some (.bool brk):=by rw[cell_of_row w8 _ 0 _ _ _ g0];rfl
  have c1:w8.cell? ⟨w4.heap.size,1,none⟩=some (.bool false):=by rw[cell_of_row w8 _ 1 _ _ _ g0];rfl
  have c2:w8.cell? ⟨w4.heap.size,2,none⟩=some (.bool false):=by rw[cell_of_row w8 _ 2 _ _ _ g0];rfl
  have c3:w8.cell? ⟨w4.heap.size,3,none⟩=some (.int .i64 po):=by rw[cell_of_row w8 _ 3 _ _ _ g0];rfl
  have c4:w8.cell? ⟨w4.heap.size,4,none⟩=some (.slice pco pcn pcc):=by rw[cell_of_row w8 _ 4 _ _ _ g0];rfl
  have c5:w8.cell? ⟨w4.heap.size,5,none⟩=some (.slice pko pkn pkc):=by rw[cell_of_row w8 _ 5 _ _ _ g0];rfl
  have c6:w8.cell? ⟨w4.heap.size,6,none⟩=some (.int .i64 qo):=by rw[cell_of_row w8 _ 6 _ _ _ g0];rfl
  have c7:w8.cell? ⟨w4.heap.size,7,none⟩=some (.slice qco qcn qcc):=by rw[cell_of_row w8 _ 7 _ _ _ g0];rfl
  have c8:w8.cell? ⟨w4.heap.size,8,none⟩=some (.slice qko qkn qkc):=by rw[cell_of_row w8 _ 8 _ _ _ g0];rfl
  have cx:w8.cell? ⟨X,1,none⟩=some (.slice vo n vc):=by rw[cell_of_row w8 X 1 _ _ _ X8];rfl
  have xl8:X<w8.heap.size:=zab X8;have HOn:=hid (fun(b:Nat) (hb:(Value.slice vo n vc).ownBlock=some b)=>show b≠X from fun e=>by
   rcases ow8.2 with ⟨k1,_⟩ | ⟨q',cap,cur,k1,_,k3,_⟩
   ·rw[k1] at hb;cases hb
   ·rw[k1] at hb;cases hb
    have e2:q'=X:=e;rw[e2,X8] at k3
    cases k3)
  have HFx:=hid (show Fx g X w w8 from by
   have f1:Fx g X w w4:=.of (.of HBw.out);have f2:Fx g X w4 w5:=(Fx.of (.of zaa)).trans (.of HO5.out);have f3:Fx g X w5 w7:=(Fx.of (.of zaa)).trans (.of HO7.out);intro b o hb k1 k2 k3;have q1:=f3 b o (f2 b o (f1 b o hb k1 k2 k3) k1 k2 k3) k1 k2 k3;rw[g1 b (zab q1) (by have:=zab hb;have:=HBw.out.size;omega)]
   exact q1)
  clear g0 g1 g2 g3 g4 g5 X8 ow8 HX7 HP5 HP7 HPL HKt HZ5 HZ7 HO5 HO7 HX5 xl5 xl7 al zl H5 H6;refine zag [(0,true),(1,true),(2,true),(3,true),(4,true),(5,true),(6,true),(7,false),(8,false),(9,false),(10,false),(11,false),(12,false)] (fun W=>W.cell? ⟨X,1,none⟩=some (.slice vo n vc)/\W.cell? ⟨w4.heap.size,0,none⟩=some (.bool brk)/\W.cell? ⟨w4.heap.size,1,none⟩=some (.bool false)/\W.cell? ⟨w4.heap.size,2,none⟩=some (.bool false)/\W.cell? ⟨w4.heap.size,3,none⟩=some (.int .i64 po)/\W.cell? ⟨w4.heap.size,4,none⟩=some (.slice pco pcn pcc)/\W.cell? ⟨w4.heap.size,5,none⟩=some (.slice pko pkn pkc)/\W.cell? ⟨w4.heap.size,6,none⟩=some (.int .i64 qo)/\W.cell? ⟨w4.heap.size,7,none⟩=some (.slice qco qcn qcc)/\W.cell? ⟨w4.heap.size,8,none⟩=some (.slice qko qkn qkc)) (fun j=>j==12) (by kernel_rfl) (by kernel_rfl) (fun j hj=>by have:=beq_iff_eq.1 hj;subst this;decide) rfl (by kernel_rfl) ⟨cx,c0,c1,c2,c3,c4,c5,c6,c7,c8⟩ ?_
  iterate 7 (refine zav ?_ rfl (by kernel_rfl) (fun w' hS=>?_) ?_;(rotate_left;(obtain⟨s0,s1,s2,s3,s4,s5,s6,s7,s8,s9⟩:=hS;go_simp;with_reducible rfl);rotate_left))
  refine zal rfl (by kernel_rfl) fun KK hKK=>?_
  go_simp;obtain⟨w9,hw9⟩:∃w9,w9=(w8.alloc (.cells #[.bool brk,.bool false,.bool false,.int .i64 po,.slice pco pcn pcc,.slice pko pkn pkc,.int .i64 qo,.slice qco qcn qcc,.slice qko qkn qkc] 107)).drew:=⟨_,rfl⟩;rw[<- hw9];have b9:Below w8.heap.size w8 w9:=by rw[hw9];exact zaa.drew
  have nw9:∀j u,[Value.bool brk,.bool false,.bool false,.int .i64 po,.slice pco pcn pcc,.slice pko pkn pkc,.int .i64 qo,.slice qco qcn qcc,.slice qko qkn qkc][j]? =some u->w9.cell? ((⟨w8.heap.size,0,none⟩:Addr).add j)=some u:=by
   rw[hw9];exact news9 w8 _ _
  have sz9:w9.heap.size=w8.heap.size+1:=by rw[hw9];simp[heap_drew]
  have HB9:=hid b9;have HN9:=hid nw9;clear hw9 b9 nw9 sz9;have HC:=hid (fun(W:World) (hW:∀b,b<w8.heap.size->(Value.slice vo n vc).ownBlock≠some b->W.heap[b]? =w8.heap[b]?)=>show W.cell? ⟨X,1,none⟩=some (.slice vo n vc)/\W.cell? ⟨w4.heap.size,0,none⟩=some (.bool brk)/\W.cell? ⟨w4.heap.size,1,none⟩=some (.bool false)/\W.cell? ⟨w4.heap.size,2,none⟩=some (.bool false)/\W.cell? ⟨w4.heap.size,3,none⟩=some (.int .i64 po)/\W.cell? ⟨w4.heap.size,4,none⟩=some (.slice pco pcn pcc)/\W.cell? ⟨w4.heap.size,5,none⟩=some (.slice pko pkn pkc)/\W.cell? ⟨w4.heap.size,6,none⟩=some (.int .i64 qo)/\W.cell? ⟨w4.heap.size,7,none⟩=some (.slice qco qcn qcc)/\W.cell? ⟨w4.heap.size,8,none⟩=some (.slice qko qkn qkc) from by
   have e1:W.heap[X]? =w8.heap[X]? :=hW X xl8 (fun e=>HOn.out X e rfl)
   have e2:W.heap[w4.heap.size]? =w8.heap[w4.heap.size]? :=hW _ (World.block_lt_of_cell? w8 _ c0) (fun e=>by have:=HOw.out _ e;omega)
   exact⟨(World.cell?_of_block e1).trans cx,(World.cell?_of_block e2).trans c0,(World.cell?_of_block e2).trans c1,(World.cell?_of_block e2).trans c2,(World.cell?_of_block e2).trans c3,(World.cell?_of_block e2).trans c4,(World.cell?_of_block e2).trans c5,(World.cell?_of_block e2).trans c6,(World.cell?_of_block e2).trans c7,(World.cell?_of_block e2).trans c8⟩)
  refine hKK _ _ (fun _=>HC.out _ fun b hb _=>HB9.out.block b hb) ?_
  clear hKK cx c0 c1 c2 c3 c4 c5 c6 c7 c8;refine zal rfl (by kernel_rfl) fun KK hKK=>?_
  refine wp_append_lies _ _ _ 61 rfl B 107 iR (.agg #[.bool false,.bool false,.bool false,.int .i64 0,.slice none 0 0,.slice none 0 0,.int .i64 0,.slice none 0 0,.slice none 0 0]) 9 120 Tryz.underRules HIR.out.1 HIR.out.2.1 HIR.out.2.2.1 HIR.out.2.2.2 rfl (by decide) (.slice vo n vc) n xs rfl ⟨HX8.out.own.1,HX8.out.own.2.imp (fun e=>e) fun⟨q,cap,cur,k1,k2,k3,k4⟩=>⟨q,cap,cur,k1,k2,(HB9.out.block q (zab k3)).trans k3,k4⟩⟩ ⟨w8.heap.size,0,none⟩ 1 1 [Value.bool brk,.bool false,.bool false,.int .i64 po,.slice pco pcn pcc,.slice pko pkn pkc,.int .i64 qo,.slice qco qcn qcc,.slice qko qkn qkc] rfl rfl HN9.out (fun u hu=>by simp at hu;rcases hu with h | h | h | h | h | h | h | h<;>rw[h]<;>rfl) (by decide) (by unfold maxLen;omega) (by omega) (by have:=HX8.out.lx;have:=HB9.out.size;omega) w9.heap.size rfl ?_
  intro g8 c8 w10 o10 gr10 hl10 hlt10;have HM:=hid (fun(w11:World) (h11:w11=w10.setCell ⟨X,1,none⟩ (.slice (some ⟨g8,0,none⟩) (n+1) c8))=>RrAt.more (r:=⟨brk,false,false,pl,pr⟩) HX8.out HP1.out HP2.out rfl HB9.out o10 gr10 h11)
  have X10:w10.heap[X]? =w8.heap[X]? :=(gr10.block X (Nat.lt_of_lt_of_le xl8 HB9.out.size) (fun e=>HOn.out X e.symm rfl)).trans (HB9.out.block X xl8)
  have f10:w10.frozen? ⟨X,1,none⟩=false:=frozen_of_row w10 X 1 _ _ (X10.trans HX8.out.at_);have c10:w10.cell? ⟨X,1,none⟩=some (.slice vo n vc):=by rw[cell_of_row w10 X 1 _ _ _ (X10.trans HX8.out.at_)];rfl
  have HS10:=hid (HC.out w10 fun b hb hne=>(gr10.block b (Nat.lt_of_lt_of_le hb HB9.out.size) (fun e=>hne e.symm)).trans (HB9.out.block b hb))
  refine hKK _ _ (fun _=>HC.out _ fun b hb hne=>(gr10.block b (Nat.lt_of_lt_of_le hb HB9.out.size) (fun e=>hne e.symm)).trans (HB9.out.block b hb)) ?_
  clear hKK o10 gr10 hl10 hlt10 X10
  iterate 3 (refine zal rfl (by kernel_rfl) fun KK hKK=>?_;go_simp;refine hKK _ _ (fun _=>HS10.out) ?_;clear hKK)
  refine zal rfl (by kernel_rfl) fun KK hKK=>?_
  go_simp;refine hKK _ _ (fun h=>by cases h) ?_
  clear hKK;refine zaG (NoPanic.normal ?_);go_wp2;go_ret;obtain⟨m1,m2,m3⟩:=HM.out _ rfl;exact⟨rfl,HFr.out.trans m2,HFx.out.trans m3,_,_,_,_,m1⟩)
end Pt
end
section
open Ev Go.RowKit
namespace Pt
set_option maxRecDepth 100000 in
theorem line_start (B X g nc:Nat) (vs:List Value) (vo:Option Addr) (n vc:Nat) (rs:List Rl) (xs:List Value) (rest:Bool) (w:World) (s p L R:List UInt8) (k:Nat) (brk:Bool) (pl pr:Pat) (hX:RrAt B w X g nc vs vo n vc rs xs rest false) (hn9:n<=60)
  (h1:Pl1 103 (.string ⟨s.toArray⟩) (.string ⟨p.toArray⟩)) (h2:Pl1 104 (.string ⟨p.toArray⟩) (.int .i64 k)) (hk:k<p.length) (hp9:p.length<=10000) (hR8:R.length<=10000) (hb:((p[k].toNat:Int)==47)=brk)
  (h3:Pl1 105 (.string ((⟨p.toArray⟩:ByteArray).extract 0 k)) (.string ⟨L.toArray⟩)) (h4:Pl1 105 (.string ((⟨p.toArray⟩:ByteArray).extract (k+1) p.length)) (.string ⟨R.toArray⟩)) (hL:L≠ [114,101,115,116]) (hL9:L.head? =some 94) (hL8:L.length<=10000) (hR9:R.getLast? ≠some 36)
  (h5:∀W,NmAt W g nc vs->Calls Tryz.prog 106 #[.string ((⟨L.toArray⟩:ByteArray).extract 1 L.length),.slice (some ⟨g,0,none⟩) vs.length nc] W (PsQ g nc vs W pl))
  (h6:∀W,NmAt W g nc vs->Calls Tryz.prog 106 #[.string ⟨R.toArray⟩,.slice (some ⟨g,0,none⟩) vs.length nc] W (PsQ g nc vs W pr)):
  Calls Tryz.prog 72 #[.pointer (some ⟨X,0,none⟩),.string ⟨s.toArray⟩] w (LnQ B w X g nc vs (rs++[⟨brk,true,false,pl,pr⟩]) rest false):=by
 obtain⟨iR,hR0,hR1,hR2,hR3⟩:=info_parts Tryz.infoRule;have HIR:=hid (And.intro hR0 (And.intro hR1 (And.intro hR2 hR3)));clear hR0 hR1 hR2 hR3;have HX:=hid hX;have H1:=hid h1;have H2:=hid h2;have H3:=hid h3;have H4:=hid h4;have H5:=hid h5;have H6:=hid h6;clear hX h1 h2 h3 h4 h5 h6;go_enter Tryz.func72,Tryz.ntmps72;go_wp2_with fail;refine(H1.out w).mono ?_;rintro e w1 ⟨rfl,b1⟩;have HX1:=hid (HX.out.below b1);have HB1:=hid b1;clear b1;have p0:p.isEmpty=false:=by cases p with
  | nil=>simp at hk
  | cons a b=>rfl
 have p1:p≠ []:=by cases p with
  | nil=>simp at hk
  | cons a b=>simp
 go_wp2_with fail;refine(H2.out w1).mono ?_;rintro e w2 ⟨rfl,b2⟩;have HX2:=hid (HX1.out.below b2);have HB2:=hid (HB1.out.trans (b2.mono HB1.out.size));clear b2 HX1 HB1;have x1:w2.cell? ⟨X,1,none⟩=some (.slice vo n vc):=by rw[cell_of_row w2 X 1 _ _ _ HX2.out.at_];rfl
 have x3:w2.cell? ⟨X,3,none⟩=some (.bool false):=by rw[cell_of_row w2 X 3 _ _ _ HX2.out.at_];rfl
 have k0:(0:Int)<=(k:Int):=by omega
 have k1:(k:Int)<(p.length:Int):=by omega
 have k2:¬(k:Int)<0:=by omega
 have d1:decide ((k:Int)<0)=false:=decide_eq_false (by omega)
 have k3:(k:Int)<=(p.length:Int):=by omega
 have k4:(k:Int)+1<=(p.length:Int):=by omega
 go_wp2_with fail;have e9:((((⟨p.toArray⟩:ByteArray)[k]'(by show k<p.toArray.size;simpa using hk)).toNat:Int)==47)=brk:=hb
 rw[e9];clear e9 hb;have e8:IntKind.i64.wrap ((k:Int)+1)=(k:Int)+1:=by unfold IntKind.wrap IntKind.bits IntKind.signed;simp;omega
 have k5:(0:Int)<=(k:Int)+1:=by omega
 refine zag [(0,true),(1,true),(2,true),(4,true),(5,true),(6,true),(7,true),(3,false),(8,false),(9,false),(10,false)] (fun _=>True) (fun _=>false) (by kernel_rfl) (by kernel_rfl) (fun j hj=>by cases hj) rfl (by kernel_rfl) trivial ?_
 iterate 7 (refine zav ?_ rfl (by kernel_rfl) (fun w' hS=>?_) ?_;(rotate_left;(go_simp;with_reducible rfl);rotate_left))
 refine zal rfl (by kernel_rfl) fun KK hKK=>?_
 go_simp;refine(H3.out w2.drew).mono ?_;rintro e w3 ⟨rfl,b3⟩;have HB3:=hid (show Below w2.heap.size w2 w3 from⟨b3.os,b3.tape,b3.output,b3.size,b3.block⟩)
 clear b3;refine hKK _ _ (fun _=>trivial) ?_
 clear hKK;refine zal rfl (by kernel_rfl) fun KK hKK=>?_
 go_simp;refine(H4.out w3).mono ?_;rintro e w4 ⟨rfl,b4⟩;have HB4:=hid (show Below w2.heap.size w2 w4 from HB3.out.trans (b4.mono HB3.out.size))
 clear b4 HB3;refine hKK _ _ (fun _=>trivial) ?_
 clear hKK;refine zal rfl (by kernel_rfl) fun KK hKK=>?_
 go_simp;refine hKK _ _ (fun _=>trivial) ?_
 clear hKK;refine zal rfl (by kernel_rfl) fun KK hKK=>?_
 go_simp;refine hKK _ _ (fun _=>trivial) ?_
 clear hKK;refine zaG (NoPanic.normal ?_);have HX4:=hid (HX2.out.below HB4.out);have HBw:=hid (HB2.out.trans (HB4.out.mono HB2.out.size));have y1:w4.cell? ⟨X,1,none⟩=some (.slice vo n vc):=by rw[cell_of_row w4 X 1 _ _ _ HX4.out.at_];rfl
 have y0:w4.cell? ⟨X,0,none⟩=some (.slice (some ⟨g,0,none⟩) vs.length nc):=by rw[cell_of_row w4 X 0 _ _ _ HX4.out.at_];rfl
 have HXl:=hid (zab HX4.out.at_);have HBl:=hid (show B<=w.heap.size by have:=zab HX.out.at_;have:=HX.out.lx;omega)
 clear x1 x3 HX2 HB2 HB4 k2 k3 k4 k5 d1 e8 p0 p1 HX;have r1:(L== [114,101,115,116])=false:=by simpa using hL
 have n1:(n:Int)<64:=by omega
 have xl:X<w4.heap.size:=HXl.out;have hL0:L≠ []:=fun e=>by rw[e] at hL9;cases hL9
 ·skip
  have l2:L.isEmpty=false:=by cases L with
   | nil=>exact absurd rfl hL0
   | cons x y=>rfl
  have l3:(L== [])=false:=by simpa using hL0
  have l4:0<L.length:=List.length_pos_iff.2 hL0;have l5:(0:Int)<(L.length:Int):=by omega
  have l6:(((((⟨L.toArray⟩:ByteArray)[0]'(by show 0<L.toArray.size;simpa using l4)).toNat:Int))==94)=true:=by
   have e1:L[0]=94:=by
    rw[List.head?_eq_getElem?,List.getElem?_eq_getElem l4] at hL9;exact Option.some.inj hL9
   have e2:((⟨L.toArray⟩:ByteArray)[0]'(by show 0<L.toArray.size;simpa using l4))=94:=e1
   rw[e2]
   rfl
  have l7:(1:Int)<=(L.length:Int):=by omega
  rcases Classical.em (R=[]) with hR0 | hR0
  subst hR0;rotate_left;have r2:R.isEmpty=false:=by cases R with
   | nil=>exact absurd rfl hR0
   | cons x y=>rfl
  have r3:(R== [])=false:=by simpa using hR0
  have r4:0<R.length:=List.length_pos_iff.2 hR0;have r5:IntKind.i64.wrap ((R.length:Int) - 1)=(R.length:Int) - 1:=by unfold IntKind.wrap IntKind.bits IntKind.signed;simp;omega
  have r6:(0:Int)<=(R.length:Int) - 1:=by omega
  have r7:(R.length:Int) - 1<(R.length:Int):=by omega
  have r8:((R.length:Int) - 1).toNat=R.length - 1:=by omega
  have r9:R.length - 1<R.length:=by omega
  have q2:(((((⟨R.toArray⟩:ByteArray)[R.length - 1]'(by show R.length - 1<R.toArray.size;simpa using r9)).toNat:Int))==36)=false:=by
   rw[beq_eq_false_iff_ne];intro e
   apply hR9
   have e1:R[R.length - 1]=36:=UInt8.toNat_inj.1 (by
    have:(R[R.length - 1]).toNat=(36:Nat):=by exact_mod_cast e
    exact this)
   rw[List.getLast?_eq_getElem?,List.getElem?_eq_getElem r9,e1]
  all_goals (
   go_wp2_with fail;refine(H5.out _ (HX4.out.nm.below zaa)).mono ?_;rintro e w5 ⟨u0,u1,u2,rfl,hp5,hn5,ho5⟩;obtain⟨po,pco,pcn,pcc,pko,pkn,pkc,rfl,rfl,rfl⟩:=RdPx.shape hp5;have HOw:=hid (fun(q:Nat) (hq:(Value.slice vo n vc).ownBlock=some q)=>show q<w4.heap.size from by
    rcases HX4.out.own.2 with ⟨c1,_⟩ | ⟨q',cap,cur,c1,_,c3,_⟩
    ·rw[c1] at hq;cases hq
    ·rw[c1] at hq;cases hq;exact zab c3)
   have hx5:=(HX4.out.below zaa).oth ho5 hn5;have HX5:=hid hx5;have HP5:=hid hp5;have zz:w5.heap[w4.heap.size]? =some (.cells #[.bool brk,.bool true,.bool false,.int .i64 0,.slice none 0 0,.slice none 0 0,.int .i64 0,.slice none 0 0,.slice none 0 0] 107 (0,0)):=(ho5.block _ (by simp) (fun e=>by have:=HX4.out.lg;have:=HX4.out.lx;have:=HXl.out;omega)).trans (heap_alloc_new _ _)
   have HZ5:=hid zz;have HO5:=hid ho5;have v0:w5.cell? ⟨X,0,none⟩=some (.slice (some ⟨g,0,none⟩) vs.length nc):=by rw[cell_of_row w5 X 0 _ _ _ hx5.at_];rfl
   have xl5:X<w5.heap.size:=zab hx5.at_;clear hx5 hp5 hn5 ho5 zz y0 y1;go_wp2_with fail;refine(H6.out _ (HX5.out.nm.below zaa)).mono ?_;rintro e w7 ⟨s0,s1,s2,rfl,hp7,hn7,ho7⟩;obtain⟨qo,qco,qcn,qcc,qko,qkn,qkc,rfl,rfl,rfl⟩:=RdPx.shape hp7;have hx7:=(HX5.out.below zaa).oth ho7 hn7;have HX7:=hid hx7;have HP7:=hid hp7;have HPL:=hid (RdPx.kt ((HX5.out.nm.below zaa).kt ho7) _ _ _ _ (RdPx.kt (.of zaa) _ _ _ _ HP5.out));have HZ7:=hid ((ho7.block w4.heap.size (by have:=zab HZ5.out;simp;omega) (fun e=>by have:=HX4.out.lg;have:=HX4.out.lx;have:=HXl.out;omega)).trans ((Below.heap_alloc _ _ _ (zab HZ5.out)).trans HZ5.out))
   have za:w7.heap[w5.heap.size]? =some (.cells #[.int .i64 po,.slice pco pcn pcc,.slice pko pkn pkc] 105 (0,0)):=(ho7.block _ (by simp) (fun e=>by have:=HX4.out.lg;have:=HX4.out.lx;omega)).trans (heap_alloc_new _ _)
   have HO7:=hid ho7;have a0:w7.cell? ⟨w5.heap.size,0,none⟩=some (.int .i64 po):=by rw[cell_of_row w7 _ 0 _ _ _ za];rfl
   have a1:w7.cell? ⟨w5.heap.size,1,none⟩=some (.slice pco pcn pcc):=by rw[cell_of_row w7 _ 1 _ _ _ za];rfl
   have a2:w7.cell? ⟨w5.heap.size,2,none⟩=some (.slice pko pkn pkc):=by rw[cell_of_row w7 _ 2 _ _ _ za];rfl
   have al:w5.heap.size<w7.heap.size:=zab za;have zl:w4.heap.size<w7.heap.size:=zab HZ7.out;have z0:w7.cell? ⟨w4.heap.size,0,none⟩=some (.bool brk):=by rw[cell_of_row w7 _ 0 _ _ _ HZ7.out];rfl
   have z1:w7.cell? ⟨w4.heap.size,1,none⟩=some (.bool true):=by rw[cell_of_row w7 _ 1 _ _ _ HZ7.out];rfl
   have z2:w7.cell? ⟨w4.heap.size,2,none⟩=some (.bool false):=by rw[cell_of_row w7 _ 2 _ _ _ HZ7.out];rfl
   have z3:w7.cell? ⟨w4.heap.size,3,none⟩=some (.int .i64 0):=by rw[cell_of_row w7 _ 3 _ _ _ HZ7.out];rfl
   have z4:w7.cell? ⟨w4.heap.size,4,none⟩=some (.slice none 0 0):=by rw[cell_of_row w7 _ 4 _ _ _ HZ7.out];rfl
   have z5:w7.cell? ⟨w4.heap.size,5,none⟩=some (.slice none 0 0):=by rw[cell_of_row w7 _ 5 _ _ _ HZ7.out];rfl
   have z6:w7.cell? ⟨w4.heap.size,6,none⟩=some (.int .i64 0):=by rw[cell_of_row w7 _ 6 _ _ _ HZ7.out];rfl
   have z7:w7.cell? ⟨w4.heap.size,7,none⟩=some (.slice none 0 0):=by rw[cell_of_row w7 _ 7 _ _ _ HZ7.out];rfl
   have z8:w7.cell? ⟨w4.heap.size,8,none⟩=some (.slice none 0 0):=by rw[cell_of_row w7 _ 8 _ _ _ HZ7.out];rfl
   have zf3:w7.frozen? ⟨w4.heap.size,3,none⟩=false:=frozen_of_row w7 _ 3 _ _ HZ7.out;have zf4:w7.frozen? ⟨w4.heap.size,4,none⟩=false:=frozen_of_row w7 _ 4 _ _ HZ7.out;have zf5:w7.frozen? ⟨w4.heap.size,5,none⟩=false:=frozen_of_row w7 _ 5 _ _ HZ7.out;have zf6:w7.frozen? ⟨w4.heap.size,6,none⟩=false:=frozen_of_row w7 _ 6 _ _ HZ7.out;have zf7:w7.frozen? ⟨w4.heap.size,7,none⟩=false:=frozen_of_row w7 _ 7 _ _ HZ7.out;have zf8:w7.frozen? ⟨w4.heap.size,8,none⟩=false:=frozen_of_row w7 _ 8 _ _ HZ7.out;have xl7:X<w7.heap.size:=zab hx7.at_;have x7:w7.cell? ⟨X,1,none⟩=some (.slice vo n vc):=by rw[cell_of_row w7 X 1 _ _ _ hx7.at_];rfl
   clear hx7 hp7 hn7 ho7 za v0;go_wp2_with fail;obtain⟨w8,hw8⟩:∃w8,w8=((((((w7.setCell ⟨w4.heap.size,3,none⟩ (.int .i64 po)).setCell ⟨w4.heap.size,4,none⟩ (.slice pco pcn pcc)).setCell ⟨w4.heap.size,5,none⟩ (.slice pko pkn pkc)).setCell ⟨w4.heap.size,6,none⟩ (.int .i64 qo)).setCell ⟨w4.heap.size,7,none⟩ (.slice qco qcn qcc)).setCell ⟨w4.heap.size,8,none⟩ (.slice qko qkn qkc)).alloc (.cells #[.int .i64 qo,.slice qco qcn qcc,.slice qko qkn qkc] 105):=⟨_,rfl⟩;rw[<- hw8];obtain⟨g0,g1,g2,g3,g4,g5⟩:=six_sets w7 w4.heap.size _ _ _ _ _ _ _ _ _ _ _ _ _ _ _ _ _ HZ7.out w8 hw8;clear hw8 z0 z1 z2 z3 z4 z5 z6 z7 z8 zf3 zf4 zf5 zf6 zf7 zf8 a0 a1 a2 x7;have hxz:X≠w4.heap.size:=by omega
   have X8:w8.heap[X]? =some (.cells #[.slice (some ⟨g,0,none⟩) vs.length nc,.slice vo n vc,.bool rest,.bool false] 87 (0,0)):=(g1 X xl7 hxz).trans HX7.out.at_;have ow8:w8.ownsRow B 107 9 (.slice vo n vc) n xs:=⟨HX7.out.own.1,HX7.out.own.2.imp (fun e=>e) fun⟨q,cap,cur,c1,c2,c3,c4⟩=>⟨q,cap,cur,c1,c2,(g1 q (zab c3) (fun e=>by
    have:=HOw.out q (by rw[c1];rfl)
    omega)).trans c3,c4⟩⟩
   have HX8:=hid (show RrAt B w8 X g nc vs vo n vc rs xs rest false from⟨X8,(by
    obtain⟨cur,h1,h2⟩:=HX7.out.nm;exact⟨cur,(g1 g (zab h1) (by have:=HX4.out.lg;have:=HX4.out.lx;omega)).trans h1,h2⟩),ow8,HX7.out.rul.kt (fun b c t fr hb ht=>(g1 b (zab hb) (fun e=>by
     rw[e,HZ7.out] at hb
     cases hb
     rcases ht with ht | ht<;>cases ht)).trans hb),HX7.out.hn,HX7.out.lx,HX7.out.lg⟩)
   have HKt:=hid (show KtP w7 w8 from fun b c t fr hb ht=>(g1 b (zab hb) (fun e=>by
     rw[e,HZ7.out] at hb
     cases hb
     rcases ht with ht | ht<;>cases ht)).trans hb)
   have HP1:=hid (RdPx.kt HKt.out _ _ _ _ HPL.out);have HP2:=hid (RdPx.kt HKt.out _ _ _ _ HP7.out);have HFr:=hid (show Fr B g w w8 from by
    have l1:=HX4.out.lx;have l2:=HX4.out.lg;have l3:=HXl.out;have f1:Fr B g w w4:=.of (.of HBw.out) (by have:=HBl.out;omega)
    have f2:Fr B g w4 w5:=(Fr.of (.of zaa) (by omega)).trans (.of HO5.out (by simp;omega))
    have f3:Fr B g w5 w7:=(Fr.of (.of zaa) (by omega)).trans (.of HO7.out (by simp;omega))
    exact f1.trans (f2.trans (f3.trans ⟨g3,g4,g5,by omega,fun b hb hne=>g1 b (by omega) (by omega)⟩)))
   have c0:w8.cell? ⟨w4.heap.size,0,none⟩=some (.bool brk):=by rw[cell_of_row w8 _ 0 _ _ _ g0];rfl
   have c1:w8.cell? ⟨w4.heap.size,1,none⟩=some (.bool true):=by rw[cell_of_row w8 _ 1 _ _ _ g0];rfl
   have c2:w8.cell? ⟨w4.heap.size,2,none⟩=some (.bool false):=by rw[cell_of_row w8 _ 2 _ _ _ g0];rfl
   have c3:w8.cell? ⟨w4.heap.size,3,none⟩=some (.int .i64 po):=by rw[cell_of_row w8 _ 3 _ _ _ g0];rfl
   have c4:w8.cell? ⟨w4.heap.size,4,none⟩=some (.slice pco pcn pcc):=by rw[cell_of_row w8 _ 4 _ _ _ g0];rfl
   have c5:w8.cell? ⟨w4.heap.size,5,none⟩=some (.slice pko pkn pkc):=by rw[cell_of_row w8 _ 5 _ _ _ g0];rfl
   have c6:w8.cell? ⟨w4.heap.size,6,none⟩=some (.int .i64 qo):=by rw[cell_of_row w8 _ 6 _ _ _ g0];rfl
   have c7:w8.cell? ⟨w4.heap.size,7,none⟩=some (.slice qco qcn qcc):=by rw[cell_of_row w8 _ 7 _ _ _ g0];rfl
   have c8:w8.cell? ⟨w4.heap.size,8,none⟩=some (.slice qko qkn qkc):=by rw[cell_of_row w8 _ 8 _ _ _ g0];rfl
   have cx:w8.cell? ⟨X,1,none⟩=some (.slice vo n vc):=by rw[cell_of_row w8 X 1 _ _ _ X8];rfl
   have xl8:X<w8.heap.size:=zab X8;have HOn:=hid (fun(b:Nat) (hb:(Value.slice vo n vc).ownBlock=some b)=>show b≠X from fun e=>by
    rcases ow8.2 with ⟨k1,_⟩ | ⟨q',cap,cur,k1,_,k3,_⟩
    ·rw[k1] at hb;cases hb
    ·rw[k1] at hb;cases hb
     have e2:q'=X:=e;rw[e2,X8] at k3
     cases k3)
   have HFx:=hid (show Fx g X w w8 from by
    have f1:Fx g X w w4:=.of (.of HBw.out);have f2:Fx g X w4 w5:=(Fx.of (.of zaa)).trans (.of HO5.out);have f3:Fx g X w5 w7:=(Fx.of (.of zaa)).trans (.of HO7.out);intro b o hb k1 k2 k3;have q1:=f3 b o (f2 b o (f1 b o hb k1 k2 k3) k1 k2 k3) k1 k2 k3;rw[g1 b (zab q1) (by have:=zab hb;have:=HBw.out.size;omega)]
    exact q1)
   clear g0 g1 g2 g3 g4 g5 X8 ow8 HX7 HP5 HP7 HPL HKt HZ5 HZ7 HO5 HO7 HX5 xl5 xl7 al zl H5 H6;refine zag [(0,true),(1,true),(2,true),(3,true),(4,true),(5,true),(6,true),(7,false),(8,false),(9,false),(10,false),(11,false),(12,false)] (fun W=>W.cell? ⟨X,1,none⟩=some (.slice vo n vc)/\W.cell? ⟨w4.heap.size,0,none⟩=some (.bool brk)/\W.cell? ⟨w4.heap.size,1,none⟩=some (.bool true)/\W.cell? ⟨w4.heap.size,2,none⟩=some (.bool false)/\W.cell? ⟨w4.heap.size,3,none⟩=some (.int .i64 po)/\W.cell? ⟨w4.heap.size,4,none⟩=some (.slice pco pcn pcc)/\W.cell? ⟨w4.heap.size,5,none⟩=some (.slice pko pkn pkc)/\W.cell? ⟨w4.heap.size,6,none⟩=some (.int .i64 qo)/\W.cell? ⟨w4.heap.size,7,none⟩=some (.slice qco qcn qcc)/\W.cell? ⟨w4.heap.size,8,none⟩=some (.slice qko qkn qkc)) (fun j=>j==12) (by kernel_rfl) (by kernel_rfl) (fun j hj=>by have:=beq_iff_eq.1 hj;subst this;decide) rfl (by kernel_rfl) ⟨cx,c0,c1,c2,c3,c4,c5,c6,c7,c8⟩ ?_
   iterate 7 (refine zav ?_ rfl (by kernel_rfl) (fun w' hS=>?_) ?_;(rotate_left;(obtain⟨s0,s1,s2,s3,s4,s5,s6,s7,s8,s9⟩:=hS;go_simp;with_reducible rfl);rotate_left))
   refine zal rfl (by kernel_rfl) fun KK hKK=>?_
   go_simp;obtain⟨w9,hw9⟩:∃w9,w9=(w8.alloc (.cells #[.bool brk,.bool true,.bool false,.int .i64 po,.slice pco pcn pcc,.slice pko pkn pkc,.int .i64 qo,.slice qco qcn qcc,.slice qko qkn qkc] 107)).drew:=⟨_,rfl⟩;rw[<- hw9];have b9:Below w8.heap.size w8 w9:=by rw[hw9];exact zaa.drew
   have nw9:∀j u,[Value.bool brk,.bool true,.bool false,.int .i64 po,.slice pco pcn pcc,.slice pko pkn pkc,.int .i64 qo,.slice qco qcn qcc,.slice qko qkn qkc][j]? =some u->w9.cell? ((⟨w8.heap.size,0,none⟩:Addr).add j)=some u:=by
    rw[hw9];exact news9 w8 _ _
   have sz9:w9.heap.size=w8.heap.size+1:=by rw[hw9];simp[heap_drew]
   have HB9:=hid b9;have HN9:=hid nw9;clear hw9 b9 nw9 sz9;have HC:=hid (fun(W:World) (hW:∀b,b<w8.heap.size->(Value.slice vo n vc).ownBlock≠some b->W.heap[b]? =w8.heap[b]?)=>show W.cell? ⟨X,1,none⟩=some (.slice vo n vc)/\W.cell? ⟨w4.heap.size,0,none⟩=some (.bool brk)/\W.cell? ⟨w4.heap.size,1,none⟩=some (.bool true)/\W.cell? ⟨w4.heap.size,2,none⟩=some (.bool false)/\W.cell? ⟨w4.heap.size,3,none⟩=some (.int .i64 po)/\W.cell? ⟨w4.heap.size,4,none⟩=some (.slice pco pcn pcc)/\W.cell? ⟨w4.heap.size,5,none⟩=some (.slice pko pkn pkc)/\W.cell? ⟨w4.heap.size,6,none⟩=some (.int .i64 qo)/\W.cell? ⟨w4.heap.size,7,none⟩=some (.slice qco qcn qcc)/\W.cell? ⟨w4.heap.size,8,none⟩=some (.slice qko qkn qkc) from by
    have e1:W.heap[X]? =w8.heap[X]? :=hW X xl8 (fun e=>HOn.out X e rfl)
    have e2:W.heap[w4.heap.size]? =w8.heap[w4.heap.size]? :=hW _ (World.block_lt_of_cell? w8 _ c0) (fun e=>by have:=HOw.out _ e;omega)
    exact⟨(World.cell?_of_block e1).trans cx,(World.cell?_of_block e2).trans c0,(World.cell?_of_block e2).trans c1,(World.cell?_of_block e2).trans c2,(World.cell?_of_block e2).trans c3,(World.cell?_of_block e2).trans c4,(World.cell?_of_block e2).trans c5,(World.cell?_of_block e2).trans c6,(World.cell?_of_block e2).trans c7,(World.cell?_of_block e2).trans c8⟩)
   refine hKK _ _ (fun _=>HC.out _ fun b hb _=>HB9.out.block b hb) ?_
   clear hKK cx c0 c1 c2 c3 c4 c5 c6 c7 c8;refine zal rfl (by kernel_rfl) fun KK hKK=>?_
   refine wp_append_lies _ _ _ 61 rfl B 107 iR (.agg #[.bool false,.bool false,.bool false,.int .i64 0,.slice none 0 0,.slice none 0 0,.int .i64 0,.slice none 0 0,.slice none 0 0]) 9 120 Tryz.underRules HIR.out.1 HIR.out.2.1 HIR.out.2.2.1 HIR.out.2.2.2 rfl (by decide) (.slice vo n vc) n xs rfl ⟨HX8.out.own.1,HX8.out.own.2.imp (fun e=>e) fun⟨q,cap,cur,k1,k2,k3,k4⟩=>⟨q,cap,cur,k1,k2,(HB9.out.block q (zab k3)).trans k3,k4⟩⟩ ⟨w8.heap.size,0,none⟩ 1 1 [Value.bool brk,.bool true,.bool false,.int .i64 po,.slice pco pcn pcc,.slice pko pkn pkc,.int .i64 qo,.slice qco qcn qcc,.slice qko qkn qkc] rfl rfl HN9.out (fun u hu=>by simp at hu;rcases hu with h | h | h | h | h | h | h | h | h<;>rw[h]<;>rfl) (by decide) (by unfold maxLen;omega) (by omega) (by have:=HX8.out.lx;have:=HB9.out.size;omega) w9.heap.size rfl ?_
   intro g8 c8 w10 o10 gr10 hl10 hlt10;have HM:=hid (fun(w11:World) (h11:w11=w10.setCell ⟨X,1,none⟩ (.slice (some ⟨g8,0,none⟩) (n+1) c8))=>RrAt.more (r:=⟨brk,true,false,pl,pr⟩) HX8.out HP1.out HP2.out rfl HB9.out o10 gr10 h11)
   have X10:w10.heap[X]? =w8.heap[X]? :=(gr10.block X (Nat.lt_of_lt_of_le xl8 HB9.out.size) (fun e=>HOn.out X e.symm rfl)).trans (HB9.out.block X xl8)
   have f10:w10.frozen? ⟨X,1,none⟩=false:=frozen_of_row w10 X 1 _ _ (X10.trans HX8.out.at_);have c10:w10.cell? ⟨X,1,none⟩=some (.slice vo n vc):=by rw[cell_of_row w10 X 1 _ _ _ (X10.trans HX8.out.at_)];rfl
   have HS10:=hid (HC.out w10 fun b hb hne=>(gr10.block b (Nat.lt_of_lt_of_le hb HB9.out.size) (fun e=>hne e.symm)).trans (HB9.out.block b hb))
   refine hKK _ _ (fun _=>HC.out _ fun b hb hne=>(gr10.block b (Nat.lt_of_lt_of_le hb HB9.out.size) (fun e=>hne e.symm)).trans (HB9.out.block b hb)) ?_
   clear hKK o10 gr10 hl10 hlt10 X10
   iterate 3 (refine zal rfl (by kernel_rfl) fun KK hKK=>?_;go_simp;refine hKK _ _ (fun _=>HS10.out) ?_;clear hKK)
   refine zal rfl (by kernel_rfl) fun KK hKK=>?_
   go_simp;refine hKK _ _ (fun h=>by cases h) ?_
   clear hKK;refine zaG (NoPanic.normal ?_);go_wp2;go_ret;obtain⟨m1,m2,m3⟩:=HM.out _ rfl;exact⟨rfl,HFr.out.trans m2,HFx.out.trans m3,_,_,_,_,m1⟩)
end Pt
end
section
open Ev Go.RowKit
namespace Pt
theorem line_blank (B X g nc:Nat) (vs:List Value) (vo:Option Addr) (n vc:Nat) (rs:List Rl) (xs:List Value) (rest rested:Bool) (w:World) (s:List UInt8) (hX:RrAt B w X g nc vs vo n vc rs xs rest rested)
  (h1:Pl1 103 (.string ⟨s.toArray⟩) (.string ⟨#[]⟩)):Calls Tryz.prog 72 #[.pointer (some ⟨X,0,none⟩),.string ⟨s.toArray⟩] w (LnQ B w X g nc vs rs rest rested):=by
 have HX:=hid hX;have H1:=hid h1;clear hX h1;go_enter Tryz.func72,Tryz.ntmps72;go_wp2_with fail;refine(H1.out w).mono ?_;rintro e w1 ⟨rfl,b1⟩;have HX1:=hid (HX.out.below b1);have HB1:=hid b1;clear b1;go_wp2;go_ret;exact⟨rfl,.of (.of HB1.out) (by have:=zab HX.out.at_;have:=HX.out.lx;omega),.of (.of HB1.out),vo,n,vc,xs,HX1.out⟩
def PrQ (g:Nat) (w:World) (rs:List Rl) (rest:Bool) (e:Ending) (w':World):Prop:=∃ro rc,e= .returned (.tuple #[.agg #[.slice ro rs.length rc,.bool rest],.int .i64 0,.int .i64 0])/\RdRl w' ro rs/\Oth g w w'
theorem RrAt.rules {B:Nat} {w:World} {X g nc:Nat} {vs:List Value} {vo:Option Addr} {n vc:Nat} {rs:List Rl} {xs:List Value} {rest rested:Bool} (h:RrAt B w X g nc vs vo n vc rs xs rest rested):RdRl w vo rs:=fun j r hj=>by
 obtain⟨l0,l1,l2,r0,r1,r2,a0,a1,a2,a3,a4,a5,a6,a7,a8,p1,p2⟩:=h.rul j r hj;have hjl:=(List.getElem?_eq_some_iff.1 hj).1;have hn:=h.hn
 rcases h.own.2 with ⟨_,e⟩ | ⟨q,cap,cur,k1,k2,k3,k4,k5,k6,k7⟩
 ·omega
 ·cases k1
  have hc:∀i v,i<n * 9->xs[i]? =some v->w.cell? ⟨q,i,none⟩=some v:=fun i v hi hv=>by
   rw[cell_of_row w q i cur _ _ k3];rw[<- k7,List.getElem?_take_of_lt hi] at hv
   simpa using hv
  refine⟨q,0,l0,l1,l2,r0,r1,r2,rfl,zab k3,?_,?_,?_,?_,?_,?_,?_,?_,?_,RdPx.to _ _ _ _ p1,RdPx.to _ _ _ _ p2⟩
  all_goals (rw[Nat.zero_add];refine hc _ _ (by omega) ?_;assumption)
set_option maxRecDepth 100000 in
theorem parse8_any (text:List UInt8) (ht:text.length<=16384) (vs:List Value) (g nc:Nat) (ls:List (List UInt8)) (T:Nat->List Rl) (Rst Rd:Nat->Bool) (w:World) (hN:NmAt w g nc vs) (hl9:ls.length<=1000) (hT:T 0=[]) (hR:Rst 0=true) (hD:Rd 0=false)
  (h1:∀W,NmAt W g nc vs->Calls Tryz.prog 70 #[.slice (some ⟨g,0,none⟩) vs.length nc] W fun e w'=>e= .returned (.bool true)/\NmAt w' g nc vs/\Oth g W w')
  (h2:∀W:World,Calls Tryz.prog 71 #[.string ⟨text.toArray⟩] W fun e w'=>∃vo vc,e= .returned (.slice vo ls.length vc)/\LsAt W.heap.size w' vo ls/\Below W.heap.size W w')
  (h3:∀(j:Nat) (s:List UInt8),ls[j]? =some s->∀(B X:Nat) (vo:Option Addr) (n vc:Nat) (xs:List Value) (W:World),RrAt B W X g nc vs vo n vc (T j) xs (Rst j) (Rd j)->Calls Tryz.prog 72 #[.pointer (some ⟨X,0,none⟩),.string ⟨s.toArray⟩] W (LnQ B W X g nc vs (T (j+1)) (Rst (j+1)) (Rd (j+1)))):
  Calls Tryz.prog 45 #[.string ⟨text.toArray⟩,.slice (some ⟨g,0,none⟩) vs.length nc] w (PrQ g w (T ls.length) (Rst ls.length)):=by
 have HN:=hid hN;have H1:=hid h1;have H2:=hid h2;have H3:=hid h3;have HT:=hid (And.intro hT (And.intro hR hD));have HG:=hid (show g<w.heap.size by obtain⟨cur,k,_⟩:=hN;exact zab k)
 clear hN h1 h2 h3 hT hR hD;have t1:¬(16384:Int)<(text.length:Int):=by omega
 go_enter Tryz.func45,Tryz.ntmps45;go_wp2_with fail;refine(H1.out _ (HN.out.below zaa)).mono ?_;rintro e w1 ⟨rfl,n1,o1⟩;have HN1:=hid n1;have HO1:=hid ((Oth.of zaa).trans o1);have Z1:w1.heap[w.heap.size]? =some (.cells #[.slice none 0 0,.bool false] 63 (0,0)):=(o1.block _ (by simp) (by have:=HG.out;omega)).trans (heap_alloc_new _ _)
 have HZ1:=hid Z1;clear n1 o1 Z1 H1;go_wp2_with fail;refine(H2.out _).mono ?_;rintro e w3 ⟨lo,lc,rfl,hL,b3⟩;obtain⟨X,hX⟩:∃X,X=w1.heap.size:=⟨_,rfl⟩;have HX3:=hid (show RrAt w.heap.size w3 X g nc vs none 0 0 (T 0) [] (Rst 0) (Rd 0) from by
  rw[HT.out.1,HT.out.2.1,HT.out.2.2,hX];refine RrAt.below (w:=w1.alloc _) ⟨heap_alloc_new _ _,HN1.out.below zaa,World.ownsRow_nil _ _ _ _,fun j r hj=>by simp at hj,rfl,HO1.out.size,HG.out⟩ b3)
 have HF3:=hid (show Fr w.heap.size g w w3 from(Fr.of HO1.out (Nat.le_refl _)).trans ((Fr.of (.of zaa) HO1.out.size).trans (Fr.of (.of b3) (by have:=HO1.out.size;simp;omega))))
 have HZ3:=hid ((b3.block _ (by have:=zab HZ1.out;simp;omega)).trans ((Below.heap_alloc _ _ _ (zab HZ1.out)).trans HZ1.out))
 have HL3:=hid (show LsAt (X+1) w3 lo ls from by rw[hX];simpa using hL)
 have HXw:=hid (show w.heap.size<X from by rw[hX];exact zab HZ1.out)
 rw[<- hX];clear hL b3 hX H2;obtain⟨m,hm⟩:∃m,m=ls.length:=⟨_,rfl⟩;rw[<- hm] at hl9⊢;have HM:=hid hm;clear hm;go_wp2;go_loopw [9] (fun y wr=>∃i:Nat,y= .int .i64 i/\i<=m/\Hid (∃vo n vc xs,RrAt w.heap.size wr X g nc vs vo n vc (T i) xs (Rst i) (Rd i))/\Hid (Fr w.heap.size g w wr)/\Hid (wr.heap[w.heap.size]? =some (.cells #[.slice none 0 0,.bool false] 63 (0,0)))/\Hid (LsAt (X+1) wr lo ls)) (fun y _=>m - (intOf y).toNat)
 case atStart=>exact⟨0,rfl,Nat.zero_le _,hid ⟨_,_,_,_,HX3.out⟩,HF3,HZ3,HL3⟩
 case round=>
  clear HX3 HF3 HZ3 HL3;obtain⟨i,rfl,hi,HX,HF,HZ,HL⟩:=hrel;obtain⟨vo,n,vc,xs,hx⟩:=HX.out
  by_cases hlt:i<m
  ·have i0:(0:Int)<=(i:Int):=by omega
   have i1:(i:Int)<(m:Int):=by omega
   have hil:i<ls.length:=by have:=HM.out;omega
   obtain⟨b,o,c,fr,rfl,hb,hh,hc⟩:=HL.out i ls[i] (List.getElem?_eq_getElem hil);have c1:wr.cell? ⟨b,o+i,none⟩=some (.string ⟨(ls[i]).toArray⟩):=by rw[cell_of_row wr b _ c _ _ hh];exact hc
   have HLn:=hid (H3.out i ls[i] (List.getElem?_eq_getElem hil) w.heap.size X vo n vc xs wr hx);obtain⟨s,hs⟩:∃s,s=ls[i]:=⟨_,rfl⟩;rw[<- hs] at c1 HLn;clear hh hc hs hb hx;go_wp2_with fail;refine HLn.out.mono ?_;rintro e w4 ⟨rfl,f4,x4,r4⟩;have HX4:=hid r4;have HF4:=hid (HF.out.trans f4);have HZ4:=hid (x4 _ _ HZ.out (by have:=HG.out;omega) (by have:=HXw.out;omega) (fun c fr e=>by cases e))
   have HL4:=hid (show LsAt (X+1) w4 (some ⟨b,o,none⟩) ls from fun j s hj=>by
    obtain⟨b2,o2,c2,fr2,k1,k2,k3,k4⟩:=HL.out j s hj;exact⟨b2,o2,c2,fr2,k1,k2,x4 _ _ k3 (by have:=HG.out;have:=HXw.out;omega) (by omega) (fun c fr e=>by cases e),k4⟩)
   clear f4 x4 r4 c1 HLn;go_wp2;go_roundw
   case rel=>exact⟨i+1,by go_num,by omega,HX4,HF4,HZ4,HL4⟩
   case measure=>simp[intOf];omega
  ·have i1:¬(i:Int)<(m:Int):=by omega
   have e:i=m:=by omega
   subst e;have HXx:=hid hx;have x1:wr.cell? ⟨X,1,none⟩=some (.slice vo n vc):=by rw[cell_of_row wr X 1 _ _ _ hx.at_];rfl
   have x2:wr.cell? ⟨X,2,none⟩=some (.bool (Rst i)):=by rw[cell_of_row wr X 2 _ _ _ hx.at_];rfl
   have z0:wr.cell? ⟨w.heap.size,0,none⟩=some (.slice none 0 0):=by rw[cell_of_row wr _ 0 _ _ _ HZ.out];rfl
   have z1:wr.cell? ⟨w.heap.size,1,none⟩=some (.bool false):=by rw[cell_of_row wr _ 1 _ _ _ HZ.out];rfl
   have f0:=frozen_of_row wr _ 0 _ _ HZ.out;have f1:=frozen_of_row wr _ 1 _ _ HZ.out;clear hx;go_wp2;obtain⟨w5,hw5⟩:∃w5,w5=(wr.setCell ⟨w.heap.size,0,none⟩ (.slice vo n vc)).setCell ⟨w.heap.size,1,none⟩ (.bool (Rst i)):=⟨_,rfl⟩;rw[<- hw5];have k5:Ony w.heap.size wr w5:=by rw[hw5];exact(Ony.set _ 0 wr _).trans (Ony.set _ 1 _ _)
   have z5:w5.heap[w.heap.size]? =some (.cells #[.slice vo n vc,.bool (Rst i)] 63 (0,0)):=by
    have h0:=heap_setCell_same wr w.heap.size 0 _ _ (.slice vo n vc) HZ.out;rw[hw5,heap_setCell_same _ w.heap.size 1 _ _ _ h0]
    rfl
   have y0:w5.cell? ⟨w.heap.size,0,none⟩=some (.slice vo n vc):=by rw[cell_of_row w5 _ 0 _ _ _ z5];rfl
   have y1:w5.cell? ⟨w.heap.size,1,none⟩=some (.bool (Rst i)):=by rw[cell_of_row w5 _ 1 _ _ _ z5];rfl
   refine bodyPost_ret (v:=.tuple #[.agg #[.slice vo n vc,.bool (Rst i)],.int .i64 0,.int .i64 0]) ?_ rfl ?_
   ·simp[results,Tryz.f45,go_sem,y0,y1]
   ·rw[<- HM.out]
    refine⟨vo,vc,by rw[HXx.out.hn],?_,?_⟩
    ·have r5:RrAt w.heap.size w5 X g nc vs vo n vc (T i) xs (Rst i) (Rd i):=by
      refine⟨(k5.block X (by have:=HXw.out;omega)).trans HXx.out.at_,?_,⟨HXx.out.own.1,HXx.out.own.2.imp (fun e=>e) fun⟨q,cap,cur,c1,c2,c3,c4⟩=>⟨q,cap,cur,c1,c2,(k5.block q (fun e=>by rw[e,HZ.out] at c3;cases c3)).trans c3,c4⟩⟩,HXx.out.rul.kt (fun b c t fr hb ht=>(k5.block b (fun e=>by
       rw[e,HZ.out] at hb
       cases hb
       rcases ht with ht | ht<;>cases ht)).trans hb),HXx.out.hn,HXx.out.lx,HXx.out.lg⟩
      obtain⟨cur,h1,h2⟩:=HXx.out.nm;exact⟨cur,(k5.block g (by have:=HG.out;omega)).trans h1,h2⟩
     exact r5.rules
    ·exact⟨k5.os.trans HF.out.os,k5.tape.trans HF.out.tape,k5.output.trans HF.out.output,by rw[k5.size];exact HF.out.size,fun b hb hne=>(k5.block b (by omega)).trans (HF.out.block b hb hne)⟩
end Pt
end
section
open Ev Go.RowKit
namespace Pt
theorem RrAt.rest {B:Nat} {w w1 w2:World} {X g nc:Nat} {vs:List Value} {vo:Option Addr} {n vc:Nat} {rs:List Rl} {xs:List Value} {rest brk:Bool} (h:RrAt B w X g nc vs vo n vc rs xs rest false) (h1:w1=w.setCell ⟨X,2,none⟩ (.bool brk)) (h2:w2=w1.setCell ⟨X,3,none⟩ (.bool true)):
  RrAt B w2 X g nc vs vo n vc rs xs brk true/\Fr B g w w2/\Fx g X w w2:=by
 have lx:=h.lx;have lg:=h.lg;have k1:Ony X w w1:=by rw[h1];exact Ony.set X 2 w _
 have k2:Ony X w w2:=by rw[h2];exact k1.trans (Ony.set X 3 w1 _)
 have e1:w1.heap[X]? =some (.cells #[.slice (some ⟨g,0,none⟩) vs.length nc,.slice vo n vc,.bool brk,.bool false] 87 (0,0)):=by rw[h1,heap_setCell_same w X 2 _ _ _ h.at_];rfl
 have e2:w2.heap[X]? =some (.cells #[.slice (some ⟨g,0,none⟩) vs.length nc,.slice vo n vc,.bool brk,.bool true] 87 (0,0)):=by rw[h2,heap_setCell_same w1 X 3 _ _ _ e1];rfl
 refine⟨⟨e2,?_,⟨h.own.1,h.own.2.imp (fun e=>e) fun⟨q,cap,cur,c1,c2,c3,c4⟩=>⟨q,cap,cur,c1,c2,(k2.block q (fun e=>by
  rw[e,h.at_] at c3
  cases c3)).trans c3,c4⟩⟩,h.rul.kt (fun b c t fr hb ht=>(k2.block b (fun e=>by
  rw[e,h.at_] at hb
  cases hb
  rcases ht with ht | ht<;>cases ht)).trans hb),h.hn,lx,lg⟩,⟨k2.os,k2.tape,k2.output,by rw[k2.size];exact Nat.le_refl _,fun b hb _=>k2.block b (by omega)⟩,fun b o hb _ hne _=>(k2.block b hne).trans hb⟩
 obtain⟨cur,a1,a2⟩:=h.nm;exact⟨cur,(k2.block g (by omega)).trans a1,a2⟩
set_option maxRecDepth 100000 in
theorem line_rest (B X g nc:Nat) (vs:List Value) (vo:Option Addr) (n vc:Nat) (rs:List Rl) (xs:List Value) (rest:Bool) (w:World) (s p:List UInt8) (k:Nat) (brk:Bool) (hX:RrAt B w X g nc vs vo n vc rs xs rest false)
  (h1:Pl1 103 (.string ⟨s.toArray⟩) (.string ⟨p.toArray⟩)) (h2:Pl1 104 (.string ⟨p.toArray⟩) (.int .i64 k)) (hk:k<p.length) (hp9:p.length<=10000) (hb:((p[k].toNat:Int)==47)=brk)
  (h3:Pl1 105 (.string ((⟨p.toArray⟩:ByteArray).extract 0 k)) (.string ⟨#[114,101,115,116]⟩)) (h4:Pl1 105 (.string ((⟨p.toArray⟩:ByteArray).extract (k+1) p.length)) (.string ⟨#[]⟩)):
  Calls Tryz.prog 72 #[.pointer (some ⟨X,0,none⟩),.string ⟨s.toArray⟩] w (LnQ B w X g nc vs rs brk true):=by
 have HX:=hid hX;have H1:=hid h1;have H2:=hid h2;have H3:=hid h3;have H4:=hid h4;clear hX h1 h2 h3 h4;go_enter Tryz.func72,Tryz.ntmps72;go_wp2_with fail;refine(H1.out w).mono ?_;rintro e w1 ⟨rfl,b1⟩;have HX1:=hid (HX.out.below b1);have HB1:=hid b1;clear b1;have p0:p.isEmpty=false:=by cases p with
  | nil=>simp at hk
  | cons a b=>rfl
 have p1:p≠ []:=by cases p with
  | nil=>simp at hk
  | cons a b=>simp
 go_wp2_with fail;refine(H2.out w1).mono ?_;rintro e w2 ⟨rfl,b2⟩;have HX2:=hid (HX1.out.below b2);have HB2:=hid (HB1.out.trans (b2.mono HB1.out.size));clear b2 HX1 HB1;have x3:w2.cell? ⟨X,3,none⟩=some (.bool false):=by rw[cell_of_row w2 X 3 _ _ _ HX2.out.at_];rfl
 have k0:(0:Int)<=(k:Int):=by omega
 have k1:(k:Int)<(p.length:Int):=by omega
 have k2:¬(k:Int)<0:=by omega
 have d1:decide ((k:Int)<0)=false:=decide_eq_false (by omega)
 have k3:(k:Int)<=(p.length:Int):=by omega
 have k4:(k:Int)+1<=(p.length:Int):=by omega
 go_wp2_with fail;have e9:((((⟨p.toArray⟩:ByteArray)[k]'(by show k<p.toArray.size;simpa using hk)).toNat:Int)==47)=brk:=hb
 rw[e9];clear e9 hb;have e8:IntKind.i64.wrap ((k:Int)+1)=(k:Int)+1:=by unfold IntKind.wrap IntKind.bits IntKind.signed;simp;omega
 have k5:(0:Int)<=(k:Int)+1:=by omega
 refine zag [(0,true),(1,true),(2,true),(4,true),(5,true),(6,true),(7,true),(3,false),(8,false),(9,false),(10,false)] (fun _=>True) (fun _=>false) (by kernel_rfl) (by kernel_rfl) (fun j hj=>by cases hj) rfl (by kernel_rfl) trivial ?_
 iterate 7 (refine zav ?_ rfl (by kernel_rfl) (fun w' hS=>?_) ?_;(rotate_left;(go_simp;with_reducible rfl);rotate_left))
 refine zal rfl (by kernel_rfl) fun KK hKK=>?_
 go_simp;refine(H3.out w2.drew).mono ?_;rintro e w3 ⟨rfl,b3⟩;have HB3:=hid (show Below w2.heap.size w2 w3 from⟨b3.os,b3.tape,b3.output,b3.size,b3.block⟩)
 clear b3;refine hKK _ _ (fun _=>trivial) ?_
 clear hKK;refine zal rfl (by kernel_rfl) fun KK hKK=>?_
 go_simp;refine(H4.out w3).mono ?_;rintro e w4 ⟨rfl,b4⟩;have HB4:=hid (show Below w2.heap.size w2 w4 from HB3.out.trans (b4.mono HB3.out.size))
 clear b4 HB3;refine hKK _ _ (fun _=>trivial) ?_
 clear hKK;refine zal rfl (by kernel_rfl) fun KK hKK=>?_
 go_simp;refine hKK _ _ (fun _=>trivial) ?_
 clear hKK;refine zal rfl (by kernel_rfl) fun KK hKK=>?_
 go_simp;refine hKK _ _ (fun _=>trivial) ?_
 clear hKK;refine zaG (NoPanic.normal ?_);have HX4:=hid (HX2.out.below HB4.out);have HBw:=hid (HB2.out.trans (HB4.out.mono HB2.out.size));have HF4:=hid (show Fr B g w w4 from .of (.of HBw.out) (by have:=zab HX.out.at_;have:=HX.out.lx;omega))
 have HFx:=hid (show Fx g X w w4 from .of (.of HBw.out))
 have y2:w4.cell? ⟨X,2,none⟩=some (.bool rest):=by rw[cell_of_row w4 X 2 _ _ _ HX4.out.at_];rfl
 have f2:w4.frozen? ⟨X,2,none⟩=false:=frozen_of_row w4 X 2 _ _ HX4.out.at_;have HR:=hid (fun(u1 u2:World) (e1:u1=w4.setCell ⟨X,2,none⟩ (.bool brk)) (e2:u2=u1.setCell ⟨X,3,none⟩ (.bool true))=>RrAt.rest HX4.out e1 e2)
 have m3:(w4.setCell ⟨X,2,none⟩ (.bool brk)).cell? ⟨X,3,none⟩=some (.bool false):=by rw[cell_of_row _ X 3 _ _ _ (heap_setCell_same w4 X 2 _ _ (.bool brk) HX4.out.at_)];rfl
 have m4:(w4.setCell ⟨X,2,none⟩ (.bool brk)).frozen? ⟨X,3,none⟩=false:=frozen_of_row _ X 3 _ _ (heap_setCell_same w4 X 2 _ _ (.bool brk) HX4.out.at_);have xl:X<w4.heap.size:=zab HX4.out.at_;clear x3 HX2 HB2 HB4 k2 k3 k4 k5 d1 e8 p0 p1 HX;go_wp2;go_ret;obtain⟨r1,r2,r3⟩:=HR.out _ _ rfl rfl;exact⟨rfl,HF4.out.trans r2,HFx.out.trans r3,_,_,_,_,r1⟩
end Pt
end
section
open Ev Go.RowKit
namespace Pt
theorem wdP2_run:runT wdEv 106 wdP2T wdNm wdP2=true:=by kernel_rfl
theorem wdP2_parse (g nc:Nat) (w:World) (hN:NmAt w g nc wdNm):Calls Tryz.prog 106 #[.string wdP2T,.slice (some ⟨g,0,none⟩) 20 nc] w (PsQ g nc wdNm w wdP2):=zao zat zah wdP2_run g nc w hN
theorem wdP5_run:runT wdEv 106 wdP5T wdNm wdP5=true:=by kernel_rfl
theorem wdP5_parse (g nc:Nat) (w:World) (hN:NmAt w g nc wdNm):Calls Tryz.prog 106 #[.string wdP5T,.slice (some ⟨g,0,none⟩) 20 nc] w (PsQ g nc wdNm w wdP5):=zao zat zah wdP5_run g nc w hN
theorem wdP16_run:runT wdEv 106 wdP16T wdNm wdP16=true:=by kernel_rfl
theorem wdP16_parse (g nc:Nat) (w:World) (hN:NmAt w g nc wdNm):Calls Tryz.prog 106 #[.string wdP16T,.slice (some ⟨g,0,none⟩) 20 nc] w (PsQ g nc wdNm w wdP16):=zao zat zah wdP16_run g nc w hN
theorem wdP21_run:runT wdEv 106 wdP21T wdNm wdP21=true:=by kernel_rfl
theorem wdP21_parse (g nc:Nat) (w:World) (hN:NmAt w g nc wdNm):Calls Tryz.prog 106 #[.string wdP21T,.slice (some ⟨g,0,none⟩) 20 nc] w (PsQ g nc wdNm w wdP21):=zao zat zah wdP21_run g nc w hN
theorem wdP29_run:runT wdEv 106 wdP29T wdNm wdP29=true:=by kernel_rfl
theorem wdP29_parse (g nc:Nat) (w:World) (hN:NmAt w g nc wdNm):Calls Tryz.prog 106 #[.string wdP29T,.slice (some ⟨g,0,none⟩) 20 nc] w (PsQ g nc wdNm w wdP29):=zao zat zah wdP29_run g nc w hN
end Pt
end
section
open Ev Go.RowKit
namespace Pt
theorem wdP0_run:runT wdEv 106 wdP0T wdNm wdP0=true:=by kernel_rfl
theorem wdP0_parse (g nc:Nat) (w:World) (hN:NmAt w g nc wdNm):Calls Tryz.prog 106 #[.string wdP0T,.slice (some ⟨g,0,none⟩) 20 nc] w (PsQ g nc wdNm w wdP0):=zao zat zah wdP0_run g nc w hN
theorem wdP3_run:runT wdEv 106 wdP3T wdNm wdP3=true:=by kernel_rfl
theorem zdp (g nc:Nat) (w:World) (hN:NmAt w g nc wdNm):Calls Tryz.prog 106 #[.string wdP3T,.slice (some ⟨g,0,none⟩) 20 nc] w (PsQ g nc wdNm w wdP3):=zao zat zah wdP3_run g nc w hN
theorem wdP8_run:runT wdEv 106 wdP8T wdNm wdP8=true:=by kernel_rfl
theorem zdo (g nc:Nat) (w:World) (hN:NmAt w g nc wdNm):Calls Tryz.prog 106 #[.string wdP8T,.slice (some ⟨g,0,none⟩) 20 nc] w (PsQ g nc wdNm w wdP8):=zao zat zah wdP8_run g nc w hN
theorem wdP13_run:runT wdEv 106 wdP13T wdNm wdP13=true:=by kernel_rfl
theorem wdP13_parse (g nc:Nat) (w:World) (hN:NmAt w g nc wdNm):Calls Tryz.prog 106 #[.string wdP13T,.slice (some ⟨g,0,none⟩) 20 nc] w (PsQ g nc wdNm w wdP13):=zao zat zah wdP13_run g nc w hN
theorem wdP17_run:runT wdEv 106 wdP17T wdNm wdP17=true:=by kernel_rfl
theorem zcJ (g nc:Nat) (w:World) (hN:NmAt w g nc wdNm):Calls Tryz.prog 106 #[.string wdP17T,.slice (some ⟨g,0,none⟩) 20 nc] w (PsQ g nc wdNm w wdP17):=zao zat zah wdP17_run g nc w hN
theorem wdP22_run:runT wdEv 106 wdP22T wdNm wdP22=true:=by kernel_rfl
theorem wdP22_parse (g nc:Nat) (w:World) (hN:NmAt w g nc wdNm):Calls Tryz.prog 106 #[.string wdP22T,.slice (some ⟨g,0,none⟩) 20 nc] w (PsQ g nc wdNm w wdP22):=zao zat zah wdP22_run g nc w hN
theorem wdP27_run:runT wdEv 106 wdP27T wdNm wdP27=true:=by kernel_rfl
theorem wdP27_parse (g nc:Nat) (w:World) (hN:NmAt w g nc wdNm):Calls Tryz.prog 106 #[.string wdP27T,.slice (some ⟨g,0,none⟩) 20 nc] w (PsQ g nc wdNm w wdP27):=zao zat zah wdP27_run g nc w hN
end Pt
end
section
open Ev Go.RowKit
namespace Pt
theorem wdP1_run:runT wdEv 106 wdP1T wdNm wdP1=true:=by kernel_rfl
theorem wdP1_parse (g nc:Nat) (w:World) (hN:NmAt w g nc wdNm):Calls Tryz.prog 106 #[.string wdP1T,.slice (some ⟨g,0,none⟩) 20 nc] w (PsQ g nc wdNm w wdP1):=zao zat zah wdP1_run g nc w hN
theorem wdP9_run:runT wdEv 106 wdP9T wdNm wdP9=true:=by kernel_rfl
theorem zdn (g nc:Nat) (w:World) (hN:NmAt w g nc wdNm):Calls Tryz.prog 106 #[.string wdP9T,.slice (some ⟨g,0,none⟩) 20 nc] w (PsQ g nc wdNm w wdP9):=zao zat zah wdP9_run g nc w hN
theorem wdP11_run:runT wdEv 106 wdP11T wdNm wdP11=true:=by kernel_rfl
theorem wdP11_parse (g nc:Nat) (w:World) (hN:NmAt w g nc wdNm):Calls Tryz.prog 106 #[.string wdP11T,.slice (some ⟨g,0,none⟩) 20 nc] w (PsQ g nc wdNm w wdP11):=zao zat zah wdP11_run g nc w hN
theorem wdP12_run:runT wdEv 106 wdP12T wdNm wdP12=true:=by kernel_rfl
theorem zet (g nc:Nat) (w:World) (hN:NmAt w g nc wdNm):Calls Tryz.prog 106 #[.string wdP12T,.slice (some ⟨g,0,none⟩) 20 nc] w (PsQ g nc wdNm w wdP12):=zao zat zah wdP12_run g nc w hN
theorem wdP18_run:runT wdEv 106 wdP18T wdNm wdP18=true:=by kernel_rfl
theorem zcI (g nc:Nat) (w:World) (hN:NmAt w g nc wdNm):Calls Tryz.prog 106 #[.string wdP18T,.slice (some ⟨g,0,none⟩) 20 nc] w (PsQ g nc wdNm w wdP18):=zao zat zah wdP18_run g nc w hN
theorem wdP20_run:runT wdEv 106 wdP20T wdNm wdP20=true:=by kernel_rfl
theorem wdP20_parse (g nc:Nat) (w:World) (hN:NmAt w g nc wdNm):Calls Tryz.prog 106 #[.string wdP20T,.slice (some ⟨g,0,none⟩) 20 nc] w (PsQ g nc wdNm w wdP20):=zao zat zah wdP20_run g nc w hN
end Pt
end
section
open Ev Go.RowKit
namespace Pt
theorem wdP4_run:runT wdEv 106 wdP4T wdNm wdP4=true:=by kernel_rfl
theorem wdP4_parse (g nc:Nat) (w:World) (hN:NmAt w g nc wdNm):Calls Tryz.prog 106 #[.string wdP4T,.slice (some ⟨g,0,none⟩) 20 nc] w (PsQ g nc wdNm w wdP4):=zao zat zah wdP4_run g nc w hN
theorem wdP7_run:runT wdEv 106 wdP7T wdNm wdP7=true:=by kernel_rfl
theorem wdP7_parse (g nc:Nat) (w:World) (hN:NmAt w g nc wdNm):Calls Tryz.prog 106 #[.string wdP7T,.slice (some ⟨g,0,none⟩) 20 nc] w (PsQ g nc wdNm w wdP7):=zao zat zah wdP7_run g nc w hN
theorem wdP19_run:runT wdEv 106 wdP19T wdNm wdP19=true:=by kernel_rfl
theorem wdP19_parse (g nc:Nat) (w:World) (hN:NmAt w g nc wdNm):Calls Tryz.prog 106 #[.string wdP19T,.slice (some ⟨g,0,none⟩) 20 nc] w (PsQ g nc wdNm w wdP19):=zao zat zah wdP19_run g nc w hN
theorem wdP23_run:runT wdEv 106 wdP23T wdNm wdP23=true:=by kernel_rfl
theorem wdP23_parse (g nc:Nat) (w:World) (hN:NmAt w g nc wdNm):Calls Tryz.prog 106 #[.string wdP23T,.slice (some ⟨g,0,none⟩) 20 nc] w (PsQ g nc wdNm w wdP23):=zao zat zah wdP23_run g nc w hN
theorem wdP26_run:runT wdEv 106 wdP26T wdNm wdP26=true:=by kernel_rfl
theorem wdP26_parse (g nc:Nat) (w:World) (hN:NmAt w g nc wdNm):Calls Tryz.prog 106 #[.string wdP26T,.slice (some ⟨g,0,none⟩) 20 nc] w (PsQ g nc wdNm w wdP26):=zao zat zah wdP26_run g nc w hN
theorem wdP28_run:runT wdEv 106 wdP28T wdNm wdP28=true:=by kernel_rfl
theorem zes (g nc:Nat) (w:World) (hN:NmAt w g nc wdNm):Calls Tryz.prog 106 #[.string wdP28T,.slice (some ⟨g,0,none⟩) 20 nc] w (PsQ g nc wdNm w wdP28):=zao zat zah wdP28_run g nc w hN
end Pt
end
section
open Ev Go.RowKit
namespace Pt
theorem wdP6_run:runT wdEv 106 wdP6T wdNm wdP6=true:=by kernel_rfl
theorem wdP6_parse (g nc:Nat) (w:World) (hN:NmAt w g nc wdNm):Calls Tryz.prog 106 #[.string wdP6T,.slice (some ⟨g,0,none⟩) 20 nc] w (PsQ g nc wdNm w wdP6):=zao zat zah wdP6_run g nc w hN
theorem wdP10_run:runT wdEv 106 wdP10T wdNm wdP10=true:=by kernel_rfl
theorem wdP10_parse (g nc:Nat) (w:World) (hN:NmAt w g nc wdNm):Calls Tryz.prog 106 #[.string wdP10T,.slice (some ⟨g,0,none⟩) 20 nc] w (PsQ g nc wdNm w wdP10):=zao zat zah wdP10_run g nc w hN
theorem wdP14_run:runT wdEv 106 wdP14T wdNm wdP14=true:=by kernel_rfl
theorem wdP14_parse (g nc:Nat) (w:World) (hN:NmAt w g nc wdNm):Calls Tryz.prog 106 #[.string wdP14T,.slice (some ⟨g,0,none⟩) 20 nc] w (PsQ g nc wdNm w wdP14):=zao zat zah wdP14_run g nc w hN
theorem wdP15_run:runT wdEv 106 wdP15T wdNm wdP15=true:=by kernel_rfl
theorem wdP15_parse (g nc:Nat) (w:World) (hN:NmAt w g nc wdNm):Calls Tryz.prog 106 #[.string wdP15T,.slice (some ⟨g,0,none⟩) 20 nc] w (PsQ g nc wdNm w wdP15):=zao zat zah wdP15_run g nc w hN
theorem wdP24_run:runT wdEv 106 wdP24T wdNm wdP24=true:=by kernel_rfl
theorem wdP24_parse (g nc:Nat) (w:World) (hN:NmAt w g nc wdNm):Calls Tryz.prog 106 #[.string wdP24T,.slice (some ⟨g,0,none⟩) 20 nc] w (PsQ g nc wdNm w wdP24):=zao zat zah wdP24_run g nc w hN
theorem wdP25_run:runT wdEv 106 wdP25T wdNm wdP25=true:=by kernel_rfl
theorem wdP25_parse (g nc:Nat) (w:World) (hN:NmAt w g nc wdNm):Calls Tryz.prog 106 #[.string wdP25T,.slice (some ⟨g,0,none⟩) 20 nc] w (PsQ g nc wdNm w wdP25):=zao zat zah wdP25_run g nc w hN
end Pt
end
end Go.Proofs.YtokpjifnlifafaaGreatDoor
