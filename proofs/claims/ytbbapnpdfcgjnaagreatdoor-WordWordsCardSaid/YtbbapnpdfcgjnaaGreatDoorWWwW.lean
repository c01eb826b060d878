/- WwW: parts of the proof, joined. -/
import Derived.Laws.EntriesVeiled
import Derived.Test.YtbbapnpdfcgjnaaGreatDoorWStCls
import Derived.Test.YtbbapnpdfcgjnaaGreatDoorWPwKit
open Go renaming callsIn_wide->sD, World->sL
open Go.RowKit.Below renaming refl->sE
open Go.RowKit renaming Below->sG
open Go.KeepsFrom renaming of_grownBy->sH, refl->sM
open Nat renaming le_refl->sI
open Go.World renaming size_alloc->sJ
open And renaming intro->sK
open List renaming mem_singleton->sN, getElem?_map->sO
set_option maxHeartbeats 64000000
namespace Go.Proofs.YtbbapnpdfcgjnaaGreatDoor
namespace Wd
open Go.RowKit Go.Shelf
open Wt
open _root_.Go.Proofs.YtbbapnpdfcgjnaaGreatDoor.Pw (gP zpM zih)
open Sg (Pl)
attribute [local go_sem] Oper.semAt_some
theorem zsT(w:sL)(B:Nat):(binOp BinOp.eql 41 (Value.func (.func 53) #[] #[.pointer (some ⟨B,0,none⟩)]) Value.nilFunc).run Tryz.prog w=Result.ok (Value.bool false) w:=by kernel_rfl
attribute [local go_sem] zsT
theorem zuQ{V U:sL}{B k:Nat}{v:Value}(h2:2<=V.heap.size)(hb:Pw.Cb V B #[.int .i64 (k:Nat)] 3)(hB:2<=B)(hU:sG V.heap.size V U):Kt V (U.setCell ⟨B,0,none⟩ v):=
 zhG (Kt.below hU h2) (Kt.set (v0:=.int .i64 (k:Nat)) (hb.below hU) hB v)
theorem j4{fn:Func}(h:fn.results=#[.cell 6 4])(tmps:Array Value)(w:sL)(g:Nat)(v:Value)(hp:tmps[6]?.getD undef=.pointer (some ⟨g,0,none⟩))(hg:Pw.Cb w g #[v] 4):(results fn tmps).run Tryz.prog w=.ok v w:=by have c:=hg.one;simp only[results,h];go_simp
structure Lww(N EB b7 b8 m vc:Nat)(vo:Option Addr)(Q:List (Nat×Nat))(l:List UInt8)(st:Int)(V:sL):Prop where
 str:Pw.Cb V N #[.string ⟨l.toArray⟩] 9
 stop:Pw.Cb V (N+1) #[.int .i64 st] 3
 res:Pw.Cb V (N+2) #[.bool false] 4
 row:Pw.Cb V b7 #[.slice vo m vc] 38
 fn:Pw.Cb V b8 #[.func (.func 53) #[] #[.pointer (some ⟨EB,0,none⟩)]] 41
 e:eR EB l V
 tb:Ev.q9 tabs V
 rd:zhE V vo l Q
theorem Lww.below{N EB b7 b8 m vc:Nat}{vo:Option Addr}{Q:List (Nat×Nat)}{l:List UInt8}{st:Int}{V V':sL}(h:Lww N EB b7 b8 m vc vo Q l st V)(hb:sG V.heap.size V V'):Lww N EB b7 b8 m vc vo Q l st V':=
 ⟨h.str.below hb,h.stop.below hb,h.res.below hb,h.row.below hb,h.fn.below hb,h.e.below hb,de h.tb hb,h.rd.below hb⟩
set_option maxRecDepth 100000 in
theorem zvy(l:List UInt8)(z st:Int)(w:sL)(ht:na w)(hv:Ev.q9 tabs w):
  CallsIn Fence.wide 20 Tryz.prog 6 #[.string ⟨l.toArray⟩,.int .i64 z,.int .i64 st] w fun e w'=>e=.returned (.bool true)/\sG w.heap.size w w':=by
 have HT:=aa ht;have HV:=aa hv;have HL0:=aa (fun(W:sL)(hb:sG w.heap.size w W)=>zqY W (de hv hb));clear ht hv;refine callsIn_of_wp_marks Tryz.func6 rfl trivial ?_ rfl;simp only[Tryz.ntmps6,List.size_toArray,List.length_cons,List.length_nil,Nat.reduceAdd,Nat.reduceSub,Array.replicate_succ,Array.replicate_zero,List.push_toArray,List.append_toArray,List.nil_append,List.cons_append];obtain⟨W2,hW2⟩:=aj (((w.alloc (.cells #[.string ⟨l.toArray⟩] 9)).alloc (.cells #[.int .i64 st] 3)).alloc (.cells #[.bool false] 4));have hB2:sG w.heap.size w W2:=by rw[hW2];exact(((sE _ _).alloc (sI _) _).alloc (by simp) _).alloc (by simp;omega) _
 have hs2:W2.heap.size=w.heap.size+3:=by rw[hW2];simp
 have aS:Pw.Cb W2 w.heap.size #[.string ⟨l.toArray⟩] 9:=by rw[hW2];exact((Pw.Cb.new w _ _).alloc _).alloc _
 have a3:Pw.Cb W2 (w.heap.size+1) #[.int .i64 st] 3:=by have:=Pw.Cb.new (w.alloc (.cells #[.string ⟨l.toArray⟩] 9)) #[.int .i64 st] 3;rw[sJ]at this;rw[hW2];exact this.alloc _
 have a4:Pw.Cb W2 (w.heap.size+2) #[.bool false] 4:=by have:=Pw.Cb.new ((w.alloc (.cells #[.string ⟨l.toArray⟩] 9)).alloc (.cells #[.int .i64 st] 3)) #[.bool false] 4;rw[sJ,sJ]at this;rw[hW2];exact this
 have cS:=aS.one;have c4:=a4.one;have z4:=a4.frozen 0;rw[hW2]at cS c4 z4;by_cases hl:(70:Int)<(l.length:Int)
 ·gi_wp2_with fail;rw[<-hW2];refine⟨trivial,(sD.2 (HL0.o W2 hB2)).mono ?_⟩;rintro e w5 ⟨rfl,be⟩;have b4:=a4.below be;have HB5:=aa (hB2.trans (be.mono hB2.size));have c5:=b4.one;have z5:=b4.frozen 0;have HR:ae (Pw.Cb (w5.setCell ⟨w.heap.size+2,0,none⟩ (.bool true)) (w.heap.size+2) #[.bool true] 4):=aa (b4.set 0 _);have HBR:ae (sG w.heap.size w (w5.setCell ⟨w.heap.size+2,0,none⟩ (.bool true))):=aa (HB5.o.setCell (by show w.heap.size<=w.heap.size+2;omega) _);clear be hB2 hW2 cS c4 z4 aS a3 a4 b4;gi_wp2;exact⟨_,j4 rfl _ _ _ _ rfl HR.o,rfl,HBR.o⟩
 have hl2:l.length<=70:=by omega
 gi_wp2_with fail;rw[<-hW2];refine⟨trivial,(sD.2 (kr l (by omega) W2)).mono ?_⟩;rintro e w3 ⟨vo,vc,rfl,hr3,hb3⟩;obtain⟨L,hL,hTQ,hTl⟩:=zlA l hl2;have hTL:=congrArg List.length hTQ;rw[List.length_map]at hTL;obtain⟨Q,hQ⟩:=aj (ot l);rw[show(jD l).filter (fP l)=Q from hQ.symm]at hr3⊢;rw[<-hQ]at hTQ hTL;obtain⟨T,hT⟩:=aj (L.flatMap jE);rw[<-hT]at hTQ hTL hTl;obtain⟨m,hm⟩:=aj Q.length;rw[<-hm]at hTL⊢;have hm9:m<=70:=by omega
 have HLm:=aa hL;have HTe:=aa hT;have HTQ:=aa hTQ;have HTL:=aa hTL;have HTl:=aa hTl;have HM:=aa hm;have hB3:=hB2.trans (hb3.mono hB2.size);have d0:=aS.below hb3;have d1:=a3.below hb3;have d2:=a4.below hb3;have hs3:w.heap.size+3<=w3.heap.size:=by have:=hb3.size;omega
 clear hL hTQ hTL hTl hm hT hQ cS c4 z4 aS a3 a4 hW2;obtain⟨w4,hw4⟩:=aj (w3.alloc (.cells #[.slice vo m vc] 38));have hbe4:sG w3.heap.size w3 w4:=by rw[hw4];exact(sE _ _).alloc (sI _) _
 have r7:Pw.Cb w4 w3.heap.size #[.slice vo m vc] 38:=by rw[hw4];exact Pw.Cb.new _ _ _
 have hs4:w4.heap.size=w3.heap.size+1:=by rw[hw4];simp
 have e0:=d0.below hbe4;have cS:=e0.one;rw[hw4]at cS;gi_wp2_with fail;rw[<-hw4];refine⟨trivial,(sD.2 (zcT l w4)).mono ?_⟩;rintro e w5 ⟨rfl,hw5⟩;have hbe5:sG w4.heap.size w4 w5:=by rw[hw5];exact(sE _ _).alloc (sI _) _
 have rE:Boxed w5 (w3.heap.size+1) 9 (.string ⟨l.toArray⟩):=by rw[hw5,<-hs4];exact Boxed.new _ _ _
 have hs5:w5.heap.size=w3.heap.size+1+1:=by rw[hw5];simp;omega
 rw[hs4];obtain⟨w6,hw6⟩:=aj (w5.alloc (.cells #[.func (.func 53) #[] #[.pointer (some ⟨w3.heap.size+1,0,none⟩)]] 41));have hbe6:sG w5.heap.size w5 w6:=by rw[hw6];exact(sE _ _).alloc (sI _) _
 have r8:Pw.Cb w6 (w3.heap.size+1+1) #[.func (.func 53) #[] #[.pointer (some ⟨w3.heap.size+1,0,none⟩)]] 41:=by rw[hw6,<-hs5];exact Pw.Cb.new _ _ _
 have hs6:w6.heap.size=w3.heap.size+3:=by rw[hw6];simp;omega
 have hb46:sG w4.heap.size w4 w6:=hbe5.trans (hbe6.mono hbe5.size);have hb36:sG w3.heap.size w3 w6:=hbe4.trans (hb46.mono hbe4.size);have hB6:=hB3.trans (hb36.mono hB3.size);have HLW:ae (Lww w.heap.size (w3.heap.size+1) w3.heap.size (w3.heap.size+1+1) m vc vo Q l st w6):=aa ⟨d0.below hb36,d1.below hb36,d2.below hb36,r7.below hb46,r8,⟨(hbe6.block _ (by omega)).trans rE,HT.o.below hB6⟩,de HV.o hB6,hr3.below hb36⟩;have HB6:=aa hB6;have c1:=r8.one;have y0:w6.cell? ⟨w.heap.size,0,none⟩=some (.string ⟨l.toArray⟩):=HLW.o.str.one;have y7:w6.cell? ⟨w3.heap.size,0,none⟩=some (.slice vo m vc):=HLW.o.row.one;have HW6:=aa hw6;have HS5:=aa hs5;have HS:ae (w.heap.size+3<=w3.heap.size/\w6.heap.size=w3.heap.size+3):=aa ⟨hs3,hs6⟩;clear hr3 hb3 hB3 d0 d1 d2 e0 cS hw4 hbe4 r7 hs4 hw5 hbe5 rE hs5 hw6 hbe6 r8 hs6 hb46 hb36 hB6 hs3 hs2 hB2;gi_wp2_with fail;rw[<-HW6.o,HS5.o];clear HW6 HS5;have HCn:=aa (fun(W:sL)(h:sG w6.heap.size w6 W)=>zqk l L HLm.o (by rw[<-HTe.o];exact HTl.o) W (HLW.o.below h).e.tb (HLW.o.below h).tb (by omega));rw[<-HTe.o,HTL.o]at HCn;refine mi _ [(0,true),(1,true),(2,true),(3,true),(5,true),(6,true),(4,false),(7,true),(8,true)] (fun w'=>w'.cell? ⟨w3.heap.size+1+1,0,none⟩=some (.func (.func 53) #[] #[.pointer (some ⟨w3.heap.size+1,0,none⟩)])/\w'.cell? ⟨w.heap.size,0,none⟩=some (.string ⟨l.toArray⟩)/\w'.cell? ⟨w3.heap.size,0,none⟩=some (.slice vo m vc)) (fun _=>false) (by kernel_rfl) (by kernel_rfl) (by kernel_rfl) (fun j hj=>by cases hj) rfl (by kernel_rfl) ⟨c1,y0,y7⟩ ?_
 iterate 6 (refine aF ?_ rfl (by kernel_rfl) (fun w' hS=>?_) ?_;(rotate_left;(obtain⟨y8,y9,y10⟩:=hS;go_simp;with_reducible rfl);rotate_left))
 refine au rfl (by kernel_rfl) fun KK hKK=>?_;go_simp;refine(HCn.o _ (bdr _)).mono ?_;rintro e w8 ⟨rfl,be⟩;have HB8:=aa ((bdr w6).trans be);have HLW8:=aa (HLW.o.below HB8.o);have hKS:w8.cell? ⟨w3.heap.size+1+1,0,none⟩=some (.func (.func 53) #[] #[.pointer (some ⟨w3.heap.size+1,0,none⟩)])/\w8.cell? ⟨w.heap.size,0,none⟩=some (.string ⟨l.toArray⟩)/\w8.cell? ⟨w3.heap.size,0,none⟩=some (.slice vo m vc):=⟨HLW8.o.fn.one,HLW8.o.str.one,HLW8.o.row.one⟩;refine hKK _ _ (fun _=>hKS) ?_;clear hKK KK be c1 y0 y7 HCn
 iterate 2 (refine aF ?_ rfl (by kernel_rfl) (fun w' hS=>?_) ?_;(rotate_left;(obtain⟨y8,y9,y10⟩:=hS;go_simp;with_reducible rfl);rotate_left))
 refine ba (g9.in ?_);go_simp;obtain⟨c1,y0,y7⟩:=hKS;have HB68:=aa (HB6.o.trans (HB8.o.mono HB6.o.size));have hs8:w3.heap.size+3<=w8.heap.size:=by have:=HB8.o.size;have:=HS.o;omega
 obtain⟨w9,hw9⟩:=aj (w8.alloc (.cells #[.int .i64 0] 3));have hbe9:sG w8.heap.size w8 w9:=by rw[hw9];exact(sE _ _).alloc (sI _) _
 have r9:Pw.Cb w9 w8.heap.size #[.int .i64 0] 3:=by rw[hw9];exact Pw.Cb.new _ _ _
 have hs9:w9.heap.size=w8.heap.size+1:=by rw[hw9];simp
 have HLW9:=aa (HLW8.o.below hbe9);have c19:=HLW9.o.fn.one;rw[hw9]at c19;have H9:=aa r9;have HBE9:=aa hbe9;obtain⟨N,hN⟩:=aj w.heap.size;obtain⟨N1,hN1⟩:=aj (w.heap.size+1);obtain⟨N2,hN2⟩:=aj (w.heap.size+1+1);obtain⟨b7,hb7⟩:=aj w3.heap.size;obtain⟨EB,hEB⟩:=aj (w3.heap.size+1);obtain⟨b8,hb8⟩:=aj (w3.heap.size+1+1);obtain⟨b9,hb9⟩:=aj w8.heap.size;have HS:ae (N=w.heap.size/\N1=N+1/\N2=N+2/\N+3<=b7/\EB=b7+1/\b8=b7+2/\b8<b9/\w8.heap.size=b9/\w9.heap.size=b9+1):=aa (by have:=HS.o;refine⟨hN,?_,?_,?_,?_,?_,?_,?_,?_⟩<;>omega);have HNN:=aa (sK hN1 (sK hN2 (sK hb7 (sK hEB (sK hb8 hb9)))));rw[<-hb8,<-hEB,<-hb7,<-hN]at HLW8 HLW9;rw[<-hb9]at H9;have HEN:=aa hN;have HW9:=aa hw9;clear hs8 hbe9 r9 hs9 hw9 hN hN1 hN2 hb7 hEB hb8 hb9 HLW HB6 HB8 c1 y0 y7;gi_wp2_with fail;rw[<-HW9.o];rw[<-HNN.o.2.2.2.2.2,<-HNN.o.2.2.2.2.1,<-HNN.o.2.2.2.1,<-HNN.o.2.2.1,<-HNN.o.2.1,<-HNN.o.1];clear c19 HW9;refine zgx rfl (by omega) rfl trivial (enters_of Tryz.func53 (by kernel_rfl) rfl) (zaW 19 EB l L w9 (by omega) HLm.o HLW9.o.e HLW9.o.tb (by omega)) zhG (zsb HLW9.o.e.tb.two) (sE _ _) (fun _=>rfl)
  (fun pre V=>sG w8.heap.size w8 V/\Pw.Cb V b9 #[.int .i64 (pre.length:Nat)] 3)
  (fun _ _ _=>False) ?own ?ownx ⟨HBE9.o,H9.o⟩
  (fun x a' _=>a'={tmps:=#[.string ⟨l.toArray⟩,.int .i64 z,.int .i64 st,.pointer (some ⟨w.heap.size,0,none⟩),undef,.pointer (some ⟨N1,0,none⟩),.pointer (some ⟨N2,0,none⟩),.pointer (some ⟨b7,0,none⟩),.pointer (some ⟨b8,0,none⟩),.pointer (some ⟨b9,0,none⟩),.int .i64 (x.v.1:Nat),.string ⟨(lq l x.v).toArray⟩,undef,undef,undef,undef,undef,undef,undef,undef,undef,undef,undef,undef,undef,.string ⟨l.toArray⟩,.int .i64 (l.length:Nat),.bool false,undef,.string ⟨l.toArray⟩,.slice vo m vc,.string ⟨l.toArray⟩,.func (.func 53) #[] #[.pointer (some ⟨EB,0,none⟩)],.func (.func 53) #[] #[.pointer (some ⟨EB,0,none⟩)],.bool false,.bool false,.string ⟨l.toArray⟩,.int .i64 (m:Nat),.slice vo m vc,.int .i64 (m:Nat),.bool false,.bool false,.func (.func 53) #[] #[.pointer (some ⟨EB,0,none⟩)],.int .i64 (x.v.1:Nat),.string ⟨(lq l x.v).toArray⟩,undef,undef,undef,undef,undef,undef,undef,undef,undef,undef,undef,undef,undef,undef,undef,undef,undef,undef,undef,undef,undef,undef,undef,undef,undef,undef,undef,undef,undef,undef,undef,undef,undef,undef,undef,undef,undef,undef,undef,undef,undef,undef,undef,undef,undef,undef,undef,undef,undef,undef,undef,undef,undef,undef,undef,undef,undef,undef,undef,undef,undef,undef,undef,undef,undef,undef,undef,undef,undef,undef,undef,undef,undef,undef,undef,undef,undef,undef,undef,undef,undef,undef,undef,undef,undef,undef,undef,undef,undef,undef,undef,undef,undef,undef,undef,undef,undef,undef,undef,undef,undef,undef,undef,undef,undef,undef,undef,undef],defers:=[]})
  (fun _ _ _ _ _ _ h _ _=>h) ?assign ?body ?done ?stop
 case own=>rintro pre P C row ⟨k0,k1⟩ hg hr;have hq:=HS.o;exact⟨k0.grown hg k0.size (fun k hk=>by have:=(hr k hk).1;omega),k1.kept hg (fun e=>by have:=(hr _ e.symm).1;omega)⟩
 case ownx=>exact fun _ _ _ _ _ h _ _=>h
 case assign=>intro lp pre x V K hI hK;dsimp only[zoT];gi_wp2;exact hK _ _ (sM _ _) (Kt.refl _) hI rfl
 case body=>
  rintro lp pre x a' V hlp hrec ⟨kb,k9⟩ rfl hsp;rw[<-HTe.o]at hsp;obtain⟨Rx,hRx⟩:=hsp;have hTk:T[pre.length]?=some x:=by rw[<-hRx];simp
  have HX0:=aa (fun(h:pre.length=0)=>show T.head? =some x by rw[List.length_eq_zero_iff.1 h]at hRx;rw[<-hRx];rfl);obtain⟨k,hk⟩:=aj pre.length;have HPL:ae ((pre++[x]).length=k+1):=aa (by rw[hk];simp);rw[<-hk]at hTk k9 HX0;have hQk:Q[k]?=some x.v:=by rw[<-HTQ.o,sO,hTk];rfl
  have hkm:k<m:=by have:=(List.getElem?_eq_some_iff.1 hQk).1;have:=HM.o;omega
  clear hk hRx;have HLV:=aa (HLW8.o.below kb);obtain⟨g,hvo,_,cf,ct,_⟩:=HLV.o.rd k x.v hQk;subst hvo;have hex:=zhf l x.v.1 x.v.2;obtain⟨f,hf⟩:=aj x.v.1;obtain⟨tt,htt⟩:=aj x.v.2;have hft:=x.lt;have htl:=x.le;have htx:(⟨(lq l x.v).toArray⟩:ByteArray)=⟨(lq l (x.v.1,x.v.2)).toArray⟩:=rfl;rw[<-hf,<-htt]at hex hft htx;rw[<-hf]at cf;rw[<-htt]at ct htl;rw[<-hf,htx];obtain⟨tx,htx2⟩:∃tx:ByteArray,tx=⟨(lq l (f,tt)).toArray⟩:=⟨_,rfl⟩;rw[<-htx2]at hex⊢;have c7:V.cell? ⟨b7,0,none⟩=some (.slice (some ⟨g,0,none⟩) m vc):=HLV.o.row.one;have c9:V.cell? ⟨b9,0,none⟩=some (.int .i64 (k:Nat)):=k9.one;have z9:=k9.frozen 0;have c0:V.cell? ⟨w.heap.size,0,none⟩=some (.string ⟨l.toArray⟩):=by rw[<-HEN.o];exact HLV.o.str.one
  have c5:V.cell? ⟨N1,0,none⟩=some (.int .i64 st):=by rw[HS.o.2.1];exact HLV.o.stop.one
  have c8:=HLV.o.fn.one;have hkmi:¬(m:Int)<=(k:Int):=by omega
  have hkd:decide (m<=k)=false:=decide_eq_false (by omega);have hk0:(0:Int)<=(k:Int):=by omega
  have hkl:(k:Int)<(m:Int):=by omega
  have hm0:(0:Int)<(m:Int):=by omega
  have xf:((f:Int) != (f:Int))=false:=bne_eq_false_iff_eq.2 rfl;have h0f:(0:Int)<=(f:Int):=by omega
  have hfti:(f:Int)<=(tt:Int):=by omega
  have httl:(tt:Int)<=(l.length:Int):=by omega
  obtain⟨k1,hk1⟩:=aj (k+1);rw[<-hk1]at HPL;have hkw:(k:Int)+1=(k1:Int):=by omega
  have hkwr:IntKind.i64.wrap (k1:Int)=(k1:Int):=by rw[IntKind.wrap_i64];omega
  clear hk1;have HKB:=aa kb;have HK9:=aa k9;clear hf htt htx htx2 hTk hQk hkm kb k9 hft htl;obtain⟨r0,hr0⟩:=hrec;gi_wp2_with fail;refine nV lp _ [(0,true),(1,true),(2,true),(3,true),(4,true),(5,true),(6,true),(7,true),(8,true),(9,true),(10,true),(11,true),(12,true),(13,true),(14,true),(15,true),(16,true),(17,true),(18,true),(19,true),(20,true),(21,true),(22,true),(23,true),(24,true),(25,true),(26,true),(27,true),(28,true)] (fun w'=>w'.cell? ⟨b9,0,none⟩=some (.int .i64 (k:Nat))/\w'.cell? ⟨b7,0,none⟩=some (.slice (some ⟨g,0,none⟩) m vc)/\w'.cell? ⟨w.heap.size,0,none⟩=some (.string ⟨l.toArray⟩)/\w'.cell? ⟨g,k*3,none⟩=some (.int .i64 (f:Nat))/\w'.cell? ⟨g,k*3+1,none⟩=some (.int .i64 (tt:Nat))) (fun _=>false) (by kernel_rfl) (by kernel_rfl) (by kernel_rfl) (fun j hj=>by cases hj) rfl (by kernel_rfl) ⟨c9,c7,c0,cf,ct⟩ ?_
  iterate 27 (refine aF ?_ rfl (by kernel_rfl) (fun w' hS=>?_) ?_;(rotate_left;(obtain⟨y1,y2,y3,y4,y5⟩:=hS;go_simp;(try simp only[hkd]);with_reducible rfl);rotate_left))
  iterate 2 (refine aF ?_ rfl (by kernel_rfl) (fun w' hS=>?_) ?_;(rotate_left;(obtain⟨y1,y2,y3,y4,y5⟩:=hS;go_simp;(try simp only[hkd]);with_reducible rfl);rotate_left))
  refine ba (g9.in ?_);go_simp;clear c9 z9 c7 c0 c5 c8 cf ct;obtain⟨V1,hV1⟩:=aj V.drew;have hVb:sG V.heap.size V V1:=by rw[hV1];exact bdr V
  have hr0:V1.heap[lp]?=some (.loop r0):=by rw[hV1];exact hr0
  have hV0:V1.heap=V.heap:=by rw[hV1];rfl
  rw[<-hV1];have HVk:ae (KeepsFrom w9.heap.size V V1):=aa (sH (mn hVb) (fun r e=>by cases e));have HVt:ae (Kt V V1):=aa (Kt.below hVb HLV.o.e.tb.two);have HLU:=aa (HLV.o.below hVb);have HKB:=aa (HKB.o.trans (hVb.mono HKB.o.size));have HK9:=aa (HK9.o.below hVb);clear hV1 hVb hV0;have c9:V1.cell? ⟨b9,0,none⟩=some (.int .i64 (k:Nat)):=HK9.o.one;have z9:=HK9.o.frozen 0;have c5:V1.cell? ⟨N1,0,none⟩=some (.int .i64 st):=by rw[HS.o.2.1];exact HLU.o.stop.one
  have c8:=HLU.o.fn.one;have HFin:ae (∀U,sG V1.heap.size V1 U->KeepsFrom w9.heap.size V (U.setCell ⟨b9,0,none⟩ (.int .i64 (k1:Int)))/\Kt V (U.setCell ⟨b9,0,none⟩ (.int .i64 (k1:Int)))/\sG w8.heap.size w8 (U.setCell ⟨b9,0,none⟩ (.int .i64 (k1:Int)))/\Pw.Cb (U.setCell ⟨b9,0,none⟩ (.int .i64 (k1:Int))) b9 #[.int .i64 ((pre++[x]).length:Nat)] 3):=aa (fun U hU=>by have hS9:=HS.o;have h2:=HLU.o.e.tb.two;have h20:=HLW8.o.e.tb.two;refine⟨HVk.o.trans ((sH (mn hU) (fun r e=>by cases e)).trans (sH (grownBy_setCell' _ _ _) (fun r e=>by cases e;show b9<w9.heap.size;omega))),zhG HVt.o (zuQ h2 HK9.o (by omega) hU),(HKB.o.trans (hU.mono HKB.o.size)).setCell (by show w8.heap.size<=b9;omega) _,?_⟩;rw[HPL.o];exact(HK9.o.below hU).set 0 _);by_cases hst:st=(k:Int)
  ·subst hst;have HR0:=aa hr0;clear hr0;gi_wp2_with fail;clear c9 z9 c5 c8;refine zkD rfl HR0.o (by omega) rfl trivial (enters_of Tryz.func53 (by kernel_rfl) rfl) (zih (zaW 17 EB l L V1 (by omega) HLm.o HLU.o.e HLU.o.tb (by omega))) zhG (zsb HLU.o.e.tb.two) (sE _ _) (fun _=>rfl)
    (fun pre2 U=>pre2=[]/\sG V1.heap.size V1 U)
    (fun c _ U=>c=.exit 2/\sG V1.heap.size V1 U) ?own2 ?ownx2 ⟨rfl,sE _ _⟩
    (fun(x2:Wq l) a2 _=>a2={tmps:=#[.string ⟨l.toArray⟩,.int .i64 z,.int .i64 (k:Nat),.pointer (some ⟨w.heap.size,0,none⟩),undef,.pointer (some ⟨N1,0,none⟩),.pointer (some ⟨N2,0,none⟩),.pointer (some ⟨b7,0,none⟩),.pointer (some ⟨b8,0,none⟩),.pointer (some ⟨b9,0,none⟩),.int .i64 (f:Nat),.string tx,.int .i64 (x2.v.1:Nat),undef,undef,undef,undef,undef,undef,undef,undef,undef,undef,undef,undef,.string ⟨l.toArray⟩,.int .i64 (l.length:Nat),.bool false,undef,.string ⟨l.toArray⟩,.slice (some ⟨g,0,none⟩) m vc,.string ⟨l.toArray⟩,.func (.func 53) #[] #[.pointer (some ⟨EB,0,none⟩)],.func (.func 53) #[] #[.pointer (some ⟨EB,0,none⟩)],.bool false,.bool false,.string ⟨l.toArray⟩,.int .i64 (m:Nat),.slice (some ⟨g,0,none⟩) m vc,.int .i64 (m:Nat),.bool false,.bool false,.func (.func 53) #[] #[.pointer (some ⟨EB,0,none⟩)],.int .i64 (f:Nat),.string tx,.int .i64 (k:Nat),.slice (some ⟨g,0,none⟩) m vc,.int .i64 (m:Nat),.bool false,.bool false,.int .i64 (f:Nat),.slice (some ⟨g,0,none⟩) m vc,.int .i64 (k:Nat),.pointer (some ⟨g,k*3,none⟩),.pointer (some ⟨g,k*3,none⟩),.int .i64 (f:Nat),.bool false,.bool false,.bool false,.string tx,.string ⟨l.toArray⟩,.slice (some ⟨g,0,none⟩) m vc,.int .i64 (k:Nat),.pointer (some ⟨g,k*3,none⟩),.pointer (some ⟨g,k*3,none⟩),.int .i64 (f:Nat),.slice (some ⟨g,0,none⟩) m vc,.int .i64 (k:Nat),.pointer (some ⟨g,k*3,none⟩),.pointer (some ⟨g,k*3+1,none⟩),.int .i64 (tt:Nat),.string tx,.bool false,.bool false,.int .i64 (k:Nat),.int .i64 (k:Nat),.bool true,.func (.func 53) #[] #[.pointer (some ⟨EB,0,none⟩)],.int .i64 (x2.v.1:Nat),.string ⟨(lq l x2.v).toArray⟩,undef,undef,undef,undef,undef,undef,undef,undef,undef,undef,undef,undef,undef,undef,undef,undef,undef,undef,undef,undef,undef,undef,undef,undef,undef,undef,undef,undef,undef,undef,undef,undef,undef,undef,undef,undef,undef,undef,undef,undef,undef,undef,undef,undef,undef,undef,undef,undef,undef,undef,undef,undef,undef,undef,undef,undef,undef,undef,undef,undef,undef,undef,undef,undef,undef,undef,undef,undef,undef,undef,undef,undef,undef],defers:=[]})
    (fun _ _ _ _ _ _ h _ _=>h) ?assign2 ?body2 ?done2 ?stop2
   case own2=>rintro pre2 P C row ⟨h0,k0⟩ hg hr;exact⟨h0,k0.grown hg k0.size (fun k hk=>(hr k hk).1)⟩
   case ownx2=>rintro c pre2 P C row ⟨h0,k0⟩ hg hr;exact⟨h0,k0.grown hg k0.size (fun k hk=>(hr k hk).1)⟩
   case assign2=>intro lp2 pre2 x2 U K hI hK;dsimp only[zoT];gi_wp2;exact hK _ _ (sM _ _) (Kt.refl _) hI rfl
   case body2=>
    rintro lp2 pre2 x2 a2 U hlp2 _ ⟨rfl,ub⟩ rfl hsp2;rw[<-HTe.o]at hsp2;obtain⟨Ry,hRy⟩:=hsp2;have hT0:T[0]?=some x2:=by rw[<-hRy];rfl
    have hQz:Q[0]?=some x2.v:=by rw[<-HTQ.o,sO,hT0];rfl
    have HLq:=aa (HLU.o.below ub);obtain⟨g2,hg2,_,cf2,_,_⟩:=HLq.o.rd 0 x2.v hQz;cases hg2;rw[Nat.zero_mul]at cf2;obtain⟨f2,hf2⟩:=aj x2.v.1;rw[<-hf2]at cf2⊢;have c7q:U.cell? ⟨b7,0,none⟩=some (.slice (some ⟨g,0,none⟩) m vc):=HLq.o.row.one;have xf2:((f2:Int) != (f2:Int))=false:=bne_eq_false_iff_eq.2 rfl;have HUb:=aa ub;clear hRy hT0 hQz hf2 ub;gi_wp2;exact⟨sM _ _,rfl,HUb.o⟩
   case done2=>rintro xs U iJ ⟨h,_⟩;rw[<-HTe.o]at iJ;have h1:=HTL.o;rw[<-iJ,h]at h1;exact absurd h1 (by simp;omega)
   case stop2=>rintro c pre2 U _ ⟨rfl,ub⟩;have h9:=HK9.o.below ub;have c9q:U.cell? ⟨b9,0,none⟩=some (.int .i64 (k:Nat)):=h9.one;have z9q:=h9.frozen 0;have HUb:=aa ub;clear ub h9;gi_wp2;exact HFin.o U HUb.o
  ·have hst2:¬(k:Int)=st:=fun e=>hst e.symm;gi_wp2;exact HFin.o V1 (sE _ _)
 case done=>
  rintro Dd xs V hDd iJ ⟨kb,k9⟩ hK;rw[iJ,<-HTe.o,HTL.o]at k9;have HLV:=aa (HLW8.o.below kb);have HBV:=aa (HB68.o.trans (kb.mono HB68.o.size));have hDl:=(Array.getElem?_eq_some_iff.1 hK).1;have HDd:=aa (sK hDd hDl);have HKd:=aa hK;have HK9:=aa k9;have HAf:=aa (fun(W:sL)(h:sG V.heap.size V W)=>zgg l z W (HLV.o.below h).e.tb (by omega));have HRA:=aa (fun(W:sL)=>zgy l z (by omega) W);have HBf:=aa (fun(W:sL)(h:sG V.heap.size V W)=>zdx l z W (HLV.o.below h).e.tb (by omega));have HRB:=aa (fun(W:sL)=>zem l z (by omega) W);obtain⟨a1,a2,a3,ha⟩:=zmB (q8 z (ot l));obtain⟨d1,d2,d3,hd⟩:=zmB (bef z (ot l));rw[ha]at HAf HRA;rw[hd]at HBf HRB;have ea1:((a1:Int)==(a1:Int))=true:=by simp
  have ea2:((a2:Int)==(a2:Int))=true:=by simp
  have ea3:(a3==a3)=true:=by simp
  have ed1:((d1:Int)==(d1:Int))=true:=by simp
  have ed2:((d2:Int)==(d2:Int))=true:=by simp
  have ed3:(d3==d3)=true:=by simp
  have em:((m:Int)==(m:Int))=true:=by simp
  clear kb k9 hDd hDl hK ha hd;have c0:V.cell? ⟨w.heap.size,0,none⟩=some (.string ⟨l.toArray⟩):=by rw[<-HEN.o];exact HLV.o.str.one
  gi_wp2_with fail;refine⟨trivial,(sD.2 (HAf.o V (sE _ _))).mono ?_⟩;rintro e v1 ⟨rfl,be⟩;have HB1:=aa be;have c01:v1.cell? ⟨w.heap.size,0,none⟩=some (.string ⟨l.toArray⟩):=by rw[<-HEN.o];exact(HLV.o.below HB1.o).str.one
  clear be c0;gi_wp2_with fail;refine⟨trivial,(sD.2 (HRA.o v1)).mono ?_⟩;rintro e v2 ⟨rfl,be⟩;have HB2:=aa (HB1.o.trans (be.mono HB1.o.size));have c02:v2.cell? ⟨w.heap.size,0,none⟩=some (.string ⟨l.toArray⟩):=by rw[<-HEN.o];exact(HLV.o.below HB2.o).str.one
  clear be c01;gi_wp2_with fail;refine⟨trivial,(sD.2 (HBf.o v2 HB2.o)).mono ?_⟩;rintro e v3 ⟨rfl,be⟩;have HB3:=aa (HB2.o.trans (be.mono HB2.o.size));have c03:v3.cell? ⟨w.heap.size,0,none⟩=some (.string ⟨l.toArray⟩):=by rw[<-HEN.o];exact(HLV.o.below HB3.o).str.one
  clear be c02;gi_wp2_with fail;refine⟨trivial,(sD.2 (HRB.o v3)).mono ?_⟩;rintro e v4 ⟨rfl,be⟩;have HB4:=aa (HB3.o.trans (be.mono HB3.o.size));clear be c03 HB1 HB2 HB3 HAf HRA HBf HRB;have HBV4:=aa (HBV.o.trans (HB4.o.mono HBV.o.size));have HL4:=aa (HLV.o.below HB4.o);have c7:v4.cell? ⟨b7,0,none⟩=some (.slice vo m vc):=HL4.o.row.one;have c9:v4.cell? ⟨b9,0,none⟩=some (.int .i64 (m:Nat)):=(HK9.o.below HB4.o).one;gi_wp2_with fail;refine⟨trivial,(sD.2 (HL0.o v4 HBV4.o)).mono ?_⟩;rintro e v5 ⟨rfl,be⟩;have b4:=HL4.o.res.below be;rw[<-HS.o.2.2.1]at b4;have c5:=b4.one;have z5:=b4.frozen 0;obtain⟨v6,hv6⟩:=aj (v5.setCell ⟨N2,0,none⟩ (.bool true));have HR:ae (Pw.Cb v6 N2 #[.bool true] 4):=aa (by rw[hv6];exact b4.set 0 _);have HBR:=aa (show sG w.heap.size w v6 by have h1:sG w.heap.size w v5:=HBV4.o.trans (be.mono HBV4.o.size);rw[hv6];exact h1.setCell (by show w.heap.size<=N2;have:=HS.o;omega) _);have hb45:v5.heap[Dd]?=V.heap[Dd]? :=(be.block Dd (Nat.lt_of_lt_of_le HDd.o.2 HB4.o.size)).trans (HB4.o.block Dd HDd.o.2);have HM6:ae (zpM [Dd] w9.heap.size v6):=aa ⟨fun d hd=>by
   obtain rfl:=sN.1 hd;rw[hv6];exact((sG.heap_setCell _ _ _ d (by show d≠N2;have:=HS.o;have:=HDd.o.1;omega)).trans hb45).trans HKd.o,fun d hd=>by
   obtain rfl:=sN.1 hd;exact HDd.o.1,by simp⟩
  have h9:w.heap.size<=w9.heap.size:=by have:=HS.o;omega
  clear be b4 c7 c9 hb45 ea1 ea2 ea3 ed1 ed2 ed3 em;gi_wp2_with fail;rw[<-hv6];clear hv6 c5 z5;exact gP 20 w9.heap.size [Dd] v6 HM6.o (fun w' hs=>⟨_,j4 rfl _ _ _ _ rfl (hs.cells _ _ HR.o rfl),rfl,HBR.o.trans (hs.low.mono h9)⟩)
 case stop=>rintro D0 c pre V _ _ h _;exact h.elim
theorem zqb(l:List UInt8)(z st:Int)(w:sL)(ht:na w)(hv:Ev.q9 tabs w):
  Calls Tryz.prog 6 #[.string ⟨l.toArray⟩,.int .i64 z,.int .i64 st] w fun e w'=>e=.returned (.bool true)/\sG w.heap.size w w':=sD.1 (zvy l z st w ht hv)
end Wd
end Go.Proofs.YtbbapnpdfcgjnaaGreatDoor
