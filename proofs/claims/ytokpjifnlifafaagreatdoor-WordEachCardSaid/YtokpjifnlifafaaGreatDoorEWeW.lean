/- WeW: parts of the proof, joined. -/
import Derived.Laws.EntriesVeiled
import Derived.Test.YtokpjifnlifafaaGreatDoorEWdEa
import Derived.Test.YtokpjifnlifafaaGreatDoorEWbW
import Derived.Test.YtokpjifnlifafaaGreatDoorEPwKit
set_option maxHeartbeats 64000000
namespace Go.Proofs.YtokpjifnlifafaaGreatDoor
namespace Wd
open Go.RowKit Go.Shelf
open Wt
open Pw (Cb zce zcg Marks seqS_in)
open Sg (Pl encP)
attribute [local go_sem] Oper.semAt_some
theorem we_eqE (w:World) (B:Nat):(binOp BinOp.eql 36 (Value.func (.func 51) #[] #[.pointer (some ⟨B,0,none⟩)]) Value.nilFunc).run Tryz.prog w=Result.ok (Value.bool false) w:=by kernel_rfl
attribute [local go_sem] we_eqE
theorem wkr_set {K:Nat->Prop} (W:World) (B:Nat) (v:Value) (h:∀k,K k->k≠B):KrW K W (W.setCell ⟨B,0,none⟩ v):=⟨KeepsWalks.setCell W _ v,fun k hk=>Below.heap_setCell _ _ _ k (h k hk)⟩
theorem wkr_below {K:Nat->Prop} {V U:World} (hb:Below V.heap.size V U) (h:∀k,K k->k<V.heap.size):KrW K V U:=⟨KeepsWalks.of_grownBy (wgrown hb) (fun j o e=>by cases e),fun k hk=>hb.block k (h k hk)⟩
structure Lw (N EB b5 b6 m uc:Nat) (uo:Option Addr) (D:List Nat) (l:List UInt8) (st:Int) (V:World):Prop where
 stop:Cb V N #[.int .i64 st] 3
 res:Cb V (N+1) #[.bool false] 4
 fn:Cb V b5 #[.func (.func 51) #[] #[.pointer (some ⟨EB,0,none⟩)]] 36
 row:Cb V b6 #[.slice uo m uc] 23
 e:WaAt EB l V
 rd:Pt.RdI V uo (D.map fun(x:Nat)=>(x:Int))
theorem Lw.below {N EB b5 b6 m uc:Nat} {uo:Option Addr} {D:List Nat} {l:List UInt8} {st:Int} {V V':World} (h:Lw N EB b5 b6 m uc uo D l st V) (hb:Below V.heap.size V V'):Lw N EB b5 b6 m uc uo D l st V':=
 ⟨h.stop.below hb,h.res.below hb,h.fn.below hb,h.row.below hb,h.e.below hb,h.rd.below hb⟩
set_option maxRecDepth 100000 in
theorem we_in (l:List UInt8) (st:Int) (w:World) (ht:TbW w) (hv:Ev.Tbs tabs w):
  CallsIn Fence.wide 20 Tryz.prog 5 #[.string ⟨l.toArray⟩,.int .i64 st] w fun e w'=>e= .returned (.bool true)/\Below w.heap.size w w':=by
 have HT:=hid ht;have HL0:=hid (fun(W:World) (hb:Below w.heap.size w W)=>lives12 W (tbs_below hv hb))
 clear ht hv;refine callsIn_of_wp_marks Tryz.func5 rfl trivial ?_ rfl
 simp only[Tryz.ntmps5,List.size_toArray,List.length_cons,List.length_nil,Nat.reduceAdd,Nat.reduceSub,Array.replicate_succ,Array.replicate_zero,List.push_toArray,List.append_toArray,List.nil_append,List.cons_append]
 obtain⟨W2,hW2⟩:∃W2,W2=(w.alloc (.cells #[.int .i64 st] 3)).alloc (.cells #[.bool false] 4):=⟨_,rfl⟩;have hB2:Below w.heap.size w W2:=by rw[hW2];exact((Below.refl _ _).alloc (Nat.le_refl _) _).alloc (by simp) _
 have hs2:W2.heap.size=w.heap.size+2:=by rw[hW2];simp
 have a3:Cb W2 w.heap.size #[.int .i64 st] 3:=by rw[hW2];exact(Cb.new w _ _).alloc _
 have a4:Cb W2 (w.heap.size+1) #[.bool false] 4:=by
  have:=Cb.new (w.alloc (.cells #[.int .i64 st] 3)) #[.bool false] 4;rw[World.size_alloc] at this;rw[hW2];exact this
 have c4:=a4.one;have z4:=a4.frozen 0;rw[hW2] at c4 z4
 by_cases hl:(70:Int)<(l.length:Int)
 ·gi_wp2_with fail
  rw[<- hW2];refine⟨trivial,(callsIn_wide.2 (HL0.out W2 hB2)).mono ?_⟩;rintro e w5 ⟨rfl,be⟩;have b4:=a4.below be;have HB5:=hid (hB2.trans (be.mono hB2.size));have c5:=b4.one;have z5:=b4.frozen 0;have HR:=hid (show Cb (w5.setCell ⟨w.heap.size+1,0,none⟩ (.bool true)) (w.heap.size+1) #[.bool true] 4 from b4.set 0 _)
  have HBR:=hid (show Below w.heap.size w (w5.setCell ⟨w.heap.size+1,0,none⟩ (.bool true)) from HB5.out.setCell (by show w.heap.size<=w.heap.size+1;omega) _)
  clear be hB2 hW2 c4 z4 a3 a4 b4;gi_wp2;exact⟨_,zce rfl _ _ _ _ rfl HR.out,rfl,HBR.out⟩
 have hl2:l.length<=70:=by omega
 gi_wp2_with fail;rw[<- hW2];refine⟨trivial,(callsIn_wide.2 (weach_any l W2)).mono ?_⟩;rintro e w3 ⟨rfl,hw3⟩;have hbe3:Below W2.heap.size W2 w3:=by rw[hw3];exact(Below.refl _ _).alloc (Nat.le_refl _) _
 have r3:Boxed w3 ((w.heap.size)+2) 9 (.string ⟨l.toArray⟩):=by rw[hw3,<- hs2];exact Boxed.new _ _ _
 have hs3:w3.heap.size=w.heap.size+3:=by rw[hw3];simp;omega
 have b3:=a3.below hbe3;have b4:=a4.below hbe3;have hB3:=hB2.trans (hbe3.mono hB2.size);rw[hs2];clear hw3 hW2 c4 z4 a3 a4;obtain⟨w5,hw5⟩:∃w5,w5=w3.alloc (.cells #[.func (.func 51) #[] #[.pointer (some ⟨w.heap.size+2,0,none⟩)]] 36):=⟨_,rfl⟩;have hbe5:Below w3.heap.size w3 w5:=by rw[hw5];exact(Below.refl _ _).alloc (Nat.le_refl _) _
 have r5:Cb w5 ((w.heap.size)+3) #[.func (.func 51) #[] #[.pointer (some ⟨w.heap.size+2,0,none⟩)]] 36:=by rw[hw5,<- hs3];exact Cb.new _ _ _
 have hs5:w5.heap.size=w.heap.size+4:=by rw[hw5];simp;omega
 have c5:=r5.one;rw[hw5] at c5;gi_wp2_with fail;rw[<- hw5];refine⟨trivial,(callsIn_wide.2 (wbounds12 l (by omega) w5)).mono ?_⟩
 rintro e w6 ⟨uo,uc,rfl,ho,hb6⟩;have hr6:=Pt.rdi_own ho rfl;have HUO:=hid (show(wbs' l).length=0\/∃g,uo=some ⟨g,0,none⟩ by
  rcases ho.2 with ⟨_,h2⟩ | ⟨g,_,_,h1,_⟩
  ·exact .inl h2
  ·cases h1
   exact .inr ⟨g,rfl⟩)
 have hs6:w.heap.size+4<=w6.heap.size:=by have:=hb6.size;omega
 obtain⟨L,hL,hA,hLn,hD0,hDn⟩:=wpw_facts l;obtain⟨D,hD⟩:∃D,D=wbs' l:=⟨_,rfl⟩;rw[<- hD] at hr6 HUO hA hLn hD0 hDn⊢;obtain⟨n,hn⟩:∃n,n=L.length:=⟨_,rfl⟩;obtain⟨m,hm⟩:∃m,m=D.length:=⟨_,rfl⟩;rw[<- hm] at HUO hLn⊢;rw[<- hn] at hLn hDn;have HLm:=hid hL;have HA:=hid hA;have HD0:=hid hD0;have HDn:=hid hDn;have HMD:=hid hm;have HNL:=hid hn;have HLn:=hid hLn;have hm9:m<=71:=by rw[hm,hD];have:=wbs_len l;omega
 have hB5:=hB3.trans (hbe5.mono hB3.size);have hB6:=hB5.trans (hb6.mono hB5.size);have d3:=(b3.below hbe5).below hb6;have d4:=(b4.below hbe5).below hb6;have d5:=r5.below hb6;have dE:Boxed w6 ((w.heap.size)+2) 9 (.string ⟨l.toArray⟩):=(hb6.block _ (by omega)).trans ((hbe5.block _ (by omega)).trans r3)
 clear hL hA hD0 hDn hD hn hm ho hLn;obtain⟨w7,hw7⟩:∃w7,w7=w6.alloc (.cells #[.slice uo m uc] 23):=⟨_,rfl⟩;have hbe7:Below w6.heap.size w6 w7:=by rw[hw7];exact(Below.refl _ _).alloc (Nat.le_refl _) _
 have r6:Cb w7 w6.heap.size #[.slice uo m uc] 23:=by rw[hw7];exact Cb.new _ _ _
 have hs7:w7.heap.size=w6.heap.size+1:=by rw[hw7];simp
 obtain⟨w8,hw8⟩:∃w8,w8=w7.alloc (.cells #[.int .i64 0] 3):=⟨_,rfl⟩;have hbe8:Below w7.heap.size w7 w8:=by rw[hw8];exact(Below.refl _ _).alloc (Nat.le_refl _) _
 have r7:Cb w8 (w6.heap.size+1) #[.int .i64 0] 3:=by rw[hw8,<- hs7];exact Cb.new _ _ _
 have hs8:w8.heap.size=w6.heap.size+1+1:=by rw[hw8];simp;omega
 obtain⟨w9,hw9⟩:∃w9,w9=w8.alloc (.cells #[.int .i64 0] 3):=⟨_,rfl⟩;have hbe9:Below w8.heap.size w8 w9:=by rw[hw9];exact(Below.refl _ _).alloc (Nat.le_refl _) _
 have r8:Cb w9 (w6.heap.size+1+1) #[.int .i64 0] 3:=by rw[hw9,<- hs8];exact Cb.new _ _ _
 have hs9:w9.heap.size=w6.heap.size+3:=by rw[hw9];simp;omega
 have hB7:=hB6.trans (hbe7.mono hB6.size);have hB79:Below w7.heap.size w7 w9:=hbe8.trans (hbe9.mono (by omega))
 have HLW:=hid (show Lw (w.heap.size) (w.heap.size+2) (w.heap.size+3) w6.heap.size m uc uo D l st w7 from⟨d3.below hbe7,d4.below hbe7,d5.below hbe7,r6,⟨(hbe7.block _ (by omega)).trans dE,HT.out.below hB7⟩,hr6.below hbe7⟩)
 have HLW9:=hid (HLW.out.below hB79);have c59:=HLW9.out.fn.one;rw[hw9,hw8,hw7] at c59;rw[hw8,hw7] at hw9;have H7:=hid (r7.below hbe9);have H8:=hid r8;have HB79:=hid hB79;have HB7:=hid hB7;obtain⟨b6,hb6'⟩:∃b6,b6=w6.heap.size:=⟨_,rfl⟩;obtain⟨b7,hb7⟩:∃b7,b7=w6.heap.size+1:=⟨_,rfl⟩;obtain⟨b8,hb8⟩:∃b8,b8=w6.heap.size+1+1:=⟨_,rfl⟩;obtain⟨N,hN⟩:∃N,N=w.heap.size:=⟨_,rfl⟩;obtain⟨N1,hN1⟩:∃N1,N1=w.heap.size+1:=⟨_,rfl⟩;obtain⟨EB,hEB⟩:∃EB,EB=w.heap.size+2:=⟨_,rfl⟩;obtain⟨b5,hb5⟩:∃b5,b5=w.heap.size+3:=⟨_,rfl⟩;have HS:=hid (show N=w.heap.size/\N1=N+1/\EB=N+2/\b5=N+3/\N+4<=b6/\b7=b6+1/\b8=b6+2/\w7.heap.size=b7/\w9.heap.size=b8+1 by refine⟨hN,?_,?_,?_,?_,?_,?_,?_,?_⟩<;>omega)
 rw[<- hb7] at H7;rw[<- hb8] at H8;rw[<- hEB,<- hb5,<- hb6',<- hN] at HLW HLW9;have HEN:=hid hN;have HNN:=hid (And.intro hN1 (And.intro hEB (And.intro hb5 (And.intro hb6' (And.intro hb7 hb8)))));have HW9:=hid hw9;clear hs2 hs3 hs5 hs6 hs7 hs8 hs9 hB2 hB3 hB5 hB6 hB7 hB79 hbe3 hbe5 hbe7 hbe8 hbe9 b3 b4 d3 d4 d5 dE r3 r5 r6 r7 r8 hb6 hr6 c5 hw8 hw7 hN hN1 hEB hb5 hb6' hb7 hb8;gi_wp2_with fail;rw[<- HW9.out];rw[<- HNN.out.2.2.2.2.2,<- HNN.out.2.2.2.2.1,<- HNN.out.2.2.2.1,<- HNN.out.2.2.1,<- HNN.out.2.1,<- HNN.out.1];clear c59 hw9 HW9;refine rangeS rfl (by omega) rfl trivial (enters_of Tryz.func51 (by kernel_rfl) rfl) (weach_s 19 (by omega) EB l L HLm.out w9 HLW9.out.e (by omega)) KrW_t (KrW_b HLW9.out.e.lt) (Below.refl _ _) (fun _=>rfl)
  (fun pre V=>Below w7.heap.size w7 V/\Cb V b7 #[.int .i64 (pre.length:Nat)] 3/\Cb V b8 #[.int .i64 (D.getD pre.length 0:Nat)] 3)
  (fun _ _ _=>False) ?own ?ownx ⟨HB79.out,H7.out,by rw[show D.getD ([]:List (Pl l)).length 0=0 from HD0.out];exact H8.out⟩
  (fun x a' _=>a'={tmps:=#[.string ⟨l.toArray⟩,.int .i64 st,undef,.pointer (some ⟨w.heap.size,0,none⟩),.pointer (some ⟨N1,0,none⟩),.pointer (some ⟨b5,0,none⟩),.pointer (some ⟨b6,0,none⟩),.pointer (some ⟨b7,0,none⟩),.pointer (some ⟨b8,0,none⟩),.int .i64 (x.v.1:Nat),.int .i64 (x.v.2:Nat),undef,undef,.string ⟨l.toArray⟩,.int .i64 (l.length:Nat),.bool false,undef,.string ⟨l.toArray⟩,.func (.func 51) #[] #[.pointer (some ⟨EB,0,none⟩)],.func (.func 51) #[] #[.pointer (some ⟨EB,0,none⟩)],.bool false,.string ⟨l.toArray⟩,.slice uo m uc,.func (.func 51) #[] #[.pointer (some ⟨EB,0,none⟩)],.int .i64 (x.v.1:Nat),.int .i64 (x.v.2:Nat),undef,undef,undef,undef,undef,undef,undef,undef,undef,undef,undef,undef,undef,undef,undef,undef,undef,undef,undef,undef,undef,undef,undef,undef,undef,undef,undef,undef,undef,undef,undef,undef,undef,undef,undef,undef,undef,undef,undef,undef,undef,undef,undef,undef,undef,undef,undef,undef,undef,undef,undef,undef,undef,undef,undef,undef,undef],defers:=[]})
  (fun _ _ _ _ _ _ h _ _=>h) ?assign ?body ?done ?stop
 case own=>
  rintro pre P C row ⟨k0,k1,k2⟩ hg hr;have hq:=HS.out;exact⟨k0.grown hg k0.size (fun k hk=>by have:=(hr k hk).1;omega),k1.kept hg (fun e=>by have:=(hr _ e.symm).1;omega),k2.kept hg (fun e=>by have:=(hr _ e.symm).1;omega)⟩
 case ownx=>exact fun _ _ _ _ _ h _ _=>h
 case assign=>
  intro lp pre x V K hI hK
  dsimp only[encP]
  gi_wp2;exact hK _ _ (KeepsFrom.refl _ _) ⟨KeepsWalks.refl _,fun _ _=>rfl⟩ hI rfl
 case body=>
  rintro lp pre x a' V hlp hrec ⟨kb,k7,k8⟩ rfl hsp;obtain⟨Rx,hRx⟩:=hsp;have hLk:L[pre.length]? =some x:=by rw[<- hRx];simp
  have HX0:=hid (fun(h:pre.length=0)=>show L.head? =some x by
   rw[List.length_eq_zero_iff.1 h] at hRx;rw[<- hRx];rfl)
  have HNe:=hid (show L≠ [] from fun e=>by rw[e] at hLk;simp at hLk)
  obtain⟨hDf,hDt,hxl⟩:=HA.out _ x hLk;obtain⟨k,hk⟩:∃k,k=pre.length:=⟨_,rfl⟩;have HPL:=hid (show(pre++[x]).length=k+1 by rw[hk];simp)
  rw[<- hk] at hDf hDt k7 k8 HX0;rw[show D.getD k 0=x.v.1 by rw[List.getD_eq_getElem?_getD,hDf];rfl] at k8
  have HGt:=hid (show D.getD (k+1) 0=x.v.2 by rw[List.getD_eq_getElem?_getD,hDt];rfl)
  clear hk hRx hLk;have hmk:=(List.getElem?_eq_some_iff.1 hDt).1;rw[<- HMD.out] at hmk;obtain⟨g,rfl⟩:∃g,uo=some ⟨g,0,none⟩:=by
   rcases HUO.out with h | h
   ·omega
   ·exact h
  obtain⟨f,hf⟩:∃f,f=x.v.1:=⟨_,rfl⟩;obtain⟨tt,htt⟩:∃tt,tt=x.v.2:=⟨_,rfl⟩;have HFX:=hid hf;have HTX:=hid htt;rw[<- hf] at hDf k8 hxl;rw[<- htt] at hDt hxl HGt;rw[<- hf,<- htt];obtain⟨k1,hk1⟩:∃k1,k1=k+1:=⟨_,rfl⟩;rw[<- hk1] at hDt hmk HPL HGt;have HLV:=hid (HLW.out.below kb);have cRf:V.cell? ⟨g,k,none⟩=some (.int .i64 (f:Nat)):=by
   obtain⟨a,h1,_,h3⟩:=HLV.out.rd k (f:Int) (by rw[List.getElem?_map,hDf];rfl)
   cases h1
   rw[Addr.add_lit,Nat.zero_add] at h3;exact h3
  have cRt:V.cell? ⟨g,k1,none⟩=some (.int .i64 (tt:Nat)):=by
   obtain⟨a,h1,_,h3⟩:=HLV.out.rd k1 (tt:Int) (by rw[List.getElem?_map,hDt];rfl)
   cases h1
   rw[Addr.add_lit,Nat.zero_add] at h3;exact h3
  have c6:=HLV.out.row.one;have c7:=k7.one;have c8:=k8.one;have z8:=k8.frozen 0;have hkw:(k:Int)+1=(k1:Int):=by omega
  have hkwr:IntKind.i64.wrap (k1:Int)=(k1:Int):=by rw[IntKind.wrap_i64];omega
  have hki:¬(m:Int)<=(k1:Int):=by omega
  have hk0:(0:Int)<=(k:Int):=by omega
  have hkm:(k:Int)<(m:Int):=by omega
  have hk10:(0:Int)<=(k1:Int):=by omega
  have hk1m:(k1:Int)<(m:Int):=by omega
  have hft:¬(tt:Int)<=(f:Int):=by omega
  have xf:((f:Int) != (f:Int))=false:=bne_eq_false_iff_eq.2 rfl;have xt:((tt:Int) != (tt:Int))=false:=bne_eq_false_iff_eq.2 rfl;obtain⟨hSN,hSN1,hSEB,hS5,hS6,hS7,hS8,hSw7,hSw9⟩:=HS.out;obtain⟨U0,hU0⟩:∃U0,U0=V.setCell ⟨b8,0,none⟩ (.int .i64 (tt:Int)):=⟨_,rfl⟩;have u8:Cb U0 b8 #[.int .i64 (tt:Int)] 3:=by rw[hU0];exact k8.set 0 _
  have u7:Cb U0 b7 #[.int .i64 (k:Nat)] 3:=by rw[hU0];exact k7.other (by omega) 0 _
  have ub:Below w7.heap.size w7 U0:=by rw[hU0];exact kb.setCell (by show w7.heap.size<=b8;omega) _
  have HLU:=hid (HLW.out.below ub);have c73:U0.cell? ⟨b7,0,none⟩=some (.int .i64 (k:Nat)):=u7.one;have z73:=u7.frozen 0;have c33:U0.cell? ⟨w.heap.size,0,none⟩=some (.int .i64 st):=by rw[<- HEN.out];exact HLU.out.stop.one
  have c53:=HLU.out.fn.one;have UK:=hid (show KeepsFrom w9.heap.size V U0 by rw[hU0];exact KeepsFrom.of_grownBy (grownBy_setCell' _ _ _) (fun r e=>by cases e;show b8<w9.heap.size;omega))
  have UN:=hid (show KrW (KW EB) V U0 by rw[hU0];exact wkr_set V b8 _ (fun k hk=>by
   have h2:=HLV.out.e.tb.two
   rcases hk with rfl | hk<;>omega))
  have HU0:=hid hU0;rw[hU0] at c73 z73 c33 c53;have HU8:=hid u8;have HU7:=hid u7;have HUB:=hid ub;have HSS:=hid (And.intro hSN (And.intro hSN1 (And.intro hSEB (And.intro hS5 (And.intro hS6 (And.intro hS7 (And.intro hS8 (And.intro hSw7 hSw9))))))));have HFin:=hid (show ∀U,Below U0.heap.size U0 U->KeepsFrom w9.heap.size V (U.setCell ⟨b7,0,none⟩ (.int .i64 (k1:Int)))/\KrW (KW EB) V (U.setCell ⟨b7,0,none⟩ (.int .i64 (k1:Int)))/\Below w7.heap.size w7 (U.setCell ⟨b7,0,none⟩ (.int .i64 (k1:Int)))/\Cb (U.setCell ⟨b7,0,none⟩ (.int .i64 (k1:Int))) b7 #[.int .i64 ((pre++[x]).length:Nat)] 3/\Cb (U.setCell ⟨b7,0,none⟩ (.int .i64 (k1:Int))) b8 #[.int .i64 (D.getD (pre++[x]).length 0:Nat)] 3 from fun U hU=>by
   have h7:Cb U b7 #[.int .i64 (k:Nat)] 3:=HU7.out.below hU;have h8:Cb U b8 #[.int .i64 (tt:Int)] 3:=HU8.out.below hU;have hL:=HLW.out.below (HUB.out.trans (hU.mono HUB.out.size));have h2:=hL.e.tb.two;refine⟨UK.out.trans ((KeepsFrom.of_grownBy (wgrown hU) (fun r e=>by cases e)).trans (KeepsFrom.of_grownBy (grownBy_setCell' _ _ _) (fun r e=>by cases e;show b7<w9.heap.size;omega))),KrW_t UN.out (KrW_t (wkr_below hU HLU.out.e.lt) (wkr_set U b7 _ (fun k hk=>by rcases hk with rfl | hk<;>omega))),(HUB.out.trans (hU.mono HUB.out.size)).setCell (by show w7.heap.size<=b7;omega) _,?_,?_⟩
   ·rw[HPL.out];exact h7.set 0 _
   ·rw[HPL.out,HGt.out];exact h8.other (by omega) 0 _)
  clear hSN hSN1 hSEB hS5 hS6 hS7 hS8 hSw7 hSw9 hf htt hDf hDt hmk hk1 kb k7 k8 hU0 u8 u7 ub hxl
  by_cases hst:st=(k:Int)
  ·subst hst
   obtain⟨r0,hr0⟩:=hrec;have HR0:=hid (show U0.heap[lp]? =some (.loop r0) by
    rw[HU0.out];exact(Below.heap_setCell _ _ _ lp (by show lp≠b8;have:=HS.out;omega)).trans hr0)
   clear hr0;gi_wp2_with fail;rw[<- HU0.out];clear c73 z73 c33 c53 c6 c7 c8 z8 cRf cRt;refine rangeS_in rfl HR0.out (by omega) rfl trivial (enters_of Tryz.func51 (by kernel_rfl) rfl) (seqS_in (weach_s 17 (by omega) EB l L HLm.out U0 HLU.out.e (by omega))) KrW_t (KrW_b HLU.out.e.lt) (Below.refl _ _) (fun _=>rfl)
    (fun pre2 U=>pre2=[]/\Below U0.heap.size U0 U)
    (fun c _ U=>c= .exit 2/\Below U0.heap.size U0 U) ?own2 ?ownx2 ⟨rfl,Below.refl _ _⟩
    (fun x2 a2 _=>a2={tmps:=#[.string ⟨l.toArray⟩,.int .i64 (k:Nat),undef,.pointer (some ⟨w.heap.size,0,none⟩),.pointer (some ⟨N1,0,none⟩),.pointer (some ⟨b5,0,none⟩),.pointer (some ⟨b6,0,none⟩),.pointer (some ⟨b7,0,none⟩),.pointer (some ⟨b8,0,none⟩),.int .i64 (f:Nat),.int .i64 (tt:Nat),.int .i64 (x2.v.1:Nat),.int .i64 (x2.v.2:Nat),.string ⟨l.toArray⟩,.int .i64 (l.length:Nat),.bool false,undef,.string ⟨l.toArray⟩,.func (.func 51) #[] #[.pointer (some ⟨EB,0,none⟩)],.func (.func 51) #[] #[.pointer (some ⟨EB,0,none⟩)],.bool false,.string ⟨l.toArray⟩,.slice (some ⟨g,0,none⟩) m uc,.func (.func 51) #[] #[.pointer (some ⟨EB,0,none⟩)],.int .i64 (f:Nat),.int .i64 (tt:Nat),.int .i64 (k:Nat),.int .i64 (k1:Nat),.slice (some ⟨g,0,none⟩) m uc,.int .i64 (m:Nat),.bool false,.bool false,.int .i64 (f:Nat),.int .i64 (f:Nat),.bool false,.bool false,.bool false,.int .i64 (f:Nat),.slice (some ⟨g,0,none⟩) m uc,.int .i64 (k:Nat),.pointer (some ⟨g,k,none⟩),.int .i64 (f:Nat),.bool false,.bool false,.bool false,.int .i64 (tt:Nat),.slice (some ⟨g,0,none⟩) m uc,.int .i64 (k:Nat),.int .i64 (k1:Nat),.pointer (some ⟨g,k1,none⟩),.int .i64 (tt:Nat),.bool false,.bool false,.bool false,.int .i64 (tt:Nat),.int .i64 (f:Nat),.bool false,.bool false,.int .i64 (tt:Nat),.int .i64 (k:Nat),.int .i64 (k:Nat),.bool true,.func (.func 51) #[] #[.pointer (some ⟨EB,0,none⟩)],.int .i64 (x2.v.1:Nat),.int .i64 (x2.v.2:Nat),undef,undef,undef,undef,undef,undef,undef,undef,undef,undef,undef,undef,undef,undef,undef,undef,undef,undef],defers:=[]})
    (fun _ _ _ _ _ _ h _ _=>h) ?assign2 ?body2 ?done2 ?stop2
   case own2=>
    rintro pre2 P C row ⟨h0,k0⟩ hg hr;exact⟨h0,k0.grown hg k0.size (fun k hk=>(hr k hk).1)⟩
   case ownx2=>
    rintro c pre2 P C row ⟨h0,k0⟩ hg hr;exact⟨h0,k0.grown hg k0.size (fun k hk=>(hr k hk).1)⟩
   case assign2=>
    intro lp2 pre2 x2 U K hI hK
    dsimp only[encP]
    gi_wp2;exact hK _ _ (KeepsFrom.refl _ _) ⟨KeepsWalks.refl _,fun _ _=>rfl⟩ hI rfl
   case body2=>
    rintro lp2 pre2 x2 a2 U hlp2 _ ⟨rfl,ub⟩ rfl hsp2;obtain⟨Ry,hRy⟩:=hsp2;have hL0:L[0]? =some x2:=by rw[<- hRy];rfl
    obtain⟨hDf,hDt,_⟩:=HA.out 0 x2 hL0;have h0:x2.v.1=0:=by
     have:=HD0.out;rw[List.getD_eq_getElem?_getD,hDf] at this;exact this
    obtain⟨t2,ht2⟩:∃t2,t2=x2.v.2:=⟨_,rfl⟩;rw[<- ht2] at hDt⊢;rw[h0];have hmq:=(List.getElem?_eq_some_iff.1 hDt).1;rw[<- HMD.out] at hmq;have hm1:(1:Int)<(m:Int):=by omega
    have HLq:=hid (HLU.out.below ub);have cR1:U.cell? ⟨g,1,none⟩=some (.int .i64 (t2:Nat)):=by
     obtain⟨a,h1,_,h3⟩:=HLq.out.rd 1 (t2:Int) (by rw[List.getElem?_map,hDt];rfl)
     cases h1
     rw[Addr.add_lit,Nat.zero_add] at h3;exact h3
    have c6q:=HLq.out.row.one;have xt2:((t2:Int) != (t2:Int))=false:=bne_eq_false_iff_eq.2 rfl;have HUb:=hid ub;clear hRy hL0 hDf hDt h0 ht2 hmq ub;gi_wp2;exact⟨KeepsFrom.refl _ _,rfl,HUb.out⟩
   case done2=>
    rintro xs U rfl ⟨h,_⟩;exact absurd h HNe.out
   case stop2=>
    rintro c pre2 U _ ⟨rfl,ub⟩;have h7:=HU7.out.below ub;have c7q:=h7.one;have z7q:=h7.frozen 0;have HUb:=hid ub;clear ub h7;gi_wp2;exact HFin.out U HUb.out
  ·have hst2:¬(k:Int)=st:=fun e=>hst e.symm
   gi_wp2;rw[<- HU0.out];exact HFin.out U0 (Below.refl _ _)
 case done=>
  rintro Dd xs V hDd rfl ⟨kb,k7,k8⟩ hK;rw[<- HNL.out,HDn.out] at k8;have HLV:=hid (HLW.out.below kb);have c8:=k8.one;have HBV:=hid (HB7.out.trans (kb.mono HB7.out.size));have ee:((l.length:Int)==(l.length:Int))=true:=by simp
  have hDl:=(Array.getElem?_eq_some_iff.1 hK).1;have HDd:=hid (And.intro hDd hDl);have HKd:=hid hK;clear k7 kb hDd hDl hK;gi_wp2_with fail;refine⟨trivial,(callsIn_wide.2 (HL0.out V HBV.out)).mono ?_⟩;rintro e v5 ⟨rfl,be⟩;have b4:=HLV.out.res.below be;rw[<- HS.out.2.1] at b4;have c5:=b4.one;have z5:=b4.frozen 0;obtain⟨v6,hv6⟩:∃v6,v6=v5.setCell ⟨N1,0,none⟩ (.bool true):=⟨_,rfl⟩;have HR:=hid (show Cb v6 N1 #[.bool true] 4 by rw[hv6];exact b4.set 0 _)
  have HBR:=hid (show Below w.heap.size w v6 by
   have h1:Below w.heap.size w v5:=HBV.out.trans (be.mono HBV.out.size);rw[hv6];exact h1.setCell (by show w.heap.size<=N1;have:=HS.out;omega) _)
  have HM6:=hid (show Marks [Dd] w9.heap.size v6 from⟨fun d hd=>by
   obtain rfl:=List.mem_singleton.1 hd;rw[hv6];exact((Below.heap_setCell _ _ _ d (by show d≠N1;have:=HS.out;have:=HDd.out.1;omega)).trans (be.block d HDd.out.2)).trans HKd.out,fun d hd=>by
   obtain rfl:=List.mem_singleton.1 hd;exact HDd.out.1,by simp⟩)
  have h9:w.heap.size<=w9.heap.size:=by have:=HS.out;omega
  clear be b4 c8 ee;gi_wp2_with fail;rw[<- hv6];clear hv6 c5 z5;exact zcg 20 w9.heap.size [Dd] v6 HM6.out (fun w' hs=>⟨_,zce rfl _ _ _ _ rfl (hs.cells _ _ HR.out rfl),rfl,HBR.out.trans (hs.low.mono h9)⟩)
 case stop=>
  rintro D0 c pre V _ _ h _;exact h.elim
theorem we_walk (l:List UInt8) (st:Int) (w:World) (ht:TbW w) (hv:Ev.Tbs tabs w):
  Calls Tryz.prog 5 #[.string ⟨l.toArray⟩,.int .i64 st] w fun e w'=>e= .returned (.bool true)/\Below w.heap.size w w':=callsIn_wide.1 (we_in l st w ht hv)
end Wd
end Go.Proofs.YtokpjifnlifafaaGreatDoor
