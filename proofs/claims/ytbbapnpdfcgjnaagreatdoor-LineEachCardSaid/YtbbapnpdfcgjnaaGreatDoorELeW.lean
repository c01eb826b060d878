/- LeW: parts of the proof, joined. -/
import Derived.Laws.EntriesVeiled
import Derived.Test.YtbbapnpdfcgjnaaGreatDoorELnLs
import Derived.Test.YtbbapnpdfcgjnaaGreatDoorEWdLv
open Go.RowKit.Below renaming refl->sR, heap_setCell->sZ
open Go.RowKit renaming Below->sS
open Nat renaming le_refl->sT, zero_add->tn
open Go.KeepsFrom renaming refl->sU, of_grownBy->sV
open Array renaming getElem?_eq_some_iff->sW
open Go renaming callsIn_wide->sX, World->td, grownBy_setCell'->tp
open And renaming intro->sY
open List renaming getElem?_eq_some_iff->ta, mem_singleton->ti, getElem?_map->tj, length_map->tq, mem_cons->tt
open Go.IntKind renaming i64->tc, wrap_i64->tf
open Go.World renaming size_alloc->te
open Go.Fence renaming wide->tg
open Go.Value renaming nilFunc->tr, func->tu, bool->tw
set_option maxHeartbeats 64000000
namespace Go.Proofs.YtbbapnpdfcgjnaaGreatDoor
namespace Ln
open Go.RowKit Go.Shelf
open _root_.Go.Proofs.YtbbapnpdfcgjnaaGreatDoor.Pw (gL zpp gD)
attribute [local go_sem] Oper.semAt_some
theorem zvz(w:td)(B:Nat):(binOp BinOp.eql 57 (tu (.func 65) #[] #[.pointer (some ⟨B,0,none⟩)]) tr).run Tryz.prog w=Result.ok (tw false) w:=by kernel_rfl
theorem zvy(w:td)(B:Nat):(binOp BinOp.eql 36 (tu (.func 66) #[] #[.pointer (some ⟨B,0,none⟩)]) tr).run Tryz.prog w=Result.ok (tw false) w:=by kernel_rfl
attribute [local go_sem] zvz zvy
theorem zqc{α:Type}{n lp g:Nat}{lb:Array Value}{encs:α->Array Value}{Kp:Nat->td->td->Prop}{S Sp:List α->Prop}{w:td}(h:zkM tg n Tryz.prog g lb encs Kp S Sp w):zkM (tg.inRound lp) n Tryz.prog g lb encs Kp S Sp w:=h
theorem zqb{α:Type}{n lp g:Nat}{lb:Array Value}{encs:α->Array Value}{Kp:Nat->td->td->Prop}{S Sp:List α->Prop}{w:td}(h:zkL tg n Tryz.prog g lb encs Kp S Sp w):zkL (tg.inRound lp) n Tryz.prog g lb encs Kp S Sp w:=h
theorem znG{V U:td}{B:Nat}{v0 v:Value}(h2:2<=V.heap.size)(hb:Pw.Cb V B #[v0] 3)(hB:2<=B)(hU:sS V.heap.size V U):Kt V (U.setCell ⟨B,0,none⟩ v):=
 zkN (Kt.below hU h2) (Kt.set (v0:=v0) (hb.below hU) hB v)
structure Lle(N EB LB b5 b6 b7 b8 n vc m uc:Nat)(vo uo:Option Addr)(P:List (Nat×Bool))(Z:List Int)(l:List UInt8)(st:Int)(V:td):Prop where
 stop:Pw.Cb V N #[.int .i64 st] 3
 res:Pw.Cb V (N+1) #[.bool false] 4
 f5:Pw.Cb V b5 #[.func (.func 65) #[] #[.pointer (some ⟨EB,0,none⟩)]] 57
 f6:Pw.Cb V b6 #[.func (.func 66) #[] #[.pointer (some ⟨LB,0,none⟩)]] 36
 row:Pw.Cb V b7 #[.slice vo n vc] 49
 lns:Pw.Cb V b8 #[.slice uo m uc] 23
 e:eZ EB l V
 e2:eZ LB l V
 rd:zpo V vo P
 rz:Pt.RdI V uo Z
theorem Lle.below{N EB LB b5 b6 b7 b8 n vc m uc:Nat}{vo uo:Option Addr}{P:List (Nat×Bool)}{Z:List Int}{l:List UInt8}{st:Int}{V V':td}(h:Lle N EB LB b5 b6 b7 b8 n vc m uc vo uo P Z l st V)(hb:sS V.heap.size V V'):Lle N EB LB b5 b6 b7 b8 n vc m uc vo uo P Z l st V':=
 ⟨h.stop.below hb,h.res.below hb,h.f5.below hb,h.f6.below hb,h.row.below hb,h.lns.below hb,h.e.below hb,h.e2.below hb,h.rd.below hb,h.rz.below hb⟩
set_option maxRecDepth 100000 in
theorem zxC(l:List UInt8)(st:Int)(w:td)(ht:Tb w)(hv:Ev.Tbs tabs w):
  CallsIn tg 20 Tryz.prog 9 #[.string ⟨l.toArray⟩,.int .i64 st] w fun e w'=>e=.returned (.bool true)/\sS w.heap.size w w':=by
 have HT:=aa ht;have HL0:=aa (fun(W:td)(hb:sS w.heap.size w W)=>zqH W (ziW hv hb))
 clear ht hv;refine callsIn_of_wp_marks Tryz.func9 rfl trivial ?_ rfl
 simp only[Tryz.ntmps9,List.size_toArray,List.length_cons,List.length_nil,Nat.reduceAdd,Nat.reduceSub,Array.replicate_succ,Array.replicate_zero,List.push_toArray,List.append_toArray,List.nil_append,List.cons_append]
 obtain⟨W2,hW2⟩:=am ((w.alloc (.cells #[.int .i64 st] 3)).alloc (.cells #[.bool false] 4));have hB2:sS w.heap.size w W2:=by rw[hW2];exact((sR _ _).alloc (sT _) _).alloc (by simp) _
 have hs2:W2.heap.size=w.heap.size+2:=by rw[hW2];simp
 have a3:Pw.Cb W2 w.heap.size #[.int .i64 st] 3:=by rw[hW2];exact(Pw.Cb.new w _ _).alloc _
 have a4:Pw.Cb W2 (w.heap.size+1) #[.bool false] 4:=by
  have:=Pw.Cb.new (w.alloc (.cells #[.int .i64 st] 3)) #[.bool false] 4;rw[te]at this;rw[hW2];exact this
 have c4:=a4.one;have z4:=a4.frozen 0;rw[hW2]at c4 z4
 by_cases hl:(60:Int)<(l.length:Int)
 ·gi_wp2_with fail
  rw[<- hW2];refine⟨trivial,(sX.2 (HL0.o W2 hB2)).mono ?_⟩;rintro e w5 ⟨rfl,be⟩;have b4:=a4.below be;have HB5:=aa (hB2.trans (be.mono hB2.size));have c5:=b4.one;have z5:=b4.frozen 0;have HR:ae (Pw.Cb (w5.setCell ⟨w.heap.size+1,0,none⟩ (.bool true)) (w.heap.size+1) #[.bool true] 4):=aa (b4.set 0 _);have HBR:ae (sS w.heap.size w (w5.setCell ⟨w.heap.size+1,0,none⟩ (.bool true))):=aa (HB5.o.setCell (by show w.heap.size<=w.heap.size+1;omega) _)
  clear be hB2 hW2 c4 z4 a3 a4 b4;gi_wp2;exact⟨_,gD rfl _ _ _ _ rfl HR.o,rfl,HBR.o⟩
 have hl2:l.length<=60:=by omega
 gi_wp2_with fail;rw[<- hW2];refine⟨trivial,(sX.2 (rO l W2)).mono ?_⟩;rintro e w3 ⟨rfl,hw3⟩;have q3:sS W2.heap.size W2 w3:=by rw[hw3];exact(sR _ _).alloc (sT _) _
 have rE:Boxed w3 (w.heap.size+2) 9 (.string ⟨l.toArray⟩):=by rw[hw3,<- hs2];exact Boxed.new _ _ _
 have hs3:w3.heap.size=w.heap.size+3:=by rw[hw3];simp;omega
 rw[hs2];clear hw3 hW2 c4 z4;gi_wp2_with fail;refine⟨trivial,(sX.2 (znA l w3)).mono ?_⟩;rintro e w4 ⟨rfl,hw4⟩;have q4:sS w3.heap.size w3 w4:=by rw[hw4];exact(sR _ _).alloc (sT _) _
 have rL:Boxed w4 (w.heap.size+3) 9 (.string ⟨l.toArray⟩):=by rw[hw4,<- hs3];exact Boxed.new _ _ _
 have hs4:w4.heap.size=w.heap.size+4:=by rw[hw4];simp;omega
 rw[hs3];clear hw4;obtain⟨w6,hw6⟩:=am ((w4.alloc (.cells #[.func (.func 65) #[] #[.pointer (some ⟨w.heap.size+2,0,none⟩)]] 57)).alloc (.cells #[.func (.func 66) #[] #[.pointer (some ⟨w.heap.size+3,0,none⟩)]] 36));have q6:sS w4.heap.size w4 w6:=by rw[hw6];exact((sR _ _).alloc (sT _) _).alloc (by simp) _
 have r5:Pw.Cb w6 (w.heap.size+4) #[.func (.func 65) #[] #[.pointer (some ⟨w.heap.size+2,0,none⟩)]] 57:=by rw[hw6,<- hs4];exact(Pw.Cb.new w4 _ _).alloc _
 have r6:Pw.Cb w6 (w.heap.size+5) #[.func (.func 66) #[] #[.pointer (some ⟨w.heap.size+3,0,none⟩)]] 36:=by
  have:=Pw.Cb.new (w4.alloc (.cells #[.func (.func 65) #[] #[.pointer (some ⟨w.heap.size+2,0,none⟩)]] 57)) #[.func (.func 66) #[] #[.pointer (some ⟨w.heap.size+3,0,none⟩)]] 36;rw[te,hs4]at this;rw[hw6];exact this
 have hs6:w6.heap.size=w.heap.size+6:=by rw[hw6];simp;omega
 have HW6:=aa hw6;have HS4:=aa hs4;have q24:sS W2.heap.size W2 w4:=q3.trans (q4.mono q3.size);have q26:sS W2.heap.size W2 w6:=q24.trans (q6.mono q24.size);have q36:sS w3.heap.size w3 w6:=q4.trans (q6.mono q4.size);have HB6:=aa (hB2.trans (q26.mono hB2.size));have HD0:=aa (a3.below q26);have HD1:=aa (a4.below q26);have HR5:=aa r5;have HR6:=aa r6;have HEE:ae (eZ (w.heap.size+2) l w6):=aa ⟨(q36.block _ (by omega)).trans rE,HT.o.below HB6.o⟩
 have HLL:ae (eZ (w.heap.size+3) l w6):=aa ⟨(q6.block _ (by omega)).trans rL,HT.o.below HB6.o⟩
 have HS6:=aa hs6;clear hB2 hs2 a3 a4 q3 rE hs3 q4 rL hs4 hw6 q6 r5 r6 hs6 q24 q26 q36;gi_wp2_with fail;rw[<- HW6.o,HS4.o];clear HW6 HS4;refine⟨trivial,(sX.2 (kM l (by omega) w6)).mono ?_⟩
 rintro e w7 ⟨vo,vc,rfl,ho,hb7⟩;obtain⟨vo',vc',hv',hr7,_⟩:=ziG ho
 cases hv'
 have HB7:=aa hb7;have HR7:=aa hr7;clear ho hr7 hb7;gi_wp2_with fail;refine⟨trivial,(sX.2 (zaj l (by omega) w7)).mono ?_⟩
 rintro e w8 ⟨uo,uc,rfl,hrz,huo,hb8⟩;have hchs:=zrt l;have hPn:(d9 l (rl l).length).length<=60:=by
  have h1:=ziH l (rl l).length;have h2:=Pt.rv _ l (sT _);omega
 obtain⟨P,hP⟩:=am (d9 l (rl l).length);rw[<- hP]at HR7 hrz huo hchs hPn⊢;obtain⟨hZl,hZp⟩:=ml P 0;have hZ9:=zaK P 0;rw[<- hchs]at hZl hZp;obtain⟨Z,hZ⟩:=am (mn 0 P);rw[<- hZ]at hrz huo hZl hZp hZ9⊢;obtain⟨n,hn⟩:=am P.length;obtain⟨m,hm⟩:=am Z.length;have hn9:n<=60:=by omega
 have hm9:m<=120:=by omega
 rw[<- hn,<- hm];rw[<- hm]at hZl huo;have HN:=aa hn;have HM:=aa hm;have HCh:=aa hchs;have HZl:=aa hZl;have HZp:=aa hZp;have HUO:=aa huo;have q68:sS w6.heap.size w6 w8:=HB7.o.trans (hb8.mono HB7.o.size);have HB8:=aa (HB6.o.trans (q68.mono HB6.o.size));have HR8:=aa (HR7.o.below hb8);have HZ8:=aa hrz;have hs8:w.heap.size+6<=w8.heap.size:=by have:=q68.size;have:=HS6.o;omega
 obtain⟨wA,hwA⟩:=am ((w8.alloc (.cells #[.slice vo n vc] 49)).alloc (.cells #[.slice uo m uc] 23));have qA:sS w8.heap.size w8 wA:=by rw[hwA];exact((sR _ _).alloc (sT _) _).alloc (by simp) _
 have q6A:sS w6.heap.size w6 wA:=q68.trans (qA.mono q68.size);have r7:Pw.Cb wA w8.heap.size #[.slice vo n vc] 49:=by rw[hwA];exact(Pw.Cb.new w8 _ _).alloc _
 have r8:Pw.Cb wA (w8.heap.size+1) #[.slice uo m uc] 23:=by
  have:=Pw.Cb.new (w8.alloc (.cells #[.slice vo n vc] 49)) #[.slice uo m uc] 23;rw[te]at this;rw[hwA];exact this
 have hsA:wA.heap.size=w8.heap.size+2:=by rw[hwA];simp
 have HLA:ae (Lle w.heap.size (w.heap.size+2) (w.heap.size+3) (w.heap.size+4) (w.heap.size+5) w8.heap.size (w8.heap.size+1) n vc m uc vo uo P Z l st wA):=aa ⟨HD0.o.below q6A,HD1.o.below q6A,HR5.o.below q6A,HR6.o.below q6A,r7,r8,HEE.o.below q6A,HLL.o.below q6A,HR8.o.below qA,HZ8.o.below qA⟩;have HBA:=aa (HB8.o.trans (qA.mono HB8.o.size));obtain⟨w9,hw9⟩:=am (wA.alloc (.cells #[.int .i64 0] 3));have q9:sS wA.heap.size wA w9:=by rw[hw9];exact(sR _ _).alloc (sT _) _
 have r9:Pw.Cb w9 (w8.heap.size+2) #[.int .i64 0] 3:=by rw[hw9,<- hsA];exact Pw.Cb.new _ _ _
 have hs9:w9.heap.size=w8.heap.size+3:=by rw[hw9];simp;omega
 have HL9:=aa (HLA.o.below q9);have c59:=HL9.o.f5.one;rw[hw9,hwA]at c59;rw[hwA]at hw9;have H9:=aa r9;have HQ9:=aa q9;obtain⟨N1,hN1⟩:=am (w.heap.size+1);obtain⟨EB,hEB⟩:=am (w.heap.size+2);obtain⟨LB,hLB⟩:=am (w.heap.size+3);obtain⟨b5,hb5⟩:=am (w.heap.size+4);obtain⟨b6,hb6⟩:=am (w.heap.size+4+1);obtain⟨b7,hb7⟩:=am w8.heap.size;obtain⟨b8,hb8'⟩:=am (w8.heap.size+1);obtain⟨b9,hb9⟩:=am (w8.heap.size+1+1);rw[<- hb9]at H9;rw[show w.heap.size+5=b6 from hb6.symm,<- hb5,<- hLB,<- hEB,<- hb8',<- hb7]at HLA HL9
 have HS:ae (N1=w.heap.size+1/\w.heap.size+6<=b7/\b8=b7+1/\b9=b7+2/\wA.heap.size=b9/\w9.heap.size=b9+1):=aa (by refine⟨?_,?_,?_,?_,?_,?_⟩<;>omega)
 have HNN:=aa (sY hN1 (sY hEB (sY hLB (sY hb5 (sY hb6 (sY hb7 (sY hb8' hb9)))))));have HW9:=aa hw9;clear hb8 hrz huo hchs hPn hP hZl hZp hZ9 hZ hn hm q68 hs8 hwA qA q6A r7 r8 hsA hw9 q9 r9 hs9 hN1 hEB hLB hb5 hb6 hb7 hb8' hb9 HB7 HR7 HB6 HD0 HD1 HR5 HR6 HEE HLL HS6 HR8 HZ8 HB8;gi_wp2_with fail;rw[<- HW9.o];rw[<- HNN.o.2.2.2.2.2.2.2,<- HNN.o.2.2.2.2.2.2.1,<- HNN.o.2.2.2.2.2.1,<- HNN.o.2.2.2.2.1,<- HNN.o.2.2.2.1,<- HNN.o.2.2.1,<- HNN.o.2.1,<- HNN.o.1];clear c59 HW9;refine zlO rfl (by omega) rfl trivial (enters_of Tryz.func65 (by kernel_rfl) rfl) (zaR 19 (by omega) EB l w9 HL9.o.e (by omega)) (fun _=>zkN) (zrK HL9.o.e.tb.two) (sR _ _) (fun _=>rfl)
  (fun pre V=>sS wA.heap.size wA V/\Pw.Cb V b9 #[.int .i64 (pre.length:Nat)] 3)
  (fun _ _ _=>False) ?own ?ownx ⟨HQ9.o,H9.o⟩
  (fun x a' _=>a'={tmps:=#[.string ⟨l.toArray⟩,.int .i64 st,undef,.pointer (some ⟨w.heap.size,0,none⟩),.pointer (some ⟨N1,0,none⟩),.pointer (some ⟨b5,0,none⟩),.pointer (some ⟨b6,0,none⟩),.pointer (some ⟨b7,0,none⟩),.pointer (some ⟨b8,0,none⟩),.pointer (some ⟨b9,0,none⟩),.int .i64 x.1,.bool x.2,undef,undef,undef,undef,undef,undef,.string ⟨l.toArray⟩,.int .i64 (l.length:Nat),.bool false,undef,.string ⟨l.toArray⟩,.func (.func 65) #[] #[.pointer (some ⟨EB,0,none⟩)],.string ⟨l.toArray⟩,.func (.func 66) #[] #[.pointer (some ⟨LB,0,none⟩)],.func (.func 65) #[] #[.pointer (some ⟨EB,0,none⟩)],.bool false,.bool false,.func (.func 66) #[] #[.pointer (some ⟨LB,0,none⟩)],.bool false,.bool false,.string ⟨l.toArray⟩,.slice vo n vc,.string ⟨l.toArray⟩,.slice uo m uc,.func (.func 65) #[] #[.pointer (some ⟨EB,0,none⟩)],.int .i64 x.1,.bool x.2,undef,undef,undef,undef,undef,undef,undef,undef,undef,undef,undef,undef,undef,undef,undef,undef,undef,undef,undef,undef,undef,undef,undef,undef,undef,undef,undef,undef,undef,undef,undef,undef,undef,undef,undef,undef,undef,undef,undef,undef,undef,undef,undef,undef,undef,undef,undef,undef,undef,undef,undef,undef,undef,undef,undef,undef,undef,undef,undef,undef,undef,undef,undef,undef,undef,undef,undef,undef,undef,undef,undef,undef,undef,undef,undef,undef,undef,undef,undef,undef,undef,undef,undef,undef,undef,undef,undef,undef,undef,undef,undef,undef],defers:=[]})
  (fun _ _ _ _ _ _ h _ _=>h) ?assign ?body ?done ?stop
 case own=>
  rintro pre Q C row ⟨k0,k1⟩ hg hr;have hq:=HS.o;exact⟨k0.grown hg k0.size (fun k hk=>by have:=(hr k hk).1;omega),k1.kept hg (fun e=>by have:=(hr _ e.symm).1;omega)⟩
 case ownx=>exact fun _ _ _ _ _ h _ _=>h
 case assign=>
  intro lp pre x V K _ hI hK
  dsimp only[zoz]
  gi_wp2;exact hK _ _ (sU _ _) (Kt.refl _) hI rfl
 case body=>
  rintro lp pre x a' V hlp hrec ⟨kb,k9⟩ rfl hsp;rw[HCh.o]at hsp;obtain⟨Rx,hRx⟩:=hsp;have hTk:(P.map qR)[pre.length]?=some x:=by rw[<- hRx];simp
  obtain⟨k,hk⟩:=am pre.length;have HPL:ae ((pre++[x]).length=k+1):=aa (by rw[hk];simp)
  rw[<- hk]at hTk k9;rw[tj]at hTk;obtain⟨y,hy,hyx⟩:∃y,P[k]?=some y/\qR y=x:=by
   cases hq:P[k]? with
   |none=>rw[hq]at hTk;cases hTk
   |some y=>rw[hq]at hTk;cases hTk;exact⟨y,rfl,rfl⟩
  obtain⟨f,mm⟩:=y;subst hyx;have hkm:k<n:=by have:=(ta.1 hy).1;have:=HN.o;omega
  have HLV:=aa (HLA.o.below kb);obtain⟨g,hvo,_,cf,cm⟩:=HLV.o.rd k _ hy;subst hvo
  dsimp only[qR]at cf cm⊢
  have c7:V.cell? ⟨b7,0,none⟩=some (.slice (some ⟨g,0,none⟩) n vc):=HLV.o.row.one;have c9:V.cell? ⟨b9,0,none⟩=some (.int .i64 (k:Nat)):=k9.one;have z9:=k9.frozen 0;have c3:V.cell? ⟨w.heap.size,0,none⟩=some (.int .i64 st):=HLV.o.stop.one;have c5:=HLV.o.f5.one;have hkmi:¬(n:Int)<=(k:Int):=by omega
  have hk0:(0:Int)<=(k:Int):=by omega
  have hkl:(k:Int)<(n:Int):=by omega
  have hn0:(0:Int)<(n:Int):=by omega
  have xf:((f:Int) != (f:Int))=false:=bne_eq_false_iff_eq.2 rfl;have xm:(mm != mm)=false:=by simp
  obtain⟨k1,hk1⟩:=am (k+1);rw[<- hk1]at HPL;have hkw:(k:Int)+1=(k1:Int):=by omega
  have hkwr:tc.wrap (k1:Int)=(k1:Int):=by rw[tf];omega
  have HKB:=aa kb;have HK9:=aa k9;have HFin:ae (∀U,sS V.heap.size V U->KeepsFrom w9.heap.size V (U.setCell ⟨b9,0,none⟩ (.int .i64 (k1:Int)))/\Kt V (U.setCell ⟨b9,0,none⟩ (.int .i64 (k1:Int)))/\sS wA.heap.size wA (U.setCell ⟨b9,0,none⟩ (.int .i64 (k1:Int)))/\Pw.Cb (U.setCell ⟨b9,0,none⟩ (.int .i64 (k1:Int))) b9 #[.int .i64 ((pre++[((f:Int),mm)]).length:Nat)] 3):=aa (fun U hU=>by
   have hS9:=HS.o;have h2:=HLV.o.e.tb.two;have h20:=HLA.o.e.tb.two;refine⟨(sV (grown_below hU) (fun r e=>by cases e)).trans (sV (tp _ _ _) (fun r e=>by cases e;show b9<w9.heap.size;omega)),znG h2 HK9.o (by omega) hU,(HKB.o.trans (hU.mono HKB.o.size)).setCell (by show wA.heap.size<=b9;omega) _,?_⟩
   rw[show(pre++[((f:Int),mm)]).length=k1 from HPL.o]
   exact(HK9.o.below hU).set 0 _)
  clear hTk hy hkm kb k9 hRx hk1 hk;obtain⟨r0,hr0⟩:=hrec
  by_cases hst:st=(k:Int)
  ·subst hst
   have HR0:=aa hr0;clear hr0;gi_wp2_with fail;clear c7 c9 z9 c3 c5 cf cm;refine zjj rfl HR0.o (by omega) rfl trivial (enters_of Tryz.func65 (by kernel_rfl) rfl) (zqc (zaR 17 (by omega) EB l V HLV.o.e (by omega))) (fun _=>zkN) (zrK HLV.o.e.tb.two) (sR _ _) (fun _=>rfl)
    (fun pre2 U=>pre2=[]/\sS V.heap.size V U)
    (fun c _ U=>c=.exit 2/\sS V.heap.size V U) ?own2 ?ownx2 ⟨rfl,sR _ _⟩
    (fun(x2:Int×Bool) a2 _=>a2={tmps:=#[.string ⟨l.toArray⟩,.int .i64 (k:Nat),undef,.pointer (some ⟨w.heap.size,0,none⟩),.pointer (some ⟨N1,0,none⟩),.pointer (some ⟨b5,0,none⟩),.pointer (some ⟨b6,0,none⟩),.pointer (some ⟨b7,0,none⟩),.pointer (some ⟨b8,0,none⟩),.pointer (some ⟨b9,0,none⟩),.int .i64 (f:Nat),.bool mm,.int .i64 x2.1,undef,undef,undef,undef,undef,.string ⟨l.toArray⟩,.int .i64 (l.length:Nat),.bool false,undef,.string ⟨l.toArray⟩,.func (.func 65) #[] #[.pointer (some ⟨EB,0,none⟩)],.string ⟨l.toArray⟩,.func (.func 66) #[] #[.pointer (some ⟨LB,0,none⟩)],.func (.func 65) #[] #[.pointer (some ⟨EB,0,none⟩)],.bool false,.bool false,.func (.func 66) #[] #[.pointer (some ⟨LB,0,none⟩)],.bool false,.bool false,.string ⟨l.toArray⟩,.slice (some ⟨g,0,none⟩) n vc,.string ⟨l.toArray⟩,.slice uo m uc,.func (.func 65) #[] #[.pointer (some ⟨EB,0,none⟩)],.int .i64 (f:Nat),.bool mm,.int .i64 (k:Nat),.slice (some ⟨g,0,none⟩) n vc,.int .i64 (n:Nat),.bool false,.bool false,.int .i64 (f:Nat),.slice (some ⟨g,0,none⟩) n vc,.int .i64 (k:Nat),.pointer (some ⟨g,k*2,none⟩),.pointer (some ⟨g,k*2,none⟩),.int .i64 (f:Nat),.bool false,.bool false,.bool false,.bool mm,.slice (some ⟨g,0,none⟩) n vc,.int .i64 (k:Nat),.pointer (some ⟨g,k*2,none⟩),.pointer (some ⟨g,k*2+1,none⟩),.bool mm,.bool false,.bool false,.int .i64 (k:Nat),.int .i64 (k:Nat),.bool true,.func (.func 65) #[] #[.pointer (some ⟨EB,0,none⟩)],.int .i64 x2.1,.bool x2.2,undef,undef,undef,undef,undef,undef,undef,undef,undef,undef,undef,undef,undef,undef,undef,undef,undef,undef,undef,undef,undef,undef,undef,undef,undef,undef,undef,undef,undef,undef,undef,undef,undef,undef,undef,undef,undef,undef,undef,undef,undef,undef,undef,undef,undef,undef,undef,undef,undef,undef,undef,undef,undef,undef,undef,undef,undef,undef,undef,undef,undef,undef,undef,undef],defers:=[]})
    (fun _ _ _ _ _ _ h _ _=>h) ?assign2 ?body2 ?done2 ?stop2
   case own2=>
    rintro pre2 Q C row ⟨h0,k0⟩ hg hr;exact⟨h0,k0.grown hg k0.size (fun k hk=>(hr k hk).1)⟩
   case ownx2=>
    rintro c pre2 Q C row ⟨h0,k0⟩ hg hr;exact⟨h0,k0.grown hg k0.size (fun k hk=>(hr k hk).1)⟩
   case assign2=>
    intro lp2 pre2 x2 U K _ hI hK
    dsimp only[zoz]
    gi_wp2;exact hK _ _ (sU _ _) (Kt.refl _) hI rfl
   case body2=>
    rintro lp2 pre2 x2 a2 U hlp2 _ ⟨rfl,ub⟩ rfl hsp2;rw[HCh.o]at hsp2;obtain⟨Ry,hRy⟩:=hsp2;have hT0:(P.map qR)[0]?=some x2:=by rw[<- hRy];rfl
    rw[tj]at hT0;obtain⟨y2,hy2,hyx2⟩:∃y,P[0]?=some y/\qR y=x2:=by
     cases hq:P[0]? with
     |none=>rw[hq]at hT0;cases hT0
     |some y=>rw[hq]at hT0;cases hT0;exact⟨y,rfl,rfl⟩
    obtain⟨f2,m2⟩:=y2;subst hyx2;have HLq:=aa (HLV.o.below ub);obtain⟨g2,hg2,_,cf2,_⟩:=HLq.o.rd 0 _ hy2
    cases hg2
    rw[Nat.zero_mul]at cf2
    dsimp only[qR]at cf2⊢
    have c7q:U.cell? ⟨b7,0,none⟩=some (.slice (some ⟨g,0,none⟩) n vc):=HLq.o.row.one;have xf2:((f2:Int) != (f2:Int))=false:=bne_eq_false_iff_eq.2 rfl;have HUb:=aa ub;clear hRy hT0 hy2 ub;gi_wp2;exact⟨sU _ _,rfl,HUb.o⟩
   case done2=>
    rintro xs U iA ⟨h,_⟩;rw[HCh.o]at iA;have h1:=congrArg List.length iA;rw[h,tq,<- HN.o]at h1;exact absurd h1 (by simp;omega)
   case stop2=>
    rintro c pre2 U _ ⟨rfl,ub⟩;have h9:=HK9.o.below ub;have c9q:U.cell? ⟨b9,0,none⟩=some (.int .i64 (k:Nat)):=h9.one;have z9q:=h9.frozen 0;have HUb:=aa ub;clear ub h9;gi_wp2;exact HFin.o U HUb.o
  ·have hst2:¬(k:Int)=st:=fun e=>hst e.symm
   gi_wp2;exact HFin.o V (sR _ _)
 case done=>
  rintro Dd xs V hDd iA ⟨kb,k9⟩ hK;rw[iA,HCh.o,tq,<- HN.o]at k9;have HLV:=aa (HLA.o.below kb);have HBV:=aa (HBA.o.trans (kb.mono HBA.o.size));have hDl:=(sW.1 hK).1;have HDd:=aa (sY hDd hDl);have HKd:=aa hK;have HK9:=aa k9;have hVs:w9.heap.size<=V.heap.size:=Nat.le_of_lt (Nat.lt_of_le_of_lt hDd hDl);have HVs:=aa hVs;obtain⟨w13,hw13⟩:=am (V.alloc (.cells #[.int .i64 0] 3));have q13:sS V.heap.size V w13:=by rw[hw13];exact(sR _ _).alloc (sT _) _
  have r13:Pw.Cb w13 V.heap.size #[.int .i64 0] 3:=by rw[hw13];exact Pw.Cb.new _ _ _
  have hs13:w13.heap.size=V.heap.size+1:=by rw[hw13];simp
  have HL13:=aa (HLV.o.below q13);have c6:=HL13.o.f6.one;rw[hw13]at c6;obtain⟨b13,hb13⟩:=am V.heap.size;rw[<- hb13]at r13;have H13:=aa r13;have HQ13:=aa q13;have HS13:ae (b13=V.heap.size/\w13.heap.size=b13+1):=aa ⟨hb13,by omega⟩
  have HW13:=aa hw13;clear kb k9 hDd hDl hK hVs hw13 q13 r13 hs13 hb13;gi_wp2_with fail;rw[<- HW13.o,<- HS13.o.1];clear c6 HW13;refine zsQ rfl (by omega) rfl trivial (enters_of Tryz.func66 (by kernel_rfl) rfl) (zhS 19 LB l w13 (by omega) HL13.o.e2 (by omega)) zxW (zxX HL13.o.e.tb.two) (sR _ _) (fun _=>rfl)
   (fun pre U=>sS V.heap.size V U/\Pw.Cb U b13 #[.int .i64 (pre.length*2:Nat)] 3)
   (fun _ _ _=>False) ?ownB ?ownxB ⟨HQ13.o,H13.o⟩
   (fun x a' _=>a'={tmps:=#[.string ⟨l.toArray⟩,.int .i64 st,undef,.pointer (some ⟨w.heap.size,0,none⟩),.pointer (some ⟨N1,0,none⟩),.pointer (some ⟨b5,0,none⟩),.pointer (some ⟨b6,0,none⟩),.pointer (some ⟨b7,0,none⟩),.pointer (some ⟨b8,0,none⟩),.pointer (some ⟨b9,0,none⟩),undef,undef,undef,.pointer (some ⟨b13,0,none⟩),.int .i64 x.1,.int .i64 x.2,undef,undef,.string ⟨l.toArray⟩,.int .i64 (l.length:Nat),.bool false,undef,.string ⟨l.toArray⟩,.func (.func 65) #[] #[.pointer (some ⟨EB,0,none⟩)],.string ⟨l.toArray⟩,.func (.func 66) #[] #[.pointer (some ⟨LB,0,none⟩)],.func (.func 65) #[] #[.pointer (some ⟨EB,0,none⟩)],.bool false,.bool false,.func (.func 66) #[] #[.pointer (some ⟨LB,0,none⟩)],.bool false,.bool false,.string ⟨l.toArray⟩,.slice vo n vc,.string ⟨l.toArray⟩,.slice uo m uc,.func (.func 65) #[] #[.pointer (some ⟨EB,0,none⟩)],undef,undef,undef,undef,undef,undef,undef,undef,undef,undef,undef,undef,undef,undef,undef,undef,undef,undef,undef,undef,undef,undef,undef,undef,undef,undef,undef,undef,undef,undef,undef,undef,undef,undef,undef,undef,undef,undef,.func (.func 66) #[] #[.pointer (some ⟨LB,0,none⟩)],.int .i64 x.1,.int .i64 x.2,undef,undef,undef,undef,undef,undef,undef,undef,undef,undef,undef,undef,undef,undef,undef,undef,undef,undef,undef,undef,undef,undef,undef,undef,undef,undef,undef,undef,undef,undef,undef,undef,undef,undef,undef,undef,undef,undef,undef,undef,undef,undef,undef,undef,undef,undef,undef,undef,undef,undef,undef,undef,undef],defers:=[]})
   (fun _ _ _ _ _ _ h _ _=>h) ?assignB ?bodyB ?doneB ?stopB
  case ownB=>
   rintro pre Q C row ⟨k0,k1⟩ hg hr;have hq:=HS13.o;exact⟨k0.grown hg k0.size (fun k hk=>by have:=hr k hk;omega),k1.kept hg (fun e=>by have:=hr _ e.symm;omega)⟩
  case ownxB=>exact fun _ _ _ _ _ h _ _=>h
  case assignB=>
   intro lp pre x U K _ hI hK
   dsimp only[zoy]
   gi_wp2;exact hK _ _ (sU _ _) (Kn.refl _ _) hI rfl
  case bodyB=>
   rintro lp pre ⟨xa,xb⟩ a' U hlp hrec ⟨kb,k13⟩ rfl hsp;obtain⟨Rx,hRx⟩:=hsp;have hTk:(jd 0 (oz l 0))[pre.length]?=some (xa,xb):=by rw[<- hRx];simp
   obtain⟨za,zb⟩:=HZp.o _ _ hTk;obtain⟨q,hq⟩:=am (pre.length*2);obtain⟨q1,hq1⟩:=am (q+1);obtain⟨q2,hq2⟩:=am (q+2);have HPL:ae ((pre++[(xa,xb)]).length*2=q2):=aa (by rw[hq2,hq];simp;omega)
   rw[<- hq]at za zb k13;rw[<- hq1]at zb;have hqm:=(ta.1 zb).1;rw[<- HM.o]at hqm;have HLU:=aa (HLV.o.below kb);obtain⟨g,hg⟩:∃g,uo=some ⟨g,0,none⟩:=by
    rcases HUO.o with h|h
    ·omega
    ·exact h
   subst hg;have ca:U.cell? ⟨g,q,none⟩=some (.int .i64 xa):=by
    obtain⟨a,h1,_,h3⟩:=HLU.o.rz q xa za
    cases h1
    rw[Addr.add_lit,tn]at h3;exact h3
   have cb:U.cell? ⟨g,q1,none⟩=some (.int .i64 xb):=by
    obtain⟨a,h1,_,h3⟩:=HLU.o.rz q1 xb zb
    cases h1
    rw[Addr.add_lit,tn]at h3;exact h3
   have c8:U.cell? ⟨b8,0,none⟩=some (.slice (some ⟨g,0,none⟩) m uc):=HLU.o.lns.one;have c13:U.cell? ⟨b13,0,none⟩=some (.int .i64 (q:Nat)):=k13.one;have z13:=k13.frozen 0;have c3:U.cell? ⟨w.heap.size,0,none⟩=some (.int .i64 st):=HLU.o.stop.one;have c6:=HLU.o.f6.one;have hw1:(q:Int)+1=(q1:Int):=by omega
   have hw1r:tc.wrap (q1:Int)=(q1:Int):=by rw[tf];omega
   have hw2:(q:Int)+2=(q2:Int):=by omega
   have hw2r:tc.wrap (q2:Int)=(q2:Int):=by rw[tf];omega
   have h1m:¬(m:Int)<=(q1:Int):=by omega
   have h1l:(q1:Int)<(m:Int):=by omega
   have h10:(0:Int)<=(q1:Int):=by omega
   have hql:(q:Int)<(m:Int):=by omega
   have hq0:(0:Int)<=(q:Int):=by omega
   have hm1:(1:Int)<(m:Int):=by omega
   have xfa:(xa != xa)=false:=bne_eq_false_iff_eq.2 rfl;have xfb:(xb != xb)=false:=bne_eq_false_iff_eq.2 rfl;obtain⟨s2,hs2⟩:=am (tc.wrap (2*st));have hmul:tc.wrap (2*st)=s2:=hs2.symm;have HKB:=aa kb;have HK13:=aa k13;have HLP:=aa hlp;have HFin:ae (∀U2,sS U.heap.size U U2->KeepsFrom w13.heap.size U (U2.setCell ⟨b13,0,none⟩ (.int .i64 (q2:Int)))/\Kn (lp+1) U (U2.setCell ⟨b13,0,none⟩ (.int .i64 (q2:Int)))/\sS V.heap.size V (U2.setCell ⟨b13,0,none⟩ (.int .i64 (q2:Int)))/\Pw.Cb (U2.setCell ⟨b13,0,none⟩ (.int .i64 (q2:Int))) b13 #[.int .i64 ((pre++[(xa,xb)]).length*2:Nat)] 3):=aa (fun U2 hU=>by
    have hS:=HS13.o;have h2:=HLU.o.e.tb.two;have h20:=HLV.o.e.tb.two;have hlp':=HLP.o;refine⟨(sV (grown_below hU) (fun r e=>by cases e)).trans (sV (tp _ _ _) (fun r e=>by cases e;show b13<w13.heap.size;omega)),⟨znG h2 HK13.o (by omega) hU,fun k hk1 hk2=>(sZ _ _ _ k (by show k≠b13;omega)).trans (hU.block k hk2)⟩,(HKB.o.trans (hU.mono HKB.o.size)).setCell (by show V.heap.size<=b13;omega) _,?_⟩
    rw[HPL.o];exact(HK13.o.below hU).set 0 _)
   clear hTk za zb hqm kb k13 hRx hq hq1 hq2 hlp hs2;obtain⟨r0,hr0⟩:=hrec
   by_cases hst:s2=(q:Int)
   ·subst hst
    have HR0:=aa hr0;clear hr0;gi_wp2_with fail;clear c8 c13 z13 c3 c6 ca cb;refine zji rfl HR0.o (by omega) rfl trivial (enters_of Tryz.func66 (by kernel_rfl) rfl) (zqb (zhS 17 LB l U (by omega) HLU.o.e2 (by omega))) zxW (zxX HLU.o.e.tb.two) (sR _ _) (fun _=>rfl)
     (fun pre2 U2=>pre2=[]/\sS U.heap.size U U2)
     (fun c _ U2=>c=.exit 6/\sS U.heap.size U U2) ?own2 ?ownx2 ⟨rfl,sR _ _⟩
     (fun(x2:Int×Int) a2 _=>a2={tmps:=#[.string ⟨l.toArray⟩,.int .i64 st,undef,.pointer (some ⟨w.heap.size,0,none⟩),.pointer (some ⟨N1,0,none⟩),.pointer (some ⟨b5,0,none⟩),.pointer (some ⟨b6,0,none⟩),.pointer (some ⟨b7,0,none⟩),.pointer (some ⟨b8,0,none⟩),.pointer (some ⟨b9,0,none⟩),undef,undef,undef,.pointer (some ⟨b13,0,none⟩),.int .i64 xa,.int .i64 xb,.int .i64 x2.1,.int .i64 x2.2,.string ⟨l.toArray⟩,.int .i64 (l.length:Nat),.bool false,undef,.string ⟨l.toArray⟩,.func (.func 65) #[] #[.pointer (some ⟨EB,0,none⟩)],.string ⟨l.toArray⟩,.func (.func 66) #[] #[.pointer (some ⟨LB,0,none⟩)],.func (.func 65) #[] #[.pointer (some ⟨EB,0,none⟩)],.bool false,.bool false,.func (.func 66) #[] #[.pointer (some ⟨LB,0,none⟩)],.bool false,.bool false,.string ⟨l.toArray⟩,.slice vo n vc,.string ⟨l.toArray⟩,.slice (some ⟨g,0,none⟩) m uc,.func (.func 65) #[] #[.pointer (some ⟨EB,0,none⟩)],undef,undef,undef,undef,undef,undef,undef,undef,undef,undef,undef,undef,undef,undef,undef,undef,undef,undef,undef,undef,undef,undef,undef,undef,undef,undef,undef,undef,undef,undef,undef,undef,undef,undef,undef,undef,undef,undef,.func (.func 66) #[] #[.pointer (some ⟨LB,0,none⟩)],.int .i64 xa,.int .i64 xb,.int .i64 (q:Nat),.int .i64 (q1:Nat),.slice (some ⟨g,0,none⟩) m uc,.int .i64 (m:Nat),.bool false,.bool false,.int .i64 xa,.slice (some ⟨g,0,none⟩) m uc,.int .i64 (q:Nat),.pointer (some ⟨g,q,none⟩),.int .i64 xa,.bool false,.bool false,.bool false,.int .i64 xb,.slice (some ⟨g,0,none⟩) m uc,.int .i64 (q:Nat),.int .i64 (q1:Nat),.pointer (some ⟨g,q1,none⟩),.int .i64 xb,.bool false,.bool false,.int .i64 (q:Nat),.int .i64 st,.int .i64 (q:Nat),.bool true,.func (.func 66) #[] #[.pointer (some ⟨LB,0,none⟩)],.int .i64 x2.1,.int .i64 x2.2,undef,undef,undef,undef,undef,undef,undef,undef,undef,undef,undef,undef,undef,undef,undef,undef,undef,undef,undef,undef,undef,undef,undef,undef],defers:=[]})
     (fun _ _ _ _ _ _ h _ _=>h) ?assign2 ?body2 ?done2 ?stop2
    case own2=>
     rintro pre2 Q C row ⟨h0,k0⟩ hg hr;exact⟨h0,k0.grown hg k0.size (fun k hk=>hr k hk)⟩
    case ownx2=>
     rintro c pre2 Q C row ⟨h0,k0⟩ hg hr;exact⟨h0,k0.grown hg k0.size (fun k hk=>hr k hk)⟩
    case assign2=>
     intro lp2 pre2 x2 U2 K _ hI hK
     dsimp only[zoy]
     gi_wp2;exact hK _ _ (sU _ _) (Kn.refl _ _) hI rfl
    case body2=>
     rintro lp2 pre2 ⟨xa2,xb2⟩ a2 U2 hlp2 _ ⟨rfl,ub⟩ rfl hsp2;obtain⟨Ry,hRy⟩:=hsp2;have hT0:(jd 0 (oz l 0))[0]?=some (xa2,xb2):=by rw[<- hRy];rfl
     have ha0:xa2=0:=zcQ _ _ _ hT0;subst ha0;obtain⟨_,zb2⟩:=HZp.o _ _ hT0;have HLq:=aa (HLU.o.below ub);have cb2:U2.cell? ⟨g,1,none⟩=some (.int .i64 xb2):=by
      obtain⟨a,h1,_,h3⟩:=HLq.o.rz 1 xb2 zb2
      cases h1
      rw[Addr.add_lit,tn]at h3;exact h3
     have c8q:U2.cell? ⟨b8,0,none⟩=some (.slice (some ⟨g,0,none⟩) m uc):=HLq.o.lns.one;have xb2f:(xb2 != xb2)=false:=bne_eq_false_iff_eq.2 rfl;have HUb:=aa ub;clear hRy hT0 zb2 ub;gi_wp2;exact⟨sU _ _,rfl,HUb.o⟩
    case done2=>
     rintro xs2 U2 hxs2 ⟨h,_⟩;have h1:=HZl.o;rw[<- hxs2,h]at h1;exact absurd h1 (by simp;omega)
    case stop2=>
     rintro c pre2 U2 _ ⟨rfl,ub⟩;have h9:=HK13.o.below ub;have c9q:U2.cell? ⟨b13,0,none⟩=some (.int .i64 (q:Nat)):=h9.one;have z9q:=h9.frozen 0;have HUb:=aa ub;clear ub h9;gi_wp2;exact HFin.o U2 HUb.o
   ·have hst2:¬(q:Int)=s2:=fun e=>hst e.symm
    gi_wp2;exact HFin.o U (sR _ _)
  case doneB=>
   rintro D2 xs2 U hD2 hxs2 ⟨kb,k13⟩ hK2;have hmz:xs2.length*2=m:=by rw[hxs2];have:=HZl.o;omega
   rw[hmz]at k13;have HLU:=aa (HLV.o.below kb);have HBU:=aa (HBV.o.trans (kb.mono HBV.o.size));have hDl2:=(sW.1 hK2).1;have HD2:=aa (sY hD2 hDl2);have HKd2:=aa hK2;have HKd1:=aa ((kb.block Dd HDd.o.2).trans HKd.o);have c9:U.cell? ⟨b9,0,none⟩=some (.int .i64 (n:Nat)):=(HK9.o.below kb).one;have c7:U.cell? ⟨b7,0,none⟩=some (.slice vo n vc):=HLU.o.row.one;have c13:U.cell? ⟨b13,0,none⟩=some (.int .i64 (m:Nat)):=k13.one;have c8:U.cell? ⟨b8,0,none⟩=some (.slice uo m uc):=HLU.o.lns.one;have en:((n:Int)==(n:Int))=true:=by simp
   have em:((m:Int)==(m:Int))=true:=by simp
   clear kb k13 hD2 hDl2 hK2 hmz;gi_wp2_with fail;refine⟨trivial,(sX.2 (HL0.o U HBU.o)).mono ?_⟩;rintro e v5 ⟨rfl,be⟩;have b4:=HLU.o.res.below be;rw[<- HS.o.1]at b4;have c5:=b4.one;have z5:=b4.frozen 0;obtain⟨v6,hv6⟩:=am (v5.setCell ⟨N1,0,none⟩ (.bool true));have HR:ae (Pw.Cb v6 N1 #[.bool true] 4):=aa (by rw[hv6];exact b4.set 0 _)
   have HBR:=aa (show sS w.heap.size w v6 by
    have h1:sS w.heap.size w v5:=HBU.o.trans (be.mono HBU.o.size);rw[hv6];exact h1.setCell (by show w.heap.size<=N1;have:=HS.o;omega) _)
   have hUd:Dd<U.heap.size:=(sW.1 HKd1.o).1;have HM6:ae (zpp [D2,Dd] w9.heap.size v6):=aa ⟨fun d hd=>by
    rw[hv6];have hS:=HS.o;have hS13:=HS13.o;have hV:=HVs.o
    rcases tt.1 hd with rfl|hd
    ·exact((sZ _ _ _ d (by show d≠N1;have:=HD2.o.1;omega)).trans (be.block d HD2.o.2)).trans HKd2.o
    ·obtain rfl:=ti.1 hd
     exact((sZ _ _ _ d (by show d≠N1;have:=HDd.o.1;omega)).trans (be.block d hUd)).trans HKd1.o,fun d hd=>by
    have hS13:=HS13.o;have hV:=HVs.o
    rcases tt.1 hd with rfl|hd
    ·have:=HD2.o.1;omega
    ·obtain rfl:=ti.1 hd
     exact HDd.o.1,by
    have hS13:=HS13.o;have h1:=HD2.o.1;have h2:=HDd.o.2
    simp
    omega⟩
   have h9:w.heap.size<=w9.heap.size:=by have:=HS.o;omega
   clear be b4 c9 c7 c13 c8 en em hUd;gi_wp2_with fail;rw[<- hv6];clear hv6 c5 z5;exact gL 20 w9.heap.size [D2,Dd] v6 HM6.o (fun w' hs=>⟨_,gD rfl _ _ _ _ rfl (hs.cells _ _ HR.o rfl),rfl,HBR.o.trans (hs.low.mono h9)⟩)
  case stopB=>
   rintro D0 c pre U _ _ h _;exact h.elim
 case stop=>
  rintro D0 c pre V _ _ h _;exact h.elim
theorem zqK(l:List UInt8)(st:Int)(w:td)(ht:Tb w)(hv:Ev.Tbs tabs w):
  Calls Tryz.prog 9 #[.string ⟨l.toArray⟩,.int .i64 st] w fun e w'=>e=.returned (.bool true)/\sS w.heap.size w w':=sX.1 (zxC l st w ht hv)
end Ln
end Go.Proofs.YtbbapnpdfcgjnaaGreatDoor
