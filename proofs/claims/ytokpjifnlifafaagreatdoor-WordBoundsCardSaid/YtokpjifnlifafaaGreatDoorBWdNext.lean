/- WdNext, WdEach: parts of the proof, joined. -/
import Derived.RangeFuncBound
import Derived.Shelf.RegionOpen
import Derived.OwnWalkIn
import Derived.LoopNIn
import Derived.LoopIn
import Derived.Test.YtokpjifnlifafaaGreatDoorBWdFun1
set_option maxHeartbeats 64000000
namespace Go.Proofs.YtokpjifnlifafaaGreatDoor
namespace Wd
open Go.RowKit Go.Shelf
attribute [local go_sem] Oper.semAt_some
theorem bgF_zero (l:List UInt8) (h:l≠ []):bgF l 0 4=0:=by
 have h1:=dec_ge l h;unfold bgF
 simp only[Nat.not_lt_zero,if_false,Nat.sub_self,List.drop_zero,Nat.zero_add]
 split
 ·rw[if_pos (by omega)]
 ·unfold bgF;simp
theorem back_one (l:List UInt8) (w:World) (ht:TbW w) (h:l≠ []) (hl:l.length<=1000000000):
  Calls Tryz.prog 50 #[.string ⟨l.toArray⟩,.int .i64 1] w fun e w'=>e= .returned (.int .i64 0)/\Below w.heap.size w w':=by
 have HT:=hid ht;have hp:0<l.length:=List.length_pos_iff.2 h;have HZ:=hid (bgF_zero l h);have c1:¬((l.length:Int)<1):=by omega
 clear ht h;go_enter Tryz.func50,Tryz.ntmps50;go_wp2_with fail;refine(zfz l 0 w hp (by omega) HT.out.tabs HT.out.two).mono ?_
 rintro e w1 ⟨rfl,be⟩;rw[HZ.out];go_wp2;go_ret;exact⟨rfl,be⟩
def wnxF (s:List UInt8):Nat->Nat->Nat
 | 0,_=>s.length
 | f+1,t=>if t<s.length then (if 0<t/\wcut s t=true then t else wnxF s f (t+(dec (s.drop t)).2)) else s.length
theorem zef (s:List UInt8):∀(f g t:Nat),s.length - t<=f->s.length - t<=g->wnxF s f t=wnxF s g t
 | 0,0,t,_,_=>rfl
 | 0,g+1,t,hf,hg=>by unfold wnxF;rw[if_neg (by omega)]
 | f+1,0,t,hf,hg=>by unfold wnxF;rw[if_neg (by omega)]
 | f+1,g+1,t,hf,hg=>by
  unfold wnxF
  by_cases h:t<s.length
  ·have h1:=dec_ge (s.drop t) (zaB _ t h)
   rw[if_pos h,if_pos h,zef s f g (t+(dec (s.drop t)).2) (by omega) (by omega)]
  ·rw[if_neg h,if_neg h]
def wnxT (s:List UInt8) (t:Nat):Nat:=wnxF s (s.length - t) t
theorem zee (s:List UInt8) (t:Nat) (h:¬t<s.length):wnxT s t=s.length:=by
 unfold wnxT;rw[show s.length - t=0 by omega];rfl
theorem zeF (s:List UInt8) (t:Nat) (h:t<s.length) (h0:0<t) (hc:wcut s t=true):wnxT s t=t:=by
 unfold wnxT;rw[zef s _ (s.length - t - 1+1) t (by omega) (by omega)]
 unfold wnxF;rw[if_pos h,if_pos ⟨h0,hc⟩]
theorem zbR (s:List UInt8) (t:Nat) (h:t<s.length) (hc:¬(0<t/\wcut s t=true)):wnxT s t=wnxT s (t+(dec (s.drop t)).2):=by
 have h1:=dec_ge (s.drop t) (zaB _ t h);unfold wnxT;rw[zef s _ (s.length - t - 1+1) t (by omega) (by omega)]
 conv=>lhs;unfold wnxF
 rw[if_pos h,if_neg hc];exact zef s _ _ _ (by omega) (by omega)
def wnx (s:List UInt8):Nat:=wnxT s 0
theorem wnxT_bd (s:List UInt8):∀(n t:Nat),s.length - t<=n->t<=s.length->t<=wnxT s t/\wnxT s t<=s.length
 | 0,t,hn,ht=>by rw[zee s t (by omega)];omega
 | n+1,t,hn,ht=>by
  by_cases hlt:t<s.length
  ·by_cases hc:0<t/\wcut s t=true
   ·rw[zeF s t hlt hc.1 hc.2];omega
   ·have h1:=dec_ge (s.drop t) (zaB _ t hlt)
    have h2:=wdec_le (s.drop t);rw[List.length_drop] at h2;have:=wnxT_bd s n (t+(dec (s.drop t)).2) (by omega) (by omega)
    rw[zbR s t hlt hc];omega
  ·rw[zee s t hlt];omega
theorem wnx_bd (s:List UInt8) (h:s≠ []):0<wnx s/\wnx s<=s.length:=by
 have hp:0<s.length:=List.length_pos_iff.2 h;have h1:=dec_ge (s.drop 0) (zaB _ 0 hp);have h2:=wdec_le (s.drop 0);rw[List.length_drop] at h2;unfold wnx;rw[zbR s 0 hp (fun h=>absurd h.1 (Nat.lt_irrefl 0))]
 have:=wnxT_bd s _ (0+(dec (s.drop 0)).2) (Nat.le_refl _) (by omega)
 omega
theorem wnext_any (s:List UInt8) (w:World) (ht:TbW w) (h:s≠ []) (hl:s.length<=1000000000):
  Calls Tryz.prog 18 #[.string ⟨s.toArray⟩,.int .i64 0] w fun e w'=>e= .returned (.int .i64 (wnx s))/\Below w.heap.size w w':=by
 have HT:=hid ht;have hp:0<s.length:=List.length_pos_iff.2 h;have HNE:=hid h;have HSZ:=hid (show(⟨s.toArray⟩:ByteArray).size=s.length by show s.toArray.size=_;simp)
 have c0:¬((s.length:Int)<=0):=by omega
 clear ht h;go_enter Tryz.func18,Tryz.ntmps18;go_wp2_with fail;refine(back_one s w HT.out HNE.out hl).mono ?_;rintro e w1 ⟨rfl,be⟩;have HB1:=hid be;have HB0:=hid (be.alloc be.size (.stringIter ⟨s.toArray⟩ 0));have HIT0:=hid (World.iter_heap w1 ⟨s.toArray⟩ 0);have hs1:=be.size;clear be;go_wp2;have hex:(⟨s.toArray⟩:ByteArray).extract 0 s.length=⟨s.toArray⟩:=by have:=ext_drop s 0;rw[List.drop_zero] at this;exact this
 try rw[hex]
 clear hex;go_loopw [6] (fun _ wr=>∃t:Nat,Hid (wnx s=wnxT s t)/\Hid (wr.heap[w1.heap.size]? =some (.stringIter ⟨s.toArray⟩ t))/\Hid (Below w.heap.size w wr)) (fun _ wr=>s.length - wr.iterPos w1.heap.size)
 case atStart=>exact⟨0,rfl,HIT0,HB0⟩
 case round=>
  obtain⟨t,HP,HI,HB⟩:=hrel;have hin:w1.heap.size<wr.heap.size:=(Array.getElem?_eq_some_iff.1 HI.out).1
  by_cases hlt:t<s.length
  ·have hnx:=wnext_at (P:=Tryz.prog) wr w1.heap.size ⟨s.toArray⟩ t 0 HI.out (by rw[HSZ.out];exact hlt)
   rw[zbH s t hlt] at hnx;have d1:=dec_ge _ (zaB s t hlt);obtain⟨nn,hnn⟩:∃nn,nn=(dec (s.drop t)).2:=⟨_,rfl⟩;obtain⟨rr,hrr⟩:∃rr,rr=(dec (s.drop t)).1:=⟨_,rfl⟩;rw[<- hnn] at hnx d1;rw[<- hrr] at hnx;have HNN:=hid hnn;obtain⟨w2,hw2⟩:∃w2,w2=wr.putObj w1.heap.size (.stringIter ⟨s.toArray⟩ (t+nn)):=⟨_,rfl⟩;rw[<- hw2] at hnx;have HI1:=hid (show w2.heap[w1.heap.size]? =some (.stringIter ⟨s.toArray⟩ (t+nn)) by rw[hw2];exact World.putObj_heap_same hin)
   have HB2:=hid (show Below w.heap.size w w2 by rw[hw2];exact HB.out.trans ⟨rfl,rfl,rfl,by simp[World.putObj],fun j hj=>World.putObj_heap_other (by omega)⟩)
   have HM:=hid (show s.length - wr.iterPos w1.heap.size=s.length - t by unfold World.iterPos;rw[HI.out])
   have hin1:w1.heap.size<w2.heap.size:=(Array.getElem?_eq_some_iff.1 HI1.out).1;clear hnn hrr hw2 HI HB
   by_cases h0:0<t
   ·have h0i:(0:Int)<(t:Int):=by omega
    go_wp2_with fail
    try rw[Int.zero_add]
    refine(zeh s t w2 (HT.out.below HB2.out) hl (by omega)).mono ?_
    rintro e w3 ⟨rfl,be⟩;have HB3:=hid (HB2.out.trans (be.mono HB2.out.size));have HI2:=hid (show w3.heap[w1.heap.size]? =some (.stringIter ⟨s.toArray⟩ (t+nn)) from(be.block _ hin1).trans HI1.out)
    obtain⟨v,hv⟩:∃v,v=wcut s t:=⟨_,rfl⟩;have HV:=hid hv;rw[<- hv];clear be hv HB2 HI1 hnx
    cases v with
    | true=>
     have HE:=hid (HP.out.trans (zeF s t hlt h0 HV.out.symm));go_wp2;go_ret;exact⟨by rw[HE.out];simp,HB3.out⟩
    | false=>
     have HE:=hid (HP.out.trans (zbR s t hlt (fun h=>by rw[<- HV.out] at h;cases h.2)))
     go_wp2;go_roundw
     case rel=>exact⟨t+nn,(by show _=_;rw[HE.out,HNN.out]),HI2,HB3⟩
     case measure=>
      rw[HM.out];unfold World.iterPos;rw[HI2.out]
      simp only[]
      omega
   ·have h00:t=0:=by omega
    have HE:=hid (HP.out.trans (zbR s t hlt (fun h=>h0 h.1)))
    have HT0:=hid h00;have h0i:¬(0:Int)<(t:Int):=by omega
    clear h00;go_wp2;go_roundw
    case rel=>exact⟨t+nn,(by show _=_;rw[HE.out,HNN.out]),HI1,HB2⟩
    case measure=>
     rw[HM.out];unfold World.iterPos;rw[HI1.out]
     simp only[]
     omega
  ·have hnx:=zdv (P:=Tryz.prog) wr w1.heap.size ⟨s.toArray⟩ t 0 HI.out (by rw[HSZ.out];exact hlt)
   have HE:=hid (HP.out.trans (zee s t hlt));go_wp2;go_ret;exact⟨by rw[HE.out];rfl,HB.out⟩
end Wd
namespace Wd
open Go.RowKit Go.Shelf
attribute [local go_sem] Oper.semAt_some
def wbF (s:List UInt8):Nat->Nat->List (Int × Int)
 | 0,_=>[]
 | f+1,p=>if p<s.length then ((p:Int),((p+wnx (s.drop p):Nat):Int))::wbF s f (p+wnx (s.drop p)) else []
theorem wst (s:List UInt8) (p:Nat) (h:p<s.length):p<p+wnx (s.drop p)/\p+wnx (s.drop p)<=s.length:=by
 have h1:=wnx_bd (s.drop p) (zaB s p h);rw[List.length_drop] at h1;omega
theorem wbF_any (s:List UInt8):∀(f g p:Nat),s.length - p<=f->s.length - p<=g->wbF s f p=wbF s g p
 | 0,0,_,_,_=>rfl
 | 0,g+1,p,hf,hg=>by unfold wbF;rw[if_neg (by omega)]
 | f+1,0,p,hf,hg=>by unfold wbF;rw[if_neg (by omega)]
 | f+1,g+1,p,hf,hg=>by
  unfold wbF
  by_cases h:p<s.length
  ·have:=wst s p h
   rw[if_pos h,if_pos h,wbF_any s f g _ (by omega) (by omega)]
  ·rw[if_neg h,if_neg h]
def wb (s:List UInt8) (p:Nat):List (Int × Int):=wbF s (s.length - p) p
theorem wb_step (s:List UInt8) (p:Nat) (h:p<s.length):wb s p=((p:Int),((p+wnx (s.drop p):Nat):Int))::wb s (p+wnx (s.drop p)):=by
 have:=wst s p h;unfold wb;rw[wbF_any s _ (s.length - p - 1+1) p (by omega) (by omega)]
 conv=>lhs;unfold wbF
 rw[if_pos h,wbF_any s _ (s.length - (p+wnx (s.drop p))) _ (by omega) (by omega)]
theorem wb_end (s:List UInt8) (p:Nat) (h:¬p<s.length):wb s p=[]:=by
 unfold wb;rw[show s.length - p=0 by omega];rfl
theorem wb_len (s:List UInt8):∀(n p:Nat),s.length - p<=n->(wb s p).length<=s.length - p
 | 0,p,h=>by rw[wb_end s p (by omega)];simp
 | n+1,p,h=>by
  by_cases hp:p<s.length
  ·have h1:=wst s p hp
   have h2:=wb_len s n (p+wnx (s.drop p)) (by omega)
   rw[wb_step s p hp,List.length_cons];omega
  ·rw[wb_end s p hp];simp
def KrW (K:Nat->Prop) (W W':World):Prop:=KeepsWalks W W'/\∀k,K k->W'.heap[k]? =W.heap[k]?
theorem KrW_t {K:Nat->Prop} {A B C:World} (h:KrW K A B) (k:KrW K B C):KrW K A C:=⟨h.1.trans k.1,fun i h1=>(k.2 i h1).trans (h.2 i h1)⟩
theorem KrW_b {K:Nat->Prop} {w:World} (hw:∀k,K k->k<w.heap.size) (W:World) (l:Nat) (o o':Obj) (hl:w.heap.size<=l) (h:W.heap[l]? =some o) (_:o.isCells=false) (hk:o.isWalk=false):KrW K W (W.putObj l o'):=
 ⟨KeepsWalks.putObj _ h hk,fun k h2=>World.putObj_heap_other (by have:=hw k h2;omega)⟩
theorem wgrown {w w':World} (h:Below w.heap.size w w'):w.grownBy w' none:=⟨h.os,h.tape,h.output,h.size,fun k hk _=>h.block k hk⟩
def KW (Bs k:Nat):Prop:=k=Bs\/k<2
structure WaAt (Bs:Nat) (l:List UInt8) (w:World):Prop where
 bs:Boxed w Bs 9 (.string ⟨l.toArray⟩)
 tb:TbW w
theorem WaAt.lt {Bs:Nat} {l:List UInt8} {w:World} (h:WaAt Bs l w):∀k,KW Bs k->k<w.heap.size:=fun k hk=>by
 rcases hk with rfl | hk
 ·exact h.bs.lt
 ·exact Nat.lt_of_lt_of_le hk h.tb.two
theorem WaAt.keeps {Bs:Nat} {l:List UInt8} {w w':World} (h:WaAt Bs l w) (hs:w.heap.size<=w'.heap.size) (hk:∀k,KW Bs k->w'.heap[k]? =w.heap[k]?):WaAt Bs l w' where
 bs:=(hk Bs (.inl rfl)).trans h.bs
 tb:=⟨⟨fun c hc=>(World.cell?_of_block (w:=w) (a:=⟨0,c,none⟩) (hk 0 (.inr (by decide)))).trans (h.tb.tabs.1 c hc),fun i hi=>⟨(World.cell?_of_block (w:=w) (a:=⟨1,2 * i,none⟩) (hk 1 (.inr (by decide)))).trans (h.tb.tabs.2 i hi).1,(World.cell?_of_block (w:=w) (a:=⟨1,2 * i+1,none⟩) (hk 1 (.inr (by decide)))).trans (h.tb.tabs.2 i hi).2⟩⟩,Nat.le_trans h.tb.two hs⟩
theorem WaAt.below {Bs:Nat} {l:List UInt8} {w w':World} (h:WaAt Bs l w) (hb:Below w.heap.size w w'):WaAt Bs l w':=
 h.keeps hb.size (fun k h2=>hb.block k (h.lt k h2))
def encW (x:Int × Int):Array Value:=#[.int .i64 x.1,.int .i64 x.2]
theorem weach_stops (n:Nat) (hn:1<=n) (Bs:Nat) (l:List UInt8) (w:World) (hR:WaAt Bs l w) (hl:l.length<=1000000000):
  SeqStopsK Fence.wide n Tryz.prog 51 #[.pointer (some ⟨Bs,0,none⟩)] encW (KrW (KW Bs)) (fun xs=>xs=wb l 0) (fun pre=>pre<+:wb l 0) (wb l 0).length w:=fun lp J Jx W hbW hJ hJx hY h0=>by
 have HRW:=hid (hR.below hbW);have hcW:=HRW.out.bs.cell;clear hR hbW;refine callsIn_of_wp Tryz.func51 rfl trivial ?_ rfl
 simp only[Tryz.ntmps51,List.size_toArray,List.length_cons,List.length_nil,Nat.reduceAdd,Nat.reduceSub,Array.replicate_succ,Array.replicate_zero,List.push_toArray,List.append_toArray,List.nil_append,List.cons_append]
 gi_wp2;gi_loopw [3] (fun v wr=>∃(p:Nat) (pre:List (Int × Int)),v= .int .i64 p/\p<=l.length/\Hid (wb l 0=pre++wb l p)/\Hid (J pre wr)/\Hid (WaAt Bs l wr)) (fun v _=>l.length - (intOf v).toNat)
 case atStart=>exact⟨0,[],rfl,Nat.zero_le _,by simp[Hid],h0,HRW⟩
 case round=>
  obtain⟨p,pre,rfl,hp,HP,HJ,HR⟩:=hrel;clear hcW;have hc:=HR.out.bs.cell
  by_cases hlt:p<l.length
  ·have hlti:(p:Int)<(l.length:Int):=by omega
   obtain⟨hb1,hb2⟩:=wst l p hlt;have HST:=hid (wb_step l p hlt);have HDN:=hid (zaB l p hlt);have HDL:=hid (show(l.drop p).length<=1000000000 by rw[List.length_drop];omega)
   gi_wp2_with fail;rw[ext_drop];refine⟨trivial,(callsIn_wide.2 (wnext_any (l.drop p) wr HR.out.tb HDN.out HDL.out)).mono ?_⟩;rintro e w1 ⟨rfl,be1⟩;have HJ1:=hid (hJ pre wr w1 none HJ.out (wgrown be1) (fun r e=>by cases e))
   have HR1:=hid (HR.out.below be1);obtain⟨q,hq⟩:∃q,q=wnx (l.drop p):=⟨_,rfl⟩;rw[<- hq] at hb1 hb2 HST;rw[<- hq];clear be1 hq HJ HR hc;have HP2:=hid (show wb l 0=(pre++[((p:Int),((p+q:Nat):Int))])++wb l (p+q) by rw[HP.out,HST.out,List.append_assoc];rfl)
   obtain⟨fn,tmps,assign,body,hy,hRR⟩:=hY pre ((p:Int),((p+q:Nat):Int)) w1 HJ1.out (by rw[HP2.out];simp)
   dsimp only[encW] at hy
   rw[Int.natCast_add] at hy;clear HST hY;gi_wp2;refine hRR.mono ?_;rintro e W3 (⟨rfl,hJ3,hk3⟩ | ⟨rfl,hJx3⟩)
   ·have HJ3:=hid hJ3
    have HR3:=hid (HR1.out.keeps hk3.1.size hk3.2);clear hJ3 hk3;gi_wp2;go_roundw
    case rel=>exact⟨p+q,pre++[((p:Int),((p+q:Nat):Int))],by rw[Int.natCast_add],hb2,HP2,HJ3,HR3⟩
    case measure=>simp[intOf];omega
   ·have HJX:=hid hJx3
    clear hJx3;gi_wp2;refine bodyPost_ret (results_none rfl _ _ _) rfl ?_;exact⟨⟨_,rfl⟩,.inr ⟨pre++[((p:Int),((p+q:Nat):Int))],⟨wb l (p+q),by rw[HP2.out]⟩,HJX.out⟩⟩
  ·have hlti:¬(p:Int)<(l.length:Int):=by omega
   have HE:=hid (show wb l 0=pre by rw[HP.out,wb_end l p hlt,List.append_nil])
   gi_wp2;go_end0;exact⟨⟨_,rfl⟩,.inl (by rw[HE.out];exact HJ.out)⟩
theorem weach_any (l:List UInt8) (w:World):
  Calls Tryz.prog 22 #[.string ⟨l.toArray⟩] w fun e w'=>e= .returned (.func (.func 51) #[] #[.pointer (some ⟨w.heap.size,0,none⟩)])/\w'=w.alloc (.cells #[.string ⟨l.toArray⟩] 9):=by
 go_enter Tryz.func22,Tryz.ntmps22;go_wp2;go_ret;exact⟨rfl,rfl⟩
theorem Tryz.info3:(Tryz.prog.info? 3).map (fun i=>(i.zero,i.size,i.bytes))=some (some (.int .i64 0),1,8):=by kernel_rfl
def i64s (l:List Int):List Value:=l.map fun z=>.int .i64 z
theorem i64s_snoc (l:List Int) (z:Int):i64s (l++[z])=i64s l++[.int .i64 z]:=by simp[i64s]
def wtos (xs:List (Int × Int)):List Int:=0::xs.map (·.2)
theorem wtos_snoc (xs:List (Int × Int)) (x:Int × Int):wtos (xs++[x])=wtos xs++[x.2]:=by simp[wtos]
theorem waAt_from (B Bs:Nat) (l:List UInt8) (hB:2<=B):OwnFrom B (fun(_:List (Int × Int)) W=>WaAt Bs l W):=fun _ A C row h hg hr=>by
 refine h.keeps hg.size fun k hk=>hg.block k (h.lt k hk) fun e=>?_
 obtain⟨hle,o,ho,hc⟩:=hr k e.symm
 rcases hk with rfl | hk
 ·have:=h.bs;unfold Boxed at this;rw[this] at ho;cases ho;cases hc
 ·omega
def wbnds (l:List UInt8):List Int:=if l=[] then [] else wtos (wb l 0)
theorem wbounds_in (l : List UInt8) (w : World) (ht : TbW w) (hl : l.length ≤ 100000000) (hne : l ≠ []) :
    CallsIn Fence.wide 3 Tryz.prog 11 #[.string ⟨l.toArray⟩] w fun e W' => ∃ v, e = .returned v ∧ W'.ownsRow w.heap.size 3 1 v (wtos (wb l 0)).length (i64s (wtos (wb l 0))) ∧ Below w.heap.size w W' := by
  obtain ⟨i0, hi, hz0, hz1, hz2⟩ := info_parts Tryz.info3
  have HT := hid ht
  have he : l.isEmpty = false := by simpa using hne
  clear ht hne
  refine callsIn_of_wp_marks Tryz.func11 rfl trivial ?_ rfl
  simp only [Tryz.ntmps11, List.size_toArray, List.length_cons, List.length_nil, Nat.reduceAdd, Nat.reduceSub, Array.replicate_succ, Array.replicate_zero, List.push_toArray, List.append_toArray, List.nil_append, List.cons_append]
  gi_wp2_with (refine ⟨trivial, ?_⟩; gi_at_call 22; refine (callsIn_wide.2 (weach_any l _)).mono ?_; rintro e w' ⟨rfl, rfl⟩)
  have hr0 : (w.alloc (.cells #[.int .i64 0] 3)).ownsRow w.heap.size 3 1 (.slice (some ⟨w.heap.size, 0, none⟩) 1 1) 1 (i64s (wtos [])) := World.ownsRow_lit w #[.int .i64 0] 1 (Nat.le_refl _) (by decide) (by simp)
  have bL := Boxed.new (w.alloc (.cells #[.int .i64 0] 3)) 23 (.slice (some ⟨w.heap.size, 0, none⟩) 1 1)
  rw [World.size_alloc] at bL
  have bS := Boxed.new ((w.alloc (.cells #[.int .i64 0] 3)).alloc (.cells #[.slice (some ⟨w.heap.size, 0, none⟩) 1 1] 23)) 9 (.string ⟨l.toArray⟩)
  rw [World.size_alloc, World.size_alloc] at bS
  have hB0 : Below w.heap.size w (((w.alloc (.cells #[.int .i64 0] 3)).alloc (.cells #[.slice (some ⟨w.heap.size, 0, none⟩) 1 1] 23)).alloc (.cells #[.string ⟨l.toArray⟩] 9)) := (((Below.refl _ _).alloc (Nat.le_refl _) _).alloc (by simp) _).alloc (by simp; omega) _
  have hEa : WaAt (w.heap.size + 1 + 1) l (((w.alloc (.cells #[.int .i64 0] 3)).alloc (.cells #[.slice (some ⟨w.heap.size, 0, none⟩) 1 1] 23)).alloc (.cells #[.string ⟨l.toArray⟩] 9)) := ⟨bS, HT.out.below hB0⟩
  have hpl := wb_len l _ 0 (Nat.le_refl _)
  have h2 := HT.out.two
  refine wpIn_rangeFunc_ownG rfl (by omega) (gf := 51) (lb := #[.pointer (some ⟨w.heap.size + 1 + 1, 0, none⟩)]) rfl trivial (enters_of Tryz.func51 (by kernel_rfl) rfl)
    (weach_stops (3 - 1) (by omega) (w.heap.size + 1 + 1) l _ hEa (by omega)) KrW_t (KrW_b hEa.lt) (Below.refl _ _) (fun _ => rfl)
    (fun pre W => ((∃ v, Boxed W (w.heap.size + 1) 23 v ∧ W.ownsRow w.heap.size 3 1 v (wtos pre).length (i64s (wtos pre)) ∧ True) ∧ Below w.heap.size w W) ∧ WaAt (w.heap.size + 1 + 1) l W)
    (fun _ _ _ => False)
    (OwnFrom.and (OwnFrom.and (Own.from (holdsRow_own w.heap.size (w.heap.size + 1) 23 3 1 (fun pre => (wtos pre).length) (fun pre => i64s (wtos pre)) (fun _ _ => True)) _) (ownFrom_below (Nat.le_refl _) (by simp; omega))) (waAt_from _ _ l (by simp)))
    (fun _ _ _ _ _ hs _ _ => hs)
    ⟨⟨⟨_, bL.alloc _, (hr0.alloc _).alloc _, trivial⟩, hB0⟩, hEa⟩
    (fun x => { tmps := #[.string ⟨l.toArray⟩, undef, .slice none 0 0, .pointer (some ⟨w.heap.size + 1, 0, none⟩), undef, .int .i64 x.2, .string ⟨l.toArray⟩, .bool false, .slice (some ⟨w.heap.size, 0, none⟩) 1 1, .string ⟨l.toArray⟩, .func (.func 51) #[] #[.pointer (some ⟨w.heap.size + 1 + 1, 0, none⟩)], .int .i64 x.1, .int .i64 x.2, undef, undef, undef, undef, undef], defers := [] }) ?assign ?body ?done ?stop
  case assign =>
    intro lp x W K hK
    dsimp only [encW]
    gi_wp2
    exact hK
  case body =>
    rintro lp pre x W ⟨⟨⟨v, hv, hrow, _⟩, hB⟩, hE⟩ hlt
    have hc := hv.cell
    have hBs := hB.size
    have hwl : (wtos pre).length ≤ 100000001 := by have h : (wtos pre).length = pre.length + 1 := by simp [wtos]
                                                   omega
    gi_wp2_with (gi_at_builtin; refine wpListIn_append_own _ rfl _ _ 23 rfl w.heap.size 3 i0 (.int .i64 0) 1 8 Tryz.underlying23 hi hz0 hz1 hz2 rfl (by decide) _ _ _ rfl (hrow.alloc _) ⟨W.heap.size, 0, none⟩ 1 1 [.int .i64 x.2] rfl rfl (cell_one_new _ _ _) (by simp [Value.oneCell']) (by unfold maxLen; omega) (by omega) (by simp; omega) ?_; intro v' w3 hown' hgrow _; obtain ⟨g', cap', rfl⟩ := ownsRow_succ hown'; obtain ⟨hv1, hv2, hr2, hk2, hb2⟩ := hv.appended (by decide) hrow hB.size (by omega) hown' hgrow; have hc1 := hv1.cell; have hf1 := hv1.frozen)
    have hS1 : Boxed w3 (w.heap.size + 1 + 1) 9 (.string ⟨l.toArray⟩) := (hE.bs.alloc _).kept hgrow (hE.bs.not_row (by decide) hrow)
    have hKK : ∀ k, KW (w.heap.size + 1 + 1) k → (w3.setCell ⟨w.heap.size + 1, 0, none⟩ (.slice (some ⟨g', 0, none⟩) ((wtos pre).length + 1) cap')).heap[k]? = W.heap[k]? := by
      rintro k (rfl | hk)
      · exact ((grownBy_setCell' w3 (w.heap.size + 1) _).block _ hS1.lt (by simp)).trans (Eq.trans hS1 hE.bs.symm)
      · exact hb2.block k (by omega)
    exact ⟨hk2.from _, ⟨⟨hk2.size, fun k o h hw => hk2.same k o h (Obj.not_cells_of_walk hw)⟩, hKK⟩, ⟨⟨_, hv2, by rw [wtos_snoc, i64s_snoc, List.length_append]; exact hr2, trivial⟩, hB.trans hb2⟩, hE.keeps hb2.size hKK⟩
  case done =>
    rintro D ys W hD rfl ⟨⟨⟨v, hv, hrow, _⟩, hB⟩, _⟩ hK
    have hc := hv.cell
    gi_wp2
    refine ⟨by simp, .inl ⟨_, _, rfl, run_takeDeferred hK, ?_⟩⟩
    exact ⟨_, results_tmp rfl _ _ _, v, rfl, ownsRow_putObj hrow _ hK rfl, hB.trans (belowK_b (w := w) (Nat.le_refl _) W D _ _ (by simp at hD; omega) hK rfl rfl)⟩
  case stop =>
    rintro D c pre W _ _ h _
    exact h.elim
theorem wbounds_any (l:List UInt8) (w:World) (ht:TbW w) (hl:l.length<=100000000):
  Calls Tryz.prog 11 #[.string ⟨l.toArray⟩] w fun e W'=>∃v,e= .returned v/\W'.ownsRow w.heap.size 3 1 v (wbnds l).length (i64s (wbnds l))/\Below w.heap.size w W':=by
 by_cases h:l=[]
 ·subst h
  go_enter Tryz.func11,Tryz.ntmps11;go_wp2;go_ret;exact⟨_,rfl,World.ownsRow_nil _ _ _ _,Below.refl _ _⟩
 ·have e:wbnds l=wtos (wb l 0):=if_neg h
  rw[e];exact callsIn_wide.1 (wbounds_in l w ht hl h)
end Wd
end Go.Proofs.YtokpjifnlifafaaGreatDoor
