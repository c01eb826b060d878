/- PtRunLi0, PtLiR, PtRest, PtRunLi1, PtRunLi2, PtRunLi3, PtRunLi4, PtRunLi5, LiMath, LiLoc: parts of the proof, joined. -/
import Derived.Test.YtbbapnpdfcgjnaaGreatDoorLPtEv
open Bool renaming and_eq_true->xa, or_eq_true->xd, or_true->xE, false_or->xG, true_and->xH
open List renaming getD_eq_getElem?_getD->xb, headD_cons->xe, mem_singleton->xg, getElem?_eq_some_iff->xh, all_eq_true->xi, not_mem_nil->xj, dropWhile_cons_of_neg->xk, mem_cons->xm, mem_of_getElem?->xn, getElem?_eq_getElem->xr, mem_range->xu, range->xv, dropWhile_cons_of_pos->xw, drop_eq_getElem_cons->xy, cons_append->xz, dropWhile_sublist->xA, reverse_append->xB, all_cons->xC, tail_cons->xF
open Nat renaming add_sub_cancel->xf, eq_or_lt_of_le->xp, le_refl->xq, eq_zero_or_pos->xt, mod_two_eq_zero_or_one->xx, lt_or_ge->xD, le_trans->xI, add_zero->xJ
set_option maxHeartbeats 64000000
namespace Go.Proofs.YtbbapnpdfcgjnaaGreatDoor
section
open Ev Go.RowKit
namespace Pt
def zan:List Value:=[.string ⟨#[79,116,104,101,114]⟩,.string ⟨#[66,107]⟩,.string ⟨#[67,114]⟩,.string ⟨#[76,102]⟩,.string ⟨#[83,112]⟩,.string ⟨#[90,119]⟩,.string ⟨#[87,106]⟩,.string ⟨#[71,108]⟩,.string ⟨#[67,109]⟩,.string ⟨#[79,112]⟩,.string ⟨#[67,112]⟩,.string ⟨#[67,108]⟩,.string ⟨#[81,117]⟩,.string ⟨#[69,120]⟩,.string ⟨#[73,115]⟩,.string ⟨#[83,121]⟩,.string ⟨#[72,121]⟩,.string ⟨#[66,97]⟩,.string ⟨#[68,97,115,104]⟩,.string ⟨#[73,110]⟩,.string ⟨#[78,117]⟩,.string ⟨#[80,111]⟩,.string ⟨#[80,114]⟩,.string ⟨#[73,100]⟩,.string ⟨#[78,115]⟩,.string ⟨#[82,105]⟩]
theorem zae:zbk zan=true:=by kernel_rfl
theorem zot:zCy (evF Tryz.prog zlR 1000000 (zhJ Tryz.prog zlR) 60) 70 zan=true:=by kernel_rfl
theorem lnOv:OvOK Tryz.prog (ovN 70 zan):=zCH (zeX zbV (fun _ hc=>zda mixed zbV hc) 60) zae (by decide) zot
noncomputable def zbJ:zaw:=evG Tryz.prog zlR 1000000 (zhJ Tryz.prog zlR) (ovN 70 zan) 60
theorem zal:zba Tryz.prog zbJ:=zkG zbV (fun _ hc=>zda mixed zbV hc) lnOv 60
def zDB:Pat:=.mk 1 [2] []
def zDA:ByteArray:=⟨#[67,114]⟩
def zDz:Pat:=.mk 1 [3] []
def zDy:ByteArray:=⟨#[76,102]⟩
def zDx:Pat:=.mk 1 [1,2,3] []
def zDw:ByteArray:=⟨#[91,66,107,32,67,114,32,76,102,93]⟩
def zct:Pat:=.mk 0 [] []
def zDv:ByteArray:=⟨#[]⟩
def zDu:Pat:=.mk 1 [1,2,3,4,5] []
def zDt:ByteArray:=⟨#[91,66,107,32,67,114,32,76,102,32,83,112,32,90,119,93]⟩
def zDs:Pat:=.mk 2 [] [(.mk 1 [5] []),(.mk 4 [] [(.mk 1 [4] [])])]
def zDr:ByteArray:=⟨#[90,119,32,83,112,42]⟩
def zDq:Pat:=.mk 1 [0,6,7,8,9,10,11,12,13,14,15,16,17,18,19,20,21,22,23,24,25] []
def zDp:ByteArray:=⟨#[91,94,66,107,32,67,114,32,76,102,32,83,112,32,90,119,93]⟩
def zDo:Pat:=.mk 1 [8] []
def zDn:ByteArray:=⟨#[67,109]⟩
def zDm:Pat:=.mk 1 [6] []
def zDl:ByteArray:=⟨#[87,106]⟩
def zDk:Pat:=.mk 2 [] [(.mk 1 [6] []),(.mk 4 [] [(.mk 1 [8] [])])]
def zDj:ByteArray:=⟨#[87,106,32,67,109,42]⟩
def ztF:Pat:=.mk 2 [] [(.mk 1 [7] []),(.mk 4 [] [(.mk 1 [8] [])])]
def zzz:ByteArray:=⟨#[71,108,32,67,109,42]⟩
def ztD:Pat:=.mk 2 [] [(.mk 1 [0,1,2,3,5,6,7,9,10,11,12,13,14,15,18,19,20,21,22,23,24,25] []),(.mk 4 [] [(.mk 1 [8] [])])]
def zzy:ByteArray:=⟨#[91,94,83,112,32,66,97,32,72,121,32,67,109,93,32,67,109,42]⟩
def zkn:Pat:=.mk 1 [7] []
def zzx:ByteArray:=⟨#[71,108]⟩
def zkm:Pat:=.mk 2 [] [(.mk 1 [8] []),(.mk 4 [] [(.mk 1 [8] [])])]
def zzw:ByteArray:=⟨#[32,67,109,32,67,109,42]⟩
def ztz:Pat:=.mk 1 [10,11,13,14,15] []
def zzv:ByteArray:=⟨#[91,67,108,32,67,112,32,69,120,32,73,115,32,83,121,93]⟩
def ztx:Pat:=.mk 2 [] [(.mk 1 [9] []),(.mk 4 [] [(.mk 1 [8] [])]),(.mk 4 [] [(.mk 1 [4] [])])]
def zzu:ByteArray:=⟨#[79,112,32,67,109,42,32,83,112,42]⟩
def ztv:Pat:=.mk 2 [] [(.mk 1 [12] []),(.mk 4 [] [(.mk 1 [8] [])]),(.mk 4 [] [(.mk 1 [4] [])])]
def zzt:ByteArray:=⟨#[81,117,32,67,109,42,32,83,112,42]⟩
def zkl:Pat:=.mk 1 [9] []
def zzs:ByteArray:=⟨#[79,112]⟩
def zts:Pat:=.mk 2 [] [(.mk 1 [10,11] []),(.mk 4 [] [(.mk 1 [8] [])]),(.mk 4 [] [(.mk 1 [4] [])])]
def zzr:ByteArray:=⟨#[91,67,108,32,67,112,93,32,67,109,42,32,83,112,42]⟩
def ztq:Pat:=.mk 1 [24] []
def zzq:ByteArray:=⟨#[78,115]⟩
def zto:Pat:=.mk 2 [] [(.mk 1 [18] []),(.mk 4 [] [(.mk 1 [8] [])]),(.mk 4 [] [(.mk 1 [4] [])])]
def zzp:ByteArray:=⟨#[68,97,115,104,32,67,109,42,32,83,112,42]⟩
def ztm:Pat:=.mk 1 [18] []
def zzo:ByteArray:=⟨#[68,97,115,104]⟩
def ztk:Pat:=.mk 1 [4] []
def zzn:ByteArray:=⟨#[83,112]⟩
def zti:Pat:=.mk 1 [12] []
def zzm:ByteArray:=⟨#[81,117]⟩
def ztg:Pat:=.mk 2 [] [(.mk 1 [12] []),(.mk 4 [] [(.mk 1 [8] [])])]
def zzl:ByteArray:=⟨#[81,117,32,67,109,42]⟩
def zte:Pat:=.mk 1 [16,17,24] []
def zzk:ByteArray:=⟨#[91,66,97,32,72,121,32,78,115,93]⟩
def ztc:Pat:=.mk 1 [19] []
def zzj:ByteArray:=⟨#[73,110]⟩
def zge:Pat:=.mk 2 [] [(.mk 1 [0] []),(.mk 4 [] [(.mk 1 [8] [])])]
def zzi:ByteArray:=⟨#[79,116,104,101,114,32,67,109,42]⟩
def zkk:Pat:=.mk 1 [20] []
def zzh:ByteArray:=⟨#[78,117]⟩
def zsY:Pat:=.mk 2 [] [(.mk 1 [20] []),(.mk 4 [] [(.mk 1 [8] [])])]
def zzg:ByteArray:=⟨#[78,117,32,67,109,42]⟩
def zeb:Pat:=.mk 1 [0] []
def zzf:ByteArray:=⟨#[79,116,104,101,114]⟩
def zsV:Pat:=.mk 2 [] [(.mk 1 [22] []),(.mk 4 [] [(.mk 1 [8] [])])]
def zze:ByteArray:=⟨#[80,114,32,67,109,42]⟩
def zsT:Pat:=.mk 1 [23] []
def zzd:ByteArray:=⟨#[73,100]⟩
def zsR:Pat:=.mk 2 [] [(.mk 1 [23] []),(.mk 4 [] [(.mk 1 [8] [])])]
def zzc:ByteArray:=⟨#[73,100,32,67,109,42]⟩
def zsP:Pat:=.mk 1 [21] []
def zzb:ByteArray:=⟨#[80,111]⟩
def zsN:Pat:=.mk 2 [] [(.mk 1 [21,22] []),(.mk 4 [] [(.mk 1 [8] [])])]
def zza:ByteArray:=⟨#[91,80,114,32,80,111,93,32,67,109,42]⟩
def zsL:Pat:=.mk 1 [21,22] []
def zyZ:ByteArray:=⟨#[91,80,114,32,80,111,93]⟩
def zqg:Pat:=.mk 2 [] [(.mk 1 [20] []),(.mk 4 [] [(.mk 1 [8] [])]),(.mk 6 [] [(.mk 1 [14,15] [])]),(.mk 4 [] [(.mk 1 [8] [])]),(.mk 6 [] [(.mk 1 [10,11] [])]),(.mk 4 [] [(.mk 1 [8] [])])]
def zyY:ByteArray:=⟨#[78,117,32,67,109,42,32,91,73,115,32,83,121,93,63,32,67,109,42,32,91,67,108,32,67,112,93,63,32,67,109,42]⟩
def zsI:Pat:=.mk 1 [21,22] []
def zyX:ByteArray:=⟨#[91,80,111,32,80,114,93]⟩
def zsG:Pat:=.mk 2 [] [(.mk 1 [21,22] []),(.mk 4 [] [(.mk 1 [8] [])])]
def zyW:ByteArray:=⟨#[91,80,111,32,80,114,93,32,67,109,42]⟩
def zmn:Pat:=.mk 2 [] [(.mk 6 [] [(.mk 3 [] [(.mk 1 [9] []),(.mk 1 [16] [])])]),(.mk 1 [20] [])]
def zyV:ByteArray:=⟨#[40,79,112,32,124,32,72,121,41,63,32,78,117]⟩
def zsD:Pat:=.mk 2 [] [(.mk 1 [14,15,16,20] []),(.mk 4 [] [(.mk 1 [8] [])])]
def zyU:ByteArray:=⟨#[91,72,121,32,73,115,32,83,121,32,78,117,93,32,67,109,42]⟩
def zsB:Pat:=.mk 2 [] [(.mk 1 [14] []),(.mk 4 [] [(.mk 1 [8] [])])]
def zyT:ByteArray:=⟨#[73,115,32,67,109,42]⟩
def zsz:Pat:=.mk 2 [] [(.mk 1 [0,20] []),(.mk 4 [] [(.mk 1 [8] [])])]
def zyS:ByteArray:=⟨#[91,79,116,104,101,114,32,78,117,93,32,67,109,42]⟩
def zsx:Pat:=.mk 2 [] [(.mk 1 [10] []),(.mk 4 [] [(.mk 1 [8] [])])]
def zyR:ByteArray:=⟨#[67,112,32,67,109,42]⟩
def zsv:Pat:=.mk 1 [0,20] []
def zyQ:ByteArray:=⟨#[91,79,116,104,101,114,32,78,117,93]⟩
def zqf:Pat:=.mk 2 [] [(.mk 4 [] [(.mk 1 [8] [])]),(.mk 4 [] [(.mk 2 [] [(.mk 1 [25] []),(.mk 4 [] [(.mk 1 [8] [])]),(.mk 1 [25] []),(.mk 4 [] [(.mk 1 [8] [])])])]),(.mk 1 [25] []),(.mk 4 [] [(.mk 1 [8] [])])]
def zyP:ByteArray:=⟨#[32,67,109,42,32,40,82,105,32,67,109,42,32,82,105,32,67,109,42,41,42,32,82,105,32,67,109,42]⟩
def zkj:Pat:=.mk 1 [25] []
def zyO:ByteArray:=⟨#[82,105]⟩
def zmf:Pat:=.mk 2 [] [(.mk 1 [0,1,2,3,4,5,6,7,9,10,11,12,13,14,15,16,17,18,19,20,21,22,23,24] []),(.mk 4 [] [(.mk 1 [8] [])]),(.mk 4 [] [(.mk 2 [] [(.mk 1 [25] []),(.mk 4 [] [(.mk 1 [8] [])]),(.mk 1 [25] []),(.mk 4 [] [(.mk 1 [8] [])])])]),(.mk 1 [25] []),(.mk 4 [] [(.mk 1 [8] [])])]
def zyN:ByteArray:=⟨#[91,94,82,105,32,67,109,93,32,67,109,42,32,40,82,105,32,67,109,42,32,82,105,32,67,109,42,41,42,32,82,105,32,67,109,42]⟩
end Pt
end
section
open Go.RowKit
namespace Pt
def zvz:List Rl:=[
 ⟨false,false,false,zDB,zDz⟩,
 ⟨true,false,false,zDx,zct⟩,
 ⟨false,false,false,zct,zDu⟩,
 ⟨true,false,false,zDs,zct⟩,
 ⟨false,false,false,zDq,zDo⟩,
 ⟨false,false,false,zct,zDm⟩,
 ⟨false,false,false,zDk,zct⟩,
 ⟨false,false,false,ztF,zct⟩,
 ⟨false,false,false,ztD,zkn⟩,
 ⟨false,true,false,zkm,zkn⟩,
 ⟨false,false,false,zct,ztz⟩,
 ⟨false,false,false,ztx,zct⟩,
 ⟨false,false,false,ztv,zkl⟩,
 ⟨false,false,false,zts,ztq⟩,
 ⟨false,false,false,zto,ztm⟩,
 ⟨true,false,false,ztk,zct⟩,
 ⟨false,false,false,zct,zti⟩,
 ⟨false,false,false,ztg,zct⟩,
 ⟨false,false,false,zct,zte⟩,
 ⟨false,false,false,zct,ztc⟩,
 ⟨false,false,false,zge,zkk⟩,
 ⟨false,false,false,zsY,zeb⟩,
 ⟨false,false,false,zsV,zsT⟩,
 ⟨false,false,false,zsR,zsP⟩,
 ⟨false,false,false,zsN,zeb⟩,
 ⟨false,false,false,zge,zsL⟩,
 ⟨false,false,false,zqg,zsI⟩,
 ⟨false,false,false,zsG,zmn⟩,
 ⟨false,false,false,zsD,zkk⟩,
 ⟨false,false,false,zge,zeb⟩,
 ⟨false,false,false,zsB,zeb⟩,
 ⟨false,false,false,zsz,zkl⟩,
 ⟨false,false,false,zsx,zsv⟩,
 ⟨false,true,false,zqf,zkj⟩,
 ⟨false,false,false,zmf,zkj⟩]
end Pt
end
section
open Ev Go.RowKit
namespace Pt
theorem zdM.rest {B:Nat} {w w1 w2:World} {X g nc:Nat} {vs:List Value} {vo:Option Addr} {n vc:Nat} {rs:List Rl} {xs:List Value} {rest brk:Bool} (h:zdM B w X g nc vs vo n vc rs xs rest false) (h1:w1=w.setCell ⟨X,2,none⟩ (.bool brk)) (h2:w2=w1.setCell ⟨X,3,none⟩ (.bool true)):
  zdM B w2 X g nc vs vo n vc rs xs brk true/\Fr B g w w2/\Fx g X w w2:=by
 have lx:=h.lx;have lg:=h.lg;have k1:Ony X w w1:=by rw[h1];exact Ony.set X 2 w _
 have k2:Ony X w w2:=by rw[h2];exact k1.trans (Ony.set X 3 w1 _)
 have e1:w1.heap[X]? =some (.cells #[.slice (some ⟨g,0,none⟩) vs.length nc,.slice vo n vc,.bool brk,.bool false] 87 (0,0)):=by rw[h1,heap_setCell_same w X 2 _ _ _ h.at_];rfl
 have e2:w2.heap[X]? =some (.cells #[.slice (some ⟨g,0,none⟩) vs.length nc,.slice vo n vc,.bool brk,.bool true] 87 (0,0)):=by rw[h2,heap_setCell_same w1 X 3 _ _ _ e1];rfl
 refine⟨⟨e2,?_,⟨h.own.1,h.own.2.imp (fun e=>e) fun⟨q,cap,cur,c1,c2,c3,c4⟩=>⟨q,cap,cur,c1,c2,(k2.block q (fun e=>by
  rw[e,h.at_] at c3
  cases c3)).trans c3,c4⟩⟩,h.rul.kt (fun b c t fr hb ht=>(k2.block b (fun e=>by
  rw[e,h.at_] at hb
  cases hb
  rcases ht with ht | ht<;>cases ht)).trans hb),h.hn,lx,lg⟩,⟨k2.os,k2.tape,k2.output,by rw[k2.size];exact xq _,fun b hb _=>k2.block b (by omega)⟩,fun b o hb _ hne _=>(k2.block b hne).trans hb⟩
 obtain⟨cur,a1,a2⟩:=h.nm;exact⟨cur,(k2.block g (by omega)).trans a1,a2⟩
set_option maxRecDepth 100000 in
theorem ztK (B X g nc:Nat) (vs:List Value) (vo:Option Addr) (n vc:Nat) (rs:List Rl) (xs:List Value) (rest:Bool) (w:World) (s p:List UInt8) (k:Nat) (brk:Bool) (hX:zdM B w X g nc vs vo n vc rs xs rest false)
  (h1:Pl1 103 (.string ⟨s.toArray⟩) (.string ⟨p.toArray⟩)) (h2:Pl1 104 (.string ⟨p.toArray⟩) (.int .i64 k)) (hk:k<p.length) (hp9:p.length<=10000) (hb:((p[k].toNat:Int)==47)=brk)
  (h3:Pl1 105 (.string ((⟨p.toArray⟩:ByteArray).extract 0 k)) (.string ⟨#[114,101,115,116]⟩)) (h4:Pl1 105 (.string ((⟨p.toArray⟩:ByteArray).extract (k+1) p.length)) (.string ⟨#[]⟩)):
  Calls Tryz.prog 72 #[.pointer (some ⟨X,0,none⟩),.string ⟨s.toArray⟩] w (LnQ B w X g nc vs rs brk true):=by
 have HX:=hid hX;have H1:=hid h1;have H2:=hid h2;have H3:=hid h3;have H4:=hid h4;clear hX h1 h2 h3 h4;go_enter Tryz.func72,Tryz.ntmps72;go_wp2_with fail;refine(H1.out w).mono ?_;rintro e w1 ⟨rfl,b1⟩;have HX1:=hid (HX.out.below b1);have HB1:=hid b1;clear b1;have p0:p.isEmpty=false:=by cases p with
  | nil=>simp at hk
  | cons a b=>rfl
 have p1:p≠ []:=by cases p with
  | nil=>simp at hk
  | cons a b=>simp
 go_wp2_with fail;refine(H2.out w1).mono ?_;rintro e w2 ⟨rfl,b2⟩;have HX2:=hid (HX1.out.below b2);have HB2:=hid (HB1.out.trans (b2.mono HB1.out.size));clear b2 HX1 HB1;have x3:w2.cell? ⟨X,3,none⟩=some (.bool false):=by rw[cell_of_row w2 X 3 _ _ _ HX2.out.at_];rfl
 have k0:(0:Int)<=(k:Int):=by omega
 have k1:(k:Int)<(p.length:Int):=by omega
 have k2:¬(k:Int)<0:=by omega
 have d1:decide ((k:Int)<0)=false:=decide_eq_false (by omega)
 have k3:(k:Int)<=(p.length:Int):=by omega
 have k4:(k:Int)+1<=(p.length:Int):=by omega
 go_wp2_with fail;have e9:((((⟨p.toArray⟩:ByteArray)[k]'(by show k<p.toArray.size;simpa using hk)).toNat:Int)==47)=brk:=hb
 rw[e9];clear e9 hb;have e8:IntKind.i64.wrap ((k:Int)+1)=(k:Int)+1:=by unfold IntKind.wrap IntKind.bits IntKind.signed;simp;omega
 have k5:(0:Int)<=(k:Int)+1:=by omega
 refine zaf [(0,true),(1,true),(2,true),(4,true),(5,true),(6,true),(7,true),(3,false),(8,false),(9,false),(10,false)] (fun _=>True) (fun _=>false) (by kernel_rfl) (by kernel_rfl) (fun j hj=>by cases hj) rfl (by kernel_rfl) trivial ?_
 iterate 7 (refine zai ?_ rfl (by kernel_rfl) (fun w' hS=>?_) ?_;(rotate_left;(go_simp;with_reducible rfl);rotate_left))
 refine zah rfl (by kernel_rfl) fun KK hKK=>?_
 go_simp;refine(H3.out w2.drew).mono ?_;rintro e w3 ⟨rfl,b3⟩;have HB3:=hid (show Below w2.heap.size w2 w3 from⟨b3.os,b3.tape,b3.output,b3.size,b3.block⟩)
 clear b3;refine hKK _ _ (fun _=>trivial) ?_
 clear hKK;refine zah rfl (by kernel_rfl) fun KK hKK=>?_
 go_simp;refine(H4.out w3).mono ?_;rintro e w4 ⟨rfl,b4⟩;have HB4:=hid (show Below w2.heap.size w2 w4 from HB3.out.trans (b4.mono HB3.out.size))
 clear b4 HB3;refine hKK _ _ (fun _=>trivial) ?_
 clear hKK;refine zah rfl (by kernel_rfl) fun KK hKK=>?_
 go_simp;refine hKK _ _ (fun _=>trivial) ?_
 clear hKK;refine zah rfl (by kernel_rfl) fun KK hKK=>?_
 go_simp;refine hKK _ _ (fun _=>trivial) ?_
 clear hKK;refine zay (NoPanic.normal ?_);have HX4:=hid (HX2.out.below HB4.out);have HBw:=hid (HB2.out.trans (HB4.out.mono HB2.out.size));have HF4:=hid (show Fr B g w w4 from .of (.of HBw.out) (by have:=zab HX.out.at_;have:=HX.out.lx;omega))
 have HFx:=hid (show Fx g X w w4 from .of (.of HBw.out))
 have y2:w4.cell? ⟨X,2,none⟩=some (.bool rest):=by rw[cell_of_row w4 X 2 _ _ _ HX4.out.at_];rfl
 have f2:w4.frozen? ⟨X,2,none⟩=false:=frozen_of_row w4 X 2 _ _ HX4.out.at_;have HR:=hid (fun(u1 u2:World) (e1:u1=w4.setCell ⟨X,2,none⟩ (.bool brk)) (e2:u2=u1.setCell ⟨X,3,none⟩ (.bool true))=>zdM.rest HX4.out e1 e2)
 have m3:(w4.setCell ⟨X,2,none⟩ (.bool brk)).cell? ⟨X,3,none⟩=some (.bool false):=by rw[cell_of_row _ X 3 _ _ _ (heap_setCell_same w4 X 2 _ _ (.bool brk) HX4.out.at_)];rfl
 have m4:(w4.setCell ⟨X,2,none⟩ (.bool brk)).frozen? ⟨X,3,none⟩=false:=frozen_of_row _ X 3 _ _ (heap_setCell_same w4 X 2 _ _ (.bool brk) HX4.out.at_);have xl:X<w4.heap.size:=zab HX4.out.at_;clear x3 HX2 HB2 HB4 k2 k3 k4 k5 d1 e8 p0 p1 HX;go_wp2;go_ret;obtain⟨r1,r2,r3⟩:=HR.out _ _ rfl rfl;exact⟨rfl,HF4.out.trans r2,HFx.out.trans r3,_,_,_,_,r1⟩
end Pt
end
section
open Ev Go.RowKit
namespace Pt
theorem zwK:zbD zbJ 106 zDr zan zDs=true:=by kernel_rfl
theorem zqd (g nc:Nat) (w:World) (hN:zbb w g nc zan):Calls Tryz.prog 106 #[.string zDr,.slice (some ⟨g,0,none⟩) 26 nc] w (PsQ g nc zan w zDs):=zag zal zae zwK g nc w hN
theorem ztA:zbD zbJ 106 zzw zan zkm=true:=by kernel_rfl
theorem zmK (g nc:Nat) (w:World) (hN:zbb w g nc zan):Calls Tryz.prog 106 #[.string zzw,.slice (some ⟨g,0,none⟩) 26 nc] w (PsQ g nc zan w zkm):=zag zal zae ztA g nc w hN
theorem ztw:zbD zbJ 106 zzu zan ztx=true:=by kernel_rfl
theorem zmI (g nc:Nat) (w:World) (hN:zbb w g nc zan):Calls Tryz.prog 106 #[.string zzu,.slice (some ⟨g,0,none⟩) 26 nc] w (PsQ g nc zan w ztx):=zag zal zae ztw g nc w hN
theorem ztp:zbD zbJ 106 zzq zan ztq=true:=by kernel_rfl
theorem zmF (g nc:Nat) (w:World) (hN:zbb w g nc zan):Calls Tryz.prog 106 #[.string zzq,.slice (some ⟨g,0,none⟩) 26 nc] w (PsQ g nc zan w ztq):=zag zal zae ztp g nc w hN
theorem ztl:zbD zbJ 106 zzo zan ztm=true:=by kernel_rfl
theorem zmD (g nc:Nat) (w:World) (hN:zbb w g nc zan):Calls Tryz.prog 106 #[.string zzo,.slice (some ⟨g,0,none⟩) 26 nc] w (PsQ g nc zan w ztm):=zag zal zae ztl g nc w hN
theorem zsU:zbD zbJ 106 zze zan zsV=true:=by kernel_rfl
theorem zmw (g nc:Nat) (w:World) (hN:zbb w g nc zan):Calls Tryz.prog 106 #[.string zze,.slice (some ⟨g,0,none⟩) 26 nc] w (PsQ g nc zan w zsV):=zag zal zae zsU g nc w hN
theorem zsS:zbD zbJ 106 zzd zan zsT=true:=by kernel_rfl
theorem zmv (g nc:Nat) (w:World) (hN:zbb w g nc zan):Calls Tryz.prog 106 #[.string zzd,.slice (some ⟨g,0,none⟩) 26 nc] w (PsQ g nc zan w zsT):=zag zal zae zsS g nc w hN
theorem zsy:zbD zbJ 106 zyS zan zsz=true:=by kernel_rfl
theorem zmj (g nc:Nat) (w:World) (hN:zbb w g nc zan):Calls Tryz.prog 106 #[.string zyS,.slice (some ⟨g,0,none⟩) 26 nc] w (PsQ g nc zan w zsz):=zag zal zae zsy g nc w hN
theorem zsr:zbD zbJ 106 zyN zan zmf=true:=by kernel_rfl
theorem zme (g nc:Nat) (w:World) (hN:zbb w g nc zan):Calls Tryz.prog 106 #[.string zyN,.slice (some ⟨g,0,none⟩) 26 nc] w (PsQ g nc zan w zmf):=zag zal zae zsr g nc w hN
end Pt
end
section
open Ev Go.RowKit
namespace Pt
theorem zwO:zbD zbJ 106 zDy zan zDz=true:=by kernel_rfl
theorem zqi (g nc:Nat) (w:World) (hN:zbb w g nc zan):Calls Tryz.prog 106 #[.string zDy,.slice (some ⟨g,0,none⟩) 26 nc] w (PsQ g nc zan w zDz):=zag zal zae zwO g nc w hN
theorem zwM:zbD zbJ 106 zDv zan zct=true:=by kernel_rfl
theorem zaF (g nc:Nat) (w:World) (hN:zbb w g nc zan):Calls Tryz.prog 106 #[.string zDv,.slice (some ⟨g,0,none⟩) 26 nc] w (PsQ g nc zan w zct):=zag zal zae zwM g nc w hN
theorem ztE:zbD zbJ 106 zzz zan ztF=true:=by kernel_rfl
theorem zmM (g nc:Nat) (w:World) (hN:zbb w g nc zan):Calls Tryz.prog 106 #[.string zzz,.slice (some ⟨g,0,none⟩) 26 nc] w (PsQ g nc zan w ztF):=zag zal zae ztE g nc w hN
theorem ztB:zbD zbJ 106 zzx zan zkn=true:=by kernel_rfl
theorem zgg (g nc:Nat) (w:World) (hN:zbb w g nc zan):Calls Tryz.prog 106 #[.string zzx,.slice (some ⟨g,0,none⟩) 26 nc] w (PsQ g nc zan w zkn):=zag zal zae ztB g nc w hN
theorem ztr:zbD zbJ 106 zzr zan zts=true:=by kernel_rfl
theorem zmG (g nc:Nat) (w:World) (hN:zbb w g nc zan):Calls Tryz.prog 106 #[.string zzr,.slice (some ⟨g,0,none⟩) 26 nc] w (PsQ g nc zan w zts):=zag zal zae ztr g nc w hN
theorem ztb:zbD zbJ 106 zzj zan ztc=true:=by kernel_rfl
theorem zmy (g nc:Nat) (w:World) (hN:zbb w g nc zan):Calls Tryz.prog 106 #[.string zzj,.slice (some ⟨g,0,none⟩) 26 nc] w (PsQ g nc zan w ztc):=zag zal zae ztb g nc w hN
theorem zsJ:zbD zbJ 106 zyY zan zqg=true:=by kernel_rfl
theorem zmq (g nc:Nat) (w:World) (hN:zbb w g nc zan):Calls Tryz.prog 106 #[.string zyY,.slice (some ⟨g,0,none⟩) 26 nc] w (PsQ g nc zan w zqg):=zag zal zae zsJ g nc w hN
theorem zsF:zbD zbJ 106 zyW zan zsG=true:=by kernel_rfl
theorem zmo (g nc:Nat) (w:World) (hN:zbb w g nc zan):Calls Tryz.prog 106 #[.string zyW,.slice (some ⟨g,0,none⟩) 26 nc] w (PsQ g nc zan w zsG):=zag zal zae zsF g nc w hN
theorem zsA:zbD zbJ 106 zyT zan zsB=true:=by kernel_rfl
theorem zmk (g nc:Nat) (w:World) (hN:zbb w g nc zan):Calls Tryz.prog 106 #[.string zyT,.slice (some ⟨g,0,none⟩) 26 nc] w (PsQ g nc zan w zsB):=zag zal zae zsA g nc w hN
theorem zsu:zbD zbJ 106 zyQ zan zsv=true:=by kernel_rfl
theorem zmh (g nc:Nat) (w:World) (hN:zbb w g nc zan):Calls Tryz.prog 106 #[.string zyQ,.slice (some ⟨g,0,none⟩) 26 nc] w (PsQ g nc zan w zsv):=zag zal zae zsu g nc w hN
end Pt
end
section
open Ev Go.RowKit
namespace Pt
theorem zty:zbD zbJ 106 zzv zan ztz=true:=by kernel_rfl
theorem zmJ (g nc:Nat) (w:World) (hN:zbb w g nc zan):Calls Tryz.prog 106 #[.string zzv,.slice (some ⟨g,0,none⟩) 26 nc] w (PsQ g nc zan w ztz):=zag zal zae zty g nc w hN
theorem ztj:zbD zbJ 106 zzn zan ztk=true:=by kernel_rfl
theorem zmC (g nc:Nat) (w:World) (hN:zbb w g nc zan):Calls Tryz.prog 106 #[.string zzn,.slice (some ⟨g,0,none⟩) 26 nc] w (PsQ g nc zan w ztk):=zag zal zae ztj g nc w hN
theorem ztd:zbD zbJ 106 zzk zan zte=true:=by kernel_rfl
theorem zmz (g nc:Nat) (w:World) (hN:zbb w g nc zan):Calls Tryz.prog 106 #[.string zzk,.slice (some ⟨g,0,none⟩) 26 nc] w (PsQ g nc zan w zte):=zag zal zae ztd g nc w hN
theorem zsX:zbD zbJ 106 zzg zan zsY=true:=by kernel_rfl
theorem zmx (g nc:Nat) (w:World) (hN:zbb w g nc zan):Calls Tryz.prog 106 #[.string zzg,.slice (some ⟨g,0,none⟩) 26 nc] w (PsQ g nc zan w zsY):=zag zal zae zsX g nc w hN
theorem zsW:zbD zbJ 106 zzf zan zeb=true:=by kernel_rfl
theorem zcK (g nc:Nat) (w:World) (hN:zbb w g nc zan):Calls Tryz.prog 106 #[.string zzf,.slice (some ⟨g,0,none⟩) 26 nc] w (PsQ g nc zan w zeb):=zag zal zae zsW g nc w hN
theorem zsO:zbD zbJ 106 zzb zan zsP=true:=by kernel_rfl
theorem zmt (g nc:Nat) (w:World) (hN:zbb w g nc zan):Calls Tryz.prog 106 #[.string zzb,.slice (some ⟨g,0,none⟩) 26 nc] w (PsQ g nc zan w zsP):=zag zal zae zsO g nc w hN
theorem zsM:zbD zbJ 106 zza zan zsN=true:=by kernel_rfl
theorem zms (g nc:Nat) (w:World) (hN:zbb w g nc zan):Calls Tryz.prog 106 #[.string zza,.slice (some ⟨g,0,none⟩) 26 nc] w (PsQ g nc zan w zsN):=zag zal zae zsM g nc w hN
theorem zsH:zbD zbJ 106 zyX zan zsI=true:=by kernel_rfl
theorem zmp (g nc:Nat) (w:World) (hN:zbb w g nc zan):Calls Tryz.prog 106 #[.string zyX,.slice (some ⟨g,0,none⟩) 26 nc] w (PsQ g nc zan w zsI):=zag zal zae zsH g nc w hN
theorem zst:zbD zbJ 106 zyP zan zqf=true:=by kernel_rfl
theorem zmg (g nc:Nat) (w:World) (hN:zbb w g nc zan):Calls Tryz.prog 106 #[.string zyP,.slice (some ⟨g,0,none⟩) 26 nc] w (PsQ g nc zan w zqf):=zag zal zae zst g nc w hN
end Pt
end
section
open Ev Go.RowKit
namespace Pt
theorem zwP:zbD zbJ 106 zDA zan zDB=true:=by kernel_rfl
theorem zqj (g nc:Nat) (w:World) (hN:zbb w g nc zan):Calls Tryz.prog 106 #[.string zDA,.slice (some ⟨g,0,none⟩) 26 nc] w (PsQ g nc zan w zDB):=zag zal zae zwP g nc w hN
theorem zwL:zbD zbJ 106 zDt zan zDu=true:=by kernel_rfl
theorem zqe (g nc:Nat) (w:World) (hN:zbb w g nc zan):Calls Tryz.prog 106 #[.string zDt,.slice (some ⟨g,0,none⟩) 26 nc] w (PsQ g nc zan w zDu):=zag zal zae zwL g nc w hN
theorem zwH:zbD zbJ 106 zDl zan zDm=true:=by kernel_rfl
theorem zqa (g nc:Nat) (w:World) (hN:zbb w g nc zan):Calls Tryz.prog 106 #[.string zDl,.slice (some ⟨g,0,none⟩) 26 nc] w (PsQ g nc zan w zDm):=zag zal zae zwH g nc w hN
theorem zwG:zbD zbJ 106 zDj zan zDk=true:=by kernel_rfl
theorem zpZ (g nc:Nat) (w:World) (hN:zbb w g nc zan):Calls Tryz.prog 106 #[.string zDj,.slice (some ⟨g,0,none⟩) 26 nc] w (PsQ g nc zan w zDk):=zag zal zae zwG g nc w hN
theorem ztC:zbD zbJ 106 zzy zan ztD=true:=by kernel_rfl
theorem zmL (g nc:Nat) (w:World) (hN:zbb w g nc zan):Calls Tryz.prog 106 #[.string zzy,.slice (some ⟨g,0,none⟩) 26 nc] w (PsQ g nc zan w ztD):=zag zal zae ztC g nc w hN
theorem ztu:zbD zbJ 106 zzt zan ztv=true:=by kernel_rfl
theorem zmH (g nc:Nat) (w:World) (hN:zbb w g nc zan):Calls Tryz.prog 106 #[.string zzt,.slice (some ⟨g,0,none⟩) 26 nc] w (PsQ g nc zan w ztv):=zag zal zae ztu g nc w hN
theorem zth:zbD zbJ 106 zzm zan zti=true:=by kernel_rfl
theorem zmB (g nc:Nat) (w:World) (hN:zbb w g nc zan):Calls Tryz.prog 106 #[.string zzm,.slice (some ⟨g,0,none⟩) 26 nc] w (PsQ g nc zan w zti):=zag zal zae zth g nc w hN
theorem zsQ:zbD zbJ 106 zzc zan zsR=true:=by kernel_rfl
theorem zmu (g nc:Nat) (w:World) (hN:zbb w g nc zan):Calls Tryz.prog 106 #[.string zzc,.slice (some ⟨g,0,none⟩) 26 nc] w (PsQ g nc zan w zsR):=zag zal zae zsQ g nc w hN
theorem zsK:zbD zbJ 106 zyZ zan zsL=true:=by kernel_rfl
theorem zmr (g nc:Nat) (w:World) (hN:zbb w g nc zan):Calls Tryz.prog 106 #[.string zyZ,.slice (some ⟨g,0,none⟩) 26 nc] w (PsQ g nc zan w zsL):=zag zal zae zsK g nc w hN
theorem zsE:zbD zbJ 106 zyV zan zmn=true:=by kernel_rfl
theorem zmm (g nc:Nat) (w:World) (hN:zbb w g nc zan):Calls Tryz.prog 106 #[.string zyV,.slice (some ⟨g,0,none⟩) 26 nc] w (PsQ g nc zan w zmn):=zag zal zae zsE g nc w hN
theorem zss:zbD zbJ 106 zyO zan zkj=true:=by kernel_rfl
theorem zgc (g nc:Nat) (w:World) (hN:zbb w g nc zan):Calls Tryz.prog 106 #[.string zyO,.slice (some ⟨g,0,none⟩) 26 nc] w (PsQ g nc zan w zkj):=zag zal zae zss g nc w hN
end Pt
end
section
open Ev Go.RowKit
namespace Pt
theorem zwN:zbD zbJ 106 zDw zan zDx=true:=by kernel_rfl
theorem zqh (g nc:Nat) (w:World) (hN:zbb w g nc zan):Calls Tryz.prog 106 #[.string zDw,.slice (some ⟨g,0,none⟩) 26 nc] w (PsQ g nc zan w zDx):=zag zal zae zwN g nc w hN
theorem zwJ:zbD zbJ 106 zDp zan zDq=true:=by kernel_rfl
theorem zqc (g nc:Nat) (w:World) (hN:zbb w g nc zan):Calls Tryz.prog 106 #[.string zDp,.slice (some ⟨g,0,none⟩) 26 nc] w (PsQ g nc zan w zDq):=zag zal zae zwJ g nc w hN
theorem zwI:zbD zbJ 106 zDn zan zDo=true:=by kernel_rfl
theorem zqb (g nc:Nat) (w:World) (hN:zbb w g nc zan):Calls Tryz.prog 106 #[.string zDn,.slice (some ⟨g,0,none⟩) 26 nc] w (PsQ g nc zan w zDo):=zag zal zae zwI g nc w hN
theorem ztt:zbD zbJ 106 zzs zan zkl=true:=by kernel_rfl
theorem zgf (g nc:Nat) (w:World) (hN:zbb w g nc zan):Calls Tryz.prog 106 #[.string zzs,.slice (some ⟨g,0,none⟩) 26 nc] w (PsQ g nc zan w zkl):=zag zal zae ztt g nc w hN
theorem ztn:zbD zbJ 106 zzp zan zto=true:=by kernel_rfl
theorem zmE (g nc:Nat) (w:World) (hN:zbb w g nc zan):Calls Tryz.prog 106 #[.string zzp,.slice (some ⟨g,0,none⟩) 26 nc] w (PsQ g nc zan w zto):=zag zal zae ztn g nc w hN
theorem ztf:zbD zbJ 106 zzl zan ztg=true:=by kernel_rfl
theorem zmA (g nc:Nat) (w:World) (hN:zbb w g nc zan):Calls Tryz.prog 106 #[.string zzl,.slice (some ⟨g,0,none⟩) 26 nc] w (PsQ g nc zan w ztg):=zag zal zae ztf g nc w hN
theorem zta:zbD zbJ 106 zzi zan zge=true:=by kernel_rfl
theorem zdI (g nc:Nat) (w:World) (hN:zbb w g nc zan):Calls Tryz.prog 106 #[.string zzi,.slice (some ⟨g,0,none⟩) 26 nc] w (PsQ g nc zan w zge):=zag zal zae zta g nc w hN
theorem zsZ:zbD zbJ 106 zzh zan zkk=true:=by kernel_rfl
theorem zgd (g nc:Nat) (w:World) (hN:zbb w g nc zan):Calls Tryz.prog 106 #[.string zzh,.slice (some ⟨g,0,none⟩) 26 nc] w (PsQ g nc zan w zkk):=zag zal zae zsZ g nc w hN
theorem zsC:zbD zbJ 106 zyU zan zsD=true:=by kernel_rfl
theorem zml (g nc:Nat) (w:World) (hN:zbb w g nc zan):Calls Tryz.prog 106 #[.string zyU,.slice (some ⟨g,0,none⟩) 26 nc] w (PsQ g nc zan w zsD):=zag zal zae zsC g nc w hN
theorem zsw:zbD zbJ 106 zyR zan zsx=true:=by kernel_rfl
theorem zmi (g nc:Nat) (w:World) (hN:zbb w g nc zan):Calls Tryz.prog 106 #[.string zyR,.slice (some ⟨g,0,none⟩) 26 nc] w (PsQ g nc zan w zsx):=zag zal zae zsw g nc w hN
end Pt
end
section
open Go.RowKit
namespace Li
open Pt
def bkc (c:List Int) (k:Nat):List Int:=(c.take k).reverse
theorem zBF (c:List Int):bkc c 0=[]:=rfl
theorem zhg {c:List Int} {k:Nat} (h:k<c.length):bkc c (k+1)=c.getD k 0::bkc c k:=by
 unfold bkc;rw[List.take_succ_eq_append_getElem h,xB,xb,xr h]
 rfl
def stp (c:List Int) (f:Int->Bool):Nat->Nat
 | 0=>0
 | k+1=>if f (c.getD k 0) then stp c f k else k+1
theorem stp_le (c:List Int) (f:Int->Bool):∀k,stp c f k<=k
 | 0=>xq _
 | k+1=>by
  unfold stp;have:=stp_le c f k
  split<;>omega
theorem zfE (c:List Int) (f:Int->Bool):∀k,k<=c.length->(bkc c k).dropWhile f=bkc c (stp c f k)
 | 0,_=>rfl
 | k+1,h=>by
  rw[zhg (by omega)]
  unfold stp
  cases hf:f (c.getD k 0) with
  | true=>rw[xw hf,if_pos rfl];exact zfE c f k (by omega)
  | false=>rw[xk (by rw[hf];simp),if_neg (by simp),zhg (by omega)]
theorem zhk (c:List Int) (f:Int->Bool):∀k m,stp c f k<=m->m<k->f (c.getD m 0)=true
 | 0,m,_,h=>by omega
 | k+1,m,h1,h2=>by
  unfold stp at h1
  split at h1
  ·rename_i hf
   rcases xp (Nat.le_of_lt_succ h2) with e | e
   ·exact e ▸ hf
   ·exact zhk c f k m h1 e
  ·omega
theorem zln (c:List Int) (f:Int->Bool):∀k,0<stp c f k->f (c.getD (stp c f k - 1) 0)=false
 | 0,h=>by unfold stp at h;omega
 | k+1,h=>by
  unfold stp at h⊢
  split
  ·rename_i hf
   rw[if_pos hf] at h;exact zln c f k h
  ·rename_i hf
   rw[xf]
   simpa using hf
theorem zny {c:List Int} {f:Int->Bool} {j k:Nat} (hj:j<=k) (h1:∀m,j<=m->m<k->f (c.getD m 0)=true) (h2:j=0\/f (c.getD (j - 1) 0)=false):stp c f k=j:=by
 rcases Nat.lt_trichotomy (stp c f k) j with h | h | h
 ·rcases h2 with h2 | h2
  ·omega
  ·have:=zhk c f k (j - 1) (by omega) (by omega)
   rw[h2] at this
   cases this
 ·exact h
 ·have h3:=zln c f k (by omega)
  have h4:=stp_le c f k;rw[h1 _ (by omega) (by omega)] at h3
  cases h3
theorem zje {c:List Int} {k:Nat} (hk:k<=c.length) {z:Int} (hz:z≠ -1):(bkc c k).headD (-1)=z ↔ 0<k/\c.getD (k - 1) 0=z:=by
 cases k with
 | zero=>rw[zBF];exact⟨fun h=>absurd h.symm hz,fun h=>by omega⟩
 | succ k=>rw[zhg (by omega),xe,xf];exact⟨fun h=>⟨by omega,h⟩,fun h=>h.2⟩
def clg (z:Int):Bool:=z==8
theorem zuU (z:Int):clg z=true ↔ z∈([8]:List Int):=by
 unfold clg;rw[beq_iff_eq,xg]
theorem zcj {c:List Int} {i:Nat} (h:i<c.length):c[i]? =some (c.getD i 0):=by
 rw[xb,xr h];rfl
def Rw (c:List Int) (i k:Nat):Prop:=i<=k/\∀m,i<=m->m<k->∃z,c[m]? =some z/\z∈([8]:List Int)
theorem zfF (c:List Int) (i k:Nat):zcR (led c (.mk 1 [8] [])) i k ↔ Rw c i k:=znB c [8] [] i k
theorem rw_f {c:List Int} {i k:Nat} (hk:k<=c.length):Rw c i k ↔ i<=k/\∀m,i<=m->m<k->clg (c.getD m 0)=true:=by
 unfold Rw;refine and_congr_right fun _=>forall_congr' fun m=>forall_congr' fun _=>forall_congr' fun hm=>?_
 rw[zuU,zcj (by omega)]
 exact⟨fun⟨z,h1,h2⟩=>by cases h1;exact h2,fun h=>⟨_,rfl,h⟩⟩
def EnR (c T:List Int) (k:Nat):Prop:=∃i,(∃z,c[i]? =some z/\z∈T)/\Rw c (i+1) k
theorem enr {c T:List Int} (hT:∀z∈T,clg z=false/\z≠ -1) {k:Nat} (hk:k<=c.length):EnR c T k ↔ ((bkc c k).dropWhile clg).headD (-1)∈T:=by
 have hle:=stp_le c clg k;rw[zfE c _ k hk]
 constructor
 ·rintro ⟨i,⟨z,h1,h2⟩,h3⟩
  have hil:=(xh.1 h1).1;obtain⟨h4,h5⟩:=(rw_f hk).1 h3;have hz:c.getD i 0=z:=by rw[xb,h1];rfl
  have e:=zny (f:=clg) h4 h5 (.inr (by rw[xf,hz];exact(hT z h2).1))
  rw[e,zhg hil,xe,hz];exact h2
 ·intro h
  obtain⟨z,hz⟩:∃z,z=(bkc c (stp c clg k)).headD (-1):=⟨_,rfl⟩;rw[<- hz] at h;obtain⟨h1,h2⟩:=(zje (by omega) (hT z h).2).1 hz.symm
  refine⟨stp c clg k - 1,⟨z,?_,h⟩,?_⟩
  ·rw[zcj (by omega),h2]
  ·rw[show stp c clg k - 1+1=stp c clg k by omega]
   exact(rw_f hk).2 ⟨hle,fun m h3 h4=>zhk c _ k m h3 h4⟩
theorem en_te (c T:List Int) (k:Nat):En c (.mk 2 [] [(.mk 1 T []),(.mk 4 [] [(.mk 1 [8] [])])]) k ↔ EnR c T k:=by
 unfold En EnR
 simp only[zwW,zef,zeg,zzA,zfF,zqm]
 constructor
 ·rintro ⟨i,_,_,⟨rfl,z,h1,h2⟩,_,h3,rfl⟩
  exact⟨i,⟨z,h1,h2⟩,h3⟩
 ·rintro ⟨i,⟨z,h1,h2⟩,h3⟩
  have:=h3.1;exact⟨i,by omega,i+1,⟨rfl,z,h1,h2⟩,k,h3,rfl⟩
theorem en_1 {c T:List Int} {k:Nat} (hk:0<k):En c (.mk 1 T []) k ↔ ∃z,c[k - 1]? =some z/\z∈T:=by
 unfold En
 simp only[zqm]
 constructor
 ·rintro ⟨i,_,rfl,h⟩
  exact h
 ·intro h
  exact⟨k - 1,by omega,by omega,h⟩
theorem en_0 (c:List Int) (k:Nat):En c (.mk 0 [] []) k:=⟨k,xq _,(led0 _ _ _).2 rfl⟩
theorem sw_0 (c:List Int) {k:Nat} (hk:k<=c.length):Sw c (.mk 0 [] []) k:=⟨k,xq _,hk,(led0 _ _ _).2 rfl⟩
theorem sw_1 {c T:List Int} {k:Nat}:Sw c (.mk 1 T []) k ↔ ∃z,c[k]? =some z/\z∈T:=by
 unfold Sw
 simp only[zqm]
 constructor
 ·rintro ⟨_,_,_,rfl,h⟩
  exact h
 ·rintro ⟨z,h1,h2⟩
  have:=(xh.1 h1).1;exact⟨k+1,by omega,by omega,rfl,z,h1,h2⟩
def rgc (z:Int):Bool:=z==25 || clg z
def odR:List Int->Bool->Bool
 | [],o=>o
 | z::l,o=>if z==25 then odR l (!o) else if clg z then odR l o else o
def cnt (c:List Int) (i:Nat):Nat->Nat
 | 0=>0
 | k+1=>if i<=k then (cnt c i k+if c.getD k 0==25 then 1 else 0) else 0
theorem znc {c:List Int} {i k:Nat} (h:i<=k):cnt c i (k+1)=cnt c i k+if c.getD k 0==25 then 1 else 0:=by
 conv=>lhs;unfold cnt
 rw[if_pos h]
theorem zne (c:List Int) (i:Nat):cnt c i i=0:=by
 cases i with
 | zero=>rfl
 | succ k=>unfold cnt;rw[if_neg (by omega)]
theorem zdb (c:List Int) {i j:Nat} (hij:i<=j):∀k,j<=k->cnt c i k=cnt c i j+cnt c j k
 | 0,h=>by
  obtain rfl:j=0:=by omega
  rfl
 | k+1,h=>by
  rcases xp h with e | e
  ·rw[<- e,zne];rfl
  ·rw[znc (by omega),znc (by omega:j<=k),zdb c hij k (by omega)]
   omega
theorem zkO {c:List Int} {i:Nat}:∀k,Rw c i k->cnt c i k=0
 | 0,_=>rfl
 | k+1,h=>by
  rcases xp h.1 with e | e
  ·rw[<- e,zne]
  ·rw[znc (by omega),zkO k ⟨by omega,fun m h1 h2=>h.2 m h1 (by omega)⟩]
   obtain⟨z,h1,h2⟩:=h.2 k (by omega) (by omega)
   have hz:c.getD k 0=z:=by rw[xb,h1];rfl
   rw[hz];have:(z==25)=false:=by
    rw[beq_eq_false_iff_ne];rintro rfl
    revert h2
    decide
   rw[this];rfl
theorem znd {c:List Int} {i:Nat} (h:c[i]? =some 25):cnt c i (i+1)=1:=by
 rw[znc (xq _),zne];have hz:c.getD i 0=25:=by rw[xb,h];rfl
 rw[hz];rfl
def Rg (c:List Int) (i k:Nat):Prop:=i<=k/\∀m,i<=m->m<k->∃z,c[m]? =some z/\rgc z=true
theorem Rg.nil (c:List Int) (i:Nat):Rg c i i:=⟨xq _,fun m h1 h2=>by omega⟩
theorem Rg.trans {c:List Int} {i j k:Nat} (h:Rg c i j) (h2:Rg c j k):Rg c i k:=⟨xI h.1 h2.1,fun m h3 h4=>by
 rcases xD m j with e | e
 ·exact h.2 m h3 e
 ·exact h2.2 m e h4⟩
theorem Rw.rg {c:List Int} {i k:Nat} (h:Rw c i k):Rg c i k:=⟨h.1,fun m h1 h2=>by
 obtain⟨z,h3,h4⟩:=h.2 m h1 h2;exact⟨z,h3,by unfold rgc;rw[(zuU z).2 h4,xE]⟩⟩
theorem Rg.one {c:List Int} {i:Nat} (h:c[i]? =some 25):Rg c i (i+1):=⟨by omega,fun m h1 h2=>by
 obtain rfl:m=i:=by omega
 exact⟨25,h,by decide⟩⟩
def zki:Pat:=.mk 2 [] [(.mk 1 [25] []),(.mk 4 [] [(.mk 1 [8] [])]),(.mk 1 [25] []),(.mk 4 [] [(.mk 1 [8] [])])]
theorem ztL (c:List Int) (i k:Nat):led c zki i k ↔ c[i]? =some 25/\∃m,Rw c (i+1) m/\c[m]? =some 25/\Rw c (m+1) k:=by
 unfold zki
 simp only[zwW,zef,zeg,zzA,zfF,zqm,xg]
 constructor
 ·rintro ⟨_,⟨rfl,z,h1,rfl⟩,m,h2,_,⟨rfl,y,h3,rfl⟩,_,h4,rfl⟩
  exact⟨h1,m,h2,h3,h4⟩
 ·rintro ⟨h1,m,h2,h3,h4⟩
  exact⟨_,⟨rfl,25,h1,rfl⟩,m,h2,_,⟨rfl,25,h3,rfl⟩,k,h4,rfl⟩
theorem zAg {c:List Int} {i k:Nat} (h:led c zki i k):Rg c i k/\cnt c i k=2:=by
 obtain⟨h1,m,h2,h3,h4⟩:=(ztL c i k).1 h;have q1:=h2.1;have q2:=h4.1;refine⟨(((Rg.one h1).trans h2.rg).trans (Rg.one h3)).trans h4.rg,?_⟩;rw[zdb c (by omega:i<=i+1) k (by omega),zdb c (by omega:i+1<=m) k (by omega),zdb c (by omega:m<=m+1) k (by omega),znd h1,zkO m h2,znd h3,zkO k h4]
theorem zvW {c:List Int} {i k:Nat} (h:zcR (led c zki) i k):Rg c i k/\cnt c i k % 2=0:=by
 induction h with
 | refl i=>exact⟨.nil c i,by rw[zne]⟩
 | step h1 _ ih=>
  obtain⟨q1,q2⟩:=zAg h1;obtain⟨q3,q4⟩:=ih;refine⟨q1.trans q3,?_⟩;rw[zdb c q1.1 _ q3.1];omega
theorem Rw.nil (c:List Int) (i:Nat):Rw c i i:=⟨xq _,fun m h1 h2=>by omega⟩
theorem Rw.snoc {c:List Int} {i k:Nat} {z:Int} (h:Rw c i k) (h1:c[k]? =some z) (h2:clg z=true):Rw c i (k+1):=⟨Nat.le_succ_of_le h.1,fun m h3 h4=>by
 rcases xD m k with e | e
 ·exact h.2 m h3 e
 ·obtain rfl:m=k:=by omega
  exact⟨z,h1,(zuU z).1 h2⟩⟩
def Ev (c:List Int) (i k:Nat):Prop:=Rw c i k\/∃j x m,Rw c i j/\zcR (led c zki) j x/\c[x]? =some 25/\Rw c (x+1) m/\c[m]? =some 25/\Rw c (m+1) k
def Od (c:List Int) (i k:Nat):Prop:=∃j x,Rw c i j/\zcR (led c zki) j x/\c[x]? =some 25/\Rw c (x+1) k
theorem zBn {c:List Int} {i k:Nat} (h:Ev c i k):∃j,Rw c i j/\zcR (led c zki) j k:=by
 rcases h with h | ⟨j,x,m,h1,h2,h3,h4,h5,h6⟩
 ·exact⟨k,h,.refl k⟩
 ·exact⟨j,h1,h2.trans (.step ((ztL c x k).2 ⟨h3,m,h4,h5,h6⟩) (.refl k))⟩
theorem zGf (c:List Int) (i:Nat):∀k,Rg c i k->(cnt c i k % 2=0->Ev c i k)/\(cnt c i k % 2=1->Od c i k)
 | 0,h=>by
  obtain rfl:i=0:=by have:=h.1;omega
  exact⟨fun _=>.inl (.nil c 0),fun e=>by rw[zne] at e;cases e⟩
 | k+1,h=>by
  rcases xp h.1 with e | e
  ·subst e
   exact⟨fun _=>.inl (.nil c _),fun e=>by rw[zne] at e;cases e⟩
  ·obtain⟨h1,h2⟩:=zGf c i k ⟨by omega,fun m h3 h4=>h.2 m h3 (by omega)⟩
   obtain⟨z,hz,hr⟩:=h.2 k (by omega) (by omega)
   have hzg:c.getD k 0=z:=by rw[xb,hz];rfl
   rw[znc (by omega),hzg]
   unfold rgc at hr
   cases h7:(z==25) with
   | true=>
    rw[if_pos rfl];have hz7:z=25:=eq_of_beq h7;subst hz7
    constructor
    ·intro e2
     obtain⟨j,x,k1,k2,k3,k4⟩:=h2 (by omega)
     exact .inr ⟨j,x,k,k1,k2,k3,k4,hz,.nil c _⟩
    ·intro e2
     obtain⟨j,k1,k2⟩:=zBn (h1 (by omega))
     exact⟨j,k,k1,k2,hz,.nil c _⟩
   | false=>
    rw[if_neg (by simp),xJ]
    rw[h7,xG] at hr
    constructor
    ·intro e2
     rcases h1 e2 with h3 | ⟨j,x,m,k1,k2,k3,k4,k5,k6⟩
     ·exact .inl (h3.snoc hz hr)
     ·exact .inr ⟨j,x,m,k1,k2,k3,k4,k5,k6.snoc hz hr⟩
    ·intro e2
     obtain⟨j,x,k1,k2,k3,k4⟩:=h2 e2;exact⟨j,x,k1,k2,k3,k4.snoc hz hr⟩
theorem zoi {c:List Int} {i k:Nat} (h:Od c i k):Rg c i k/\cnt c i k % 2=1:=by
 obtain⟨j,x,h1,h2,h3,h4⟩:=h;obtain⟨q1,q2⟩:=zvW h2;have q3:=h1.1;have q4:=q1.1;have q5:=h4.1;refine⟨((h1.rg.trans q1).trans (Rg.one h3)).trans h4.rg,?_⟩;rw[zdb c q3 k (by omega),zdb c q4 k (by omega),zdb c (by omega:x<=x+1) k (by omega),zkO j h1,znd h3,zkO k h4]
 omega
theorem zCR (c:List Int) (i k:Nat):Od c i k ↔ Rg c i k/\cnt c i k % 2=1:=⟨zoi,fun h=>(zGf c i k h.1).2 h.2⟩
theorem zFI (c:List Int) (i k:Nat):led c zqf i k ↔ Od c i k:=by
 unfold zqf Od
 simp only[zwW,zef,zeg,zzA,zfF,zqm,xg]
 have e:(fun i j=>led c (.mk 2 [] [(.mk 1 [25] []),(.mk 4 [] [(.mk 1 [8] [])]),(.mk 1 [25] []),(.mk 4 [] [(.mk 1 [8] [])])]) i j)=led c zki:=rfl
 constructor
 ·rintro ⟨j,h1,x,h2,_,⟨rfl,z,h3,rfl⟩,_,h4,rfl⟩
  exact⟨j,x,h1,h2,h3,h4⟩
 ·rintro ⟨j,x,h1,h2,h3,h4⟩
  exact⟨j,h1,x,h2,_,⟨rfl,25,h3,rfl⟩,k,h4,rfl⟩
theorem zyD (c:List Int):∀k,k<=c.length->∀o,odR (bkc c k) o=(o != (cnt c (stp c rgc k) k % 2==1))
 | 0,_,o=>by cases o<;>rfl
 | k+1,hk,o=>by
  have hle:=stp_le c rgc k;have ih:=zyD c k (by omega)
  rw[zhg (by omega)]
  unfold odR stp
  cases h7:(c.getD k 0==25) with
  | true=>
   have hr:rgc (c.getD k 0)=true:=by unfold rgc;rw[h7];rfl
   rw[if_pos rfl,if_pos hr,ih (!o),znc hle,h7,if_pos rfl]
   generalize cnt c (stp c rgc k) k=n
   rcases xx n with e | e
   ·rw[e,show(n+1) % 2=1 by omega];cases o<;>rfl
   ·rw[e,show(n+1) % 2=0 by omega];cases o<;>rfl
  | false=>
   cases hc:clg (c.getD k 0) with
   | true=>
    have hr:rgc (c.getD k 0)=true:=by unfold rgc;rw[hc,xE]
    rw[if_neg (by simp),if_pos rfl,if_pos hr,ih o,znc hle,h7,if_neg (by simp),xJ]
   | false=>
    have hr:rgc (c.getD k 0)=false:=by unfold rgc;rw[h7,hc];rfl
    rw[if_neg (by simp),if_neg (by simp),if_neg (by rw[hr];simp),zne]
    cases o<;>rfl
def Cls (c:List Int):Prop:=∀z∈c,0<=z/\z<=25
def LR:List Int:=[0,1,2,3,4,5,6,7,9,10,11,12,13,14,15,16,17,18,19,20,21,22,23,24]
theorem zDd {z:Int} (h:0<=z/\z<=25):z∈LR ↔ rgc z=false:=by
 obtain⟨n,rfl⟩:∃n:Nat,z=n:=⟨z.toNat,by omega⟩
 have H:((xv 26).all fun(n:Nat)=>decide ((n:Int)∈LR)== !rgc (n:Int))=true:=by decide
 have h1:=eq_of_beq (xi.1 H n (xu.2 (by omega)))
 rw[<- decide_eq_true_iff (p:=(n:Int)∈LR),h1]
 simp
def Od2 (c:List Int) (k:Nat):Prop:=∃i,(∃z,c[i]? =some z/\z∈LR)/\Od c (i+1) k
theorem en_29 (c:List Int) (k:Nat):En c zmf k ↔ Od2 c k:=by
 have e:∀i,led c zmf i k ↔ (∃z,c[i]? =some z/\z∈LR)/\Od c (i+1) k:=fun i=>by
  unfold zmf Od LR
  simp only[zwW,zef,zeg,zzA,zfF,zqm]
  constructor
  ·rintro ⟨_,⟨rfl,h0⟩,j,h1,x,h2,_,⟨rfl,z,h3,hz⟩,_,h4,rfl⟩
   rw[xg] at hz;subst hz;exact⟨h0,j,x,h1,h2,h3,h4⟩
  ·rintro ⟨h0,j,x,h1,h2,h3,h4⟩
   exact⟨_,⟨rfl,h0⟩,j,h1,x,h2,_,⟨rfl,25,h3,by simp⟩,k,h4,rfl⟩
 unfold En Od2
 constructor
 ·rintro ⟨i,_,h⟩
  exact⟨i,(e i).1 h⟩
 ·rintro ⟨i,h⟩
  have:=(zoi h.2).1.1;exact⟨i,by omega,(e i).2 h⟩
theorem zyx {c:List Int} {i k:Nat} (h:Rg c i k) (h2:i=0\/rgc (c.getD (i - 1) 0)=false):stp c rgc k=i:=
 zny h.1 (fun m h3 h4=>by
  obtain⟨z,h5,h6⟩:=h.2 m h3 h4;rw[xb,h5];exact h6) h2
theorem zCS {c:List Int} (hc:Cls c) {k:Nat} (hk:k<=c.length):(Od c 0 k\/Od2 c k) ↔ odR (bkc c k) false=true:=by
 have hle:=stp_le c rgc k;rw[zyD c k hk];have hrg:Rg c (stp c rgc k) k:=⟨hle,fun m h1 h2=>⟨_,zcj (by omega),zhk c rgc k m h1 h2⟩⟩
 constructor
 ·rintro (h | ⟨i,⟨z,h1,h2⟩,h3⟩)
  ·obtain⟨h4,h5⟩:=zoi h
   rw[zyx h4 (.inl rfl),h5];rfl
  ·obtain⟨h4,h5⟩:=zoi h3
   have hz:c.getD i 0=z:=by rw[xb,h1];rfl
   rw[zyx h4 (.inr (by rw[xf,hz];exact(zDd (hc z (xn h1))).1 h2)),h5];rfl
 ·intro h
  have ho:cnt c (stp c rgc k) k % 2=1:=by
   rcases xx (cnt c (stp c rgc k) k) with e | e
   ·rw[e] at h;cases h
   ·exact e
  rcases xt (stp c rgc k) with e | e
  ·left
   rw[e] at hrg ho;exact(zCR c 0 k).2 ⟨hrg,ho⟩
  ·right
   obtain⟨i,hi⟩:∃i,stp c rgc k=i+1:=⟨stp c rgc k - 1,by omega⟩
   have ht:=zln c rgc k e;rw[hi] at hrg ho ht hle;rw[xf] at ht;have hg:=zcj (c:=c) (i:=i) (by omega)
   exact⟨i,⟨_,hg,(zDd (hc _ (xn hg))).2 ht⟩,(zCR c (i+1) k).2 ⟨hrg,ho⟩⟩
theorem ziv:∀A:List Int,odR A false=true->(A.dropWhile clg).headD (-1)=25
 | [],h=>by cases h
 | z::l,h=>by
  unfold odR at h
  cases h7:(z==25) with
  | true=>
   have:z=25:=eq_of_beq h7;subst this
   rfl
  | false=>
   rw[h7,if_neg (by simp)] at h
   cases hc:clg z with
   | true=>
    rw[hc,if_pos rfl] at h;rw[xw hc];exact ziv l h
   | false=>rw[hc,if_neg (by simp)] at h;cases h
def spq (z:Int):Bool:=z==4
def Rs (c:List Int) (i k:Nat):Prop:=i<=k/\∀m,i<=m->m<k->∃z,c[m]? =some z/\z∈([4]:List Int)
theorem zyp (c:List Int) (i k:Nat):zcR (led c (.mk 1 [4] [])) i k ↔ Rs c i k:=znB c [4] [] i k
theorem zyt {c:List Int} {i k:Nat} (h:Rs c i k) (h2:i=0\/spq (c.getD (i - 1) 0)=false):stp c spq k=i:=
 zny h.1 (fun m h3 h4=>by
  obtain⟨z,h5,h6⟩:=h.2 m h3 h4;rw[xb,h5];rw[xg] at h6;rw[h6];rfl) h2
theorem zyo (c:List Int) {k:Nat} (hk:k<=c.length):Rs c (stp c spq k) k:=⟨stp_le c spq k,fun m h1 h2=>⟨_,zcj (by omega),by
 have:=zhk c spq k m h1 h2;rw[xg];exact eq_of_beq this⟩⟩
theorem en_ts {c T:List Int} (hT:∀z∈T,spq z=false/\z≠ -1) {k:Nat} (hk:k<=c.length):En c (.mk 2 [] [(.mk 1 T []),(.mk 4 [] [(.mk 1 [4] [])])]) k ↔ ((bkc c k).dropWhile spq).headD (-1)∈T:=by
 have hle:=stp_le c spq k;have e0:En c (.mk 2 [] [(.mk 1 T []),(.mk 4 [] [(.mk 1 [4] [])])]) k ↔ ∃i,(∃z,c[i]? =some z/\z∈T)/\Rs c (i+1) k:=by
  unfold En
  simp only[zwW,zef,zeg,zzA,zyp,zqm]
  constructor
  ·rintro ⟨i,_,_,⟨rfl,z,h1,h2⟩,_,h3,rfl⟩
   exact⟨i,⟨z,h1,h2⟩,h3⟩
  ·rintro ⟨i,⟨z,h1,h2⟩,h3⟩
   have:=h3.1;exact⟨i,by omega,i+1,⟨rfl,z,h1,h2⟩,k,h3,rfl⟩
 rw[e0,zfE c _ k hk]
 constructor
 ·rintro ⟨i,⟨z,h1,h2⟩,h3⟩
  have hil:=(xh.1 h1).1;have hz:c.getD i 0=z:=by rw[xb,h1];rfl
  rw[zyt h3 (.inr (by rw[xf,hz];exact(hT z h2).1)),zhg hil,xe,hz]
  exact h2
 ·intro h
  obtain⟨z,hz⟩:∃z,z=(bkc c (stp c spq k)).headD (-1):=⟨_,rfl⟩;rw[<- hz] at h;obtain⟨h1,h2⟩:=(zje (by omega) (hT z h).2).1 hz.symm
  have hr:=zyo c hk;refine⟨stp c spq k - 1,⟨z,by rw[zcj (by omega),h2],h⟩,?_⟩
  rw[show stp c spq k - 1+1=stp c spq k by omega];exact hr
theorem zGi {c T:List Int} (hT:∀z∈T,clg z=false/\z≠ -1) (h4:∀z∈T,spq z=false) {k:Nat} (hk:k<=c.length):En c (.mk 2 [] [(.mk 1 T []),(.mk 4 [] [(.mk 1 [8] [])]),(.mk 4 [] [(.mk 1 [4] [])])]) k ↔ (((bkc c k).dropWhile spq).dropWhile clg).headD (-1)∈T:=by
 have hle:=stp_le c spq k;rw[zfE c spq k hk,<- enr hT (by omega)]
 unfold En EnR
 simp only[zwW,zef,zeg,zzA,zfF,zyp,zqm]
 constructor
 ·rintro ⟨i,_,_,⟨rfl,z,h1,h2⟩,j,h3,x,h5,hx⟩
  rw[hx] at h5;have hz:c.getD i 0=z:=by rw[xb,h1];rfl
  have e:stp c spq k=j:=zyt h5 (.inr (by
   have h30:=h3.1
   rcases xp h30 with e | e
   ·rw[<- e,xf,hz];exact h4 z h2
   ·obtain⟨y,h6,h7⟩:=h3.2 (j - 1) (by omega) (by omega)
    rw[xb,h6];rw[xg] at h7;rw[h7];rfl))
  rw[e];exact⟨i,⟨z,h1,h2⟩,h3⟩
 ·rintro ⟨i,⟨z,h1,h2⟩,h3⟩
  have:=h3.1;exact⟨i,by omega,i+1,⟨rfl,z,h1,h2⟩,_,h3,k,zyo c hk,rfl⟩
def lst (A:List Int):Int:=(A.dropWhile clg).headD (-1)
theorem znN {c:List Int} {i j k:Nat} (h:Rw c i j) (h2:Rw c j k):Rw c i k:=⟨xI h.1 h2.1,fun m h3 h4=>by
 rcases xD m j with e | e
 ·exact h.2 m h3 e
 ·exact h2.2 m e h4⟩
theorem zyn (c:List Int) {k:Nat} (hk:k<=c.length):Rw c (stp c clg k) k:=(rw_f hk).2 ⟨stp_le c clg k,fun m h1 h2=>zhk c clg k m h1 h2⟩
theorem zys {c:List Int} {i k:Nat} (hk:k<=c.length) (h:Rw c i k) (h2:i=0\/clg (c.getD (i - 1) 0)=false):stp c clg k=i:=by
 obtain⟨h3,h4⟩:=(rw_f hk).1 h;exact zny h3 h4 h2
def Opt (c U:List Int) (P:Nat->Prop) (k:Nat):Prop:=∃j,P j/\∃j2,(j=j2\/(j2=j+1/\∃z,c[j]? =some z/\z∈U))/\Rw c j2 k
theorem zyC {c U:List Int} {P:Nat->Prop} (hcl:∀i k,P i->Rw c i k->P k) (hU:∀z∈U,clg z=false/\z≠ -1) (hP:∀k,k<=c.length->P k->lst (bkc c k) ∉ U) {k:Nat} (hk:k<=c.length):
  Opt c U P k ↔ (if lst (bkc c k)∈U then P (stp c clg k - 1) else P k):=by
 have hle:=stp_le c clg k;have hd:=zfE c clg k hk
 constructor
 ·rintro ⟨j,h1,j2,rfl | ⟨rfl,z,h2,h3⟩,h4⟩
  ·have h5:=hcl j k h1 h4
   rw[if_neg (hP k hk h5)];exact h5
  ·have hil:=(xh.1 h2).1
   have hz:c.getD j 0=z:=by rw[xb,h2];rfl
   have e:=zys hk h4 (.inr (by rw[xf,hz];exact(hU z h3).1))
   have hl:lst (bkc c k)=z:=by unfold lst;rw[hd,e,zhg hil,xe,hz]
   rw[if_pos (by rw[hl];exact h3),e,xf]
   exact h1
 ·intro h
  by_cases hm:lst (bkc c k)∈U
  ·rw[if_pos hm] at h
   have hl:(bkc c (stp c clg k)).headD (-1)=lst (bkc c k):=by unfold lst;rw[hd]
   obtain⟨h1,h2⟩:=(zje (by omega) (hU _ hm).2).1 hl
   refine⟨_,h,stp c clg k,.inr ⟨by omega,_,by rw[zcj (by omega),h2],hm⟩,zyn c hk⟩
  ·rw[if_neg hm] at h
   exact⟨k,h,k,.inl rfl,.nil c k⟩
theorem zCK {c U:List Int} {P:Nat->Prop} (i k:Nat) (h:Opt c U P i) (h2:Rw c i k):Opt c U P k:=by
 obtain⟨j,h3,j2,h4,h5⟩:=h;exact⟨j,h3,j2,h4,znN h5 h2⟩
theorem zGh {c T:List Int} (i k:Nat) (h:EnR c T i) (h2:Rw c i k):EnR c T k:=by
 obtain⟨j,h3,h4⟩:=h;exact⟨j,h3,znN h4 h2⟩
def Num (c:List Int) (k:Nat):Prop:=Opt c [10,11] (Opt c [14,15] (EnR c [20])) k
theorem en_37 (c:List Int) (k:Nat):En c zqg k ↔ Num c k:=by
 unfold En zqg Num Opt EnR
 simp only[zwW,zef,zeg,zzA,zfF,led6,zqm]
 constructor
 ·rintro ⟨i,_,_,⟨rfl,h1⟩,j1,h2,j2,h3,j3,h4,j4,h5,_,h6,rfl⟩
  exact⟨j3,⟨j1,⟨i,h1,h2⟩,j2,h3,h4⟩,j4,h5,h6⟩
 ·rintro ⟨j3,⟨j1,⟨i,h1,h2⟩,j2,h3,h4⟩,j4,h5,h6⟩
  have a1:=h2.1;have a2:=h4.1;have a3:=h6.1;have a4:j1<=j2:=by rcases h3 with h | h<;>omega
  have a5:j3<=j4:=by rcases h5 with h | h<;>omega
  exact⟨i,by omega,i+1,⟨rfl,h1⟩,j1,h2,j2,h3,j3,h4,j4,h5,k,h6,rfl⟩
def p1L (A:List Int):Bool:=if lst A==14 || lst A==15 then lst (A.dropWhile clg).tail==20 else lst A==20
def zqN (A:List Int):Bool:=if lst A==10 || lst A==11 then p1L (A.dropWhile clg).tail else p1L A
theorem zCk (c:List Int) {k:Nat} (hk:k<=c.length) (h:lst (bkc c k)≠ -1):((bkc c k).dropWhile clg).tail=bkc c (stp c clg k - 1):=by
 have hle:=stp_le c clg k;unfold lst at h;rw[zfE c clg k hk] at h⊢
 rcases xt (stp c clg k) with e | e
 ·rw[e,zBF] at h
  exact absurd rfl h
 ·obtain⟨m,hm⟩:∃m,stp c clg k=m+1:=⟨stp c clg k - 1,by omega⟩
  rw[hm,zhg (by omega),xF,xf]
theorem zAz (c:List Int) {k:Nat} (hk:k<=c.length):EnR c [20] k ↔ lst (bkc c k)=20:=by
 rw[enr (by decide) hk,xg];rfl
theorem zAy (c:List Int) {k:Nat} (hk:k<=c.length):Opt c [14,15] (EnR c [20]) k ↔ p1L (bkc c k)=true:=by
 have hle:=stp_le c clg k;rw[zyC (P:=EnR c [20]) (fun i k h h2=>zGh i k h h2) (by decide) (fun k hk h=>by rw[(zAz c hk).1 h];decide) hk]
 unfold p1L
 by_cases h:lst (bkc c k)=14\/lst (bkc c k)=15
 ·have h1:lst (bkc c k)∈([14,15]:List Int):=by simpa using h
  have h2:(lst (bkc c k)==14 || lst (bkc c k)==15)=true:=by simpa using h
  rw[if_pos h1,if_pos h2,zAz c (by omega),zCk c hk (by omega),beq_iff_eq]
 ·have h1:¬lst (bkc c k)∈([14,15]:List Int):=by simpa using h
  have h2:¬(lst (bkc c k)==14 || lst (bkc c k)==15)=true:=by simpa using h
  rw[if_neg h1,if_neg h2,zAz c hk,beq_iff_eq]
theorem zCV (c:List Int) {k:Nat} (hk:k<=c.length):Num c k ↔ zqN (bkc c k)=true:=by
 have hle:=stp_le c clg k;unfold Num;rw[zyC (P:=Opt c [14,15] (EnR c [20])) (fun i k h h2=>zCK i k h h2) (by decide) (fun k hk h=>by
  have h1:=(zAy c hk).1 h;unfold p1L at h1;intro h2;have h3:lst (bkc c k)=10\/lst (bkc c k)=11:=by simpa using h2
  rw[if_neg (by rcases h3 with e | e<;>rw[e]<;>decide)] at h1
  have h4:=eq_of_beq h1;omega) hk]
 unfold zqN
 by_cases h:lst (bkc c k)=10\/lst (bkc c k)=11
 ·have h1:lst (bkc c k)∈([10,11]:List Int):=by simpa using h
  have h2:(lst (bkc c k)==10 || lst (bkc c k)==11)=true:=by simpa using h
  rw[if_pos h1,if_pos h2,zAy c (by omega),zCk c hk (by omega)]
 ·have h1:¬lst (bkc c k)∈([10,11]:List Int):=by simpa using h
  have h2:¬(lst (bkc c k)==10 || lst (bkc c k)==11)=true:=by simpa using h
  rw[if_neg h1,if_neg h2,zAy c hk]
def zvJ (c:Int):Bool:=c==1 || (c==2 || c==3)
def held (a b:Int):Bool:=
 if b==6 || b==11 || b==10 || b==13 || b==14 || b==15 then true else if a==9 then true else if a==12 then b==9 else if a==11 || a==10 then b==24 else if a==18 then b==18 else false
def zxj (a b:Int):Bool:=a==6 || a==7 || b==7&& !(a==4 || a==17 || a==16)
def tog (a b:Int):Bool:=
 if a==12 then true else if a==0 || a==20 then b==0 || b==20 || b==9 || b==21 || b==22 else if a==14 || a==10 || a==21 then b==0 || b==20 else
 if a==22 then b==0 || b==20 || b==23 else if a==16 || a==15 then b==20 else if a==23 then b==21 else false
def jnB (s b:Int) (nm nx od:Bool):Bool:=
 if zxj s b || (b==12 || b==17 || b==16 || b==24 || b==19) || tog s b then true else if b==21 || b==22 then nm else if (s==21 || s==22)&&b==9 then nx else if s==25&&b==25 then od else false
def lnL (A B:List Int):Bool:=
 if A.headD (-1)==2&&B.headD (-1)==3 then false else if zvJ (A.headD (-1)) then true else if zvJ (B.headD (-1)) || (B.headD (-1)==4 || B.headD (-1)==5) then false else
 if (A.dropWhile spq).headD (-1)==5 then true else if A.headD (-1)==4 then !held (lst (A.dropWhile spq)) (B.headD (-1)) else
 !(B.headD (-1)==8)&&(!held (lst (A.dropWhile spq)) (B.headD (-1))&& !jnB (lst A) (B.headD (-1)) (zqN A) (B.tail.headD (-1)==20) (odR A false))
def lnF (a b s h:Int) (z5 nm nx od:Bool):Bool:=
 if a==2&&b==3 then false else if zvJ a then true else if zvJ b || (b==4 || b==5) then false else if z5 then true else if a==4 then !held h b else !(b==8)&&(!held h b&& !jnB s b nm nx od)
def lnE (a b s h:Int) (z5 nm nx o0 o1:Bool):Bool:=bif a==2&&b==3 then false else bif (a==1 || (a==2 || (a==3))) then true else bif (b==1 || (b==2 || (b==3 || (b==4 || (b==5))))) then false else bif z5 then true else bif (a==0 || (a==6 || (a==7 || (a==8 || (a==9 || (a==10 || (a==11 || (a==12 || (a==13 || (a==14 || (a==15 || (a==16 || (a==17 || (a==18 || (a==19 || (a==20 || (a==21 || (a==22 || (a==23 || (a==24 || (a==25)))))))))))))))))))))&&b==8 then false else bif b==6 then false else bif s==6 then false else bif s==7 then false else bif (s==0 || (s==1 || (s==2 || (s==3 || (s==5 || (s==6 || (s==7 || (s==9 || (s==10 || (s==11 || (s==12 || (s==13 || (s==14 || (s==15 || (s==18 || (s==19 || (s==20 || (s==21 || (s==22 || (s==23 || (s==24 || (s==25))))))))))))))))))))))&&b==7 then false else bif s== -1&&b==7 then false else bif (b==10 || (b==11 || (b==13 || (b==14 || (b==15))))) then false else bif h==9 then false else bif h==12&&b==9 then false else bif (h==10 || (h==11))&&b==24 then false else bif h==18&&b==18 then false else bif a==4 then true else bif b==12 then false else bif s==12 then false else bif (b==16 || (b==17 || (b==24))) then false else bif b==19 then false else bif s==0&&b==20 then false else bif s==20&&b==0 then false else bif s==22&&b==23 then false else bif s==23&&b==21 then false else bif (s==21 || (s==22))&&b==0 then false else bif s==0&&(b==21 || (b==22)) then false else bif nm&&(b==21 || (b==22)) then false else bif (s==21 || (s==22))&&(b==20 || ((b==9 || b==16)&&nx)) then false else bif (s==14 || (s==15 || (s==16 || (s==20))))&&b==20 then false else bif s==0&&b==0 then false else bif s==14&&b==0 then false else bif (s==0 || (s==20))&&b==9 then false else bif s==10&&(b==0 || (b==20)) then false else bif o0&&b==25 then false else bif o1&&b==25 then false else true
def al2 (p:Bool->Bool):Bool:=p true&&p false
theorem zkX {p:Bool->Bool} (h:al2 p=true) (x:Bool):p x=true:=by
 unfold al2 at h;rw[xa] at h
 cases x
 ·exact h.2
 ·exact h.1
def lnB (a b s h:Int):Bool:=al2 fun z5=>al2 fun nm=>al2 fun nx=>al2 fun o0=>al2 fun o1=>(a==5&& !z5) || (s==20&& !nm) || s==8 || ((o0 || o1)&& !(s==25)) || (lnE a b s h z5 nm nx o0 o1==lnF a b s h z5 nm nx (o0 || o1))
theorem lnB_1:((xv 26).all fun a=>(a==4 || a==8) || (xv 26).all fun b=>lnB a b a a)=true:=by decide+kernel
theorem lnB_4:((xv 26).all fun b=>lnB 4 b 4 (-1)&&(xv 26).all fun x=>lnB 4 b 4 x)=true:=by decide+kernel
theorem lnB_8:((xv 26).all fun b=>lnB 8 b (-1) (-1)&&(xv 26).all fun x=>lnB 8 b x x)=true:=by decide+kernel
theorem m1 (x t:Int):x∈ [t] ↔ (x==t)=true:=by rw[xg,beq_iff_eq]
theorem m_0 (x:Int):x∈([1,2,3]:List Int) ↔ (x==1 || (x==2 || (x==3)))=true:=by simp only[xm,xj,or_false,xd,beq_iff_eq]
theorem m_1 (x:Int):x∈([1,2,3,4,5]:List Int) ↔ (x==1 || (x==2 || (x==3 || (x==4 || (x==5)))))=true:=by simp only[xm,xj,or_false,xd,beq_iff_eq]
theorem m_2 (x:Int):x∈([0,6,7,8,9,10,11,12,13,14,15,16,17,18,19,20,21,22,23,24,25]:List Int) ↔ (x==0 || (x==6 || (x==7 || (x==8 || (x==9 || (x==10 || (x==11 || (x==12 || (x==13 || (x==14 || (x==15 || (x==16 || (x==17 || (x==18 || (x==19 || (x==20 || (x==21 || (x==22 || (x==23 || (x==24 || (x==25)))))))))))))))))))))=true:=by simp only[xm,xj,or_false,xd,beq_iff_eq]
theorem m_3 (x:Int):x∈([0,1,2,3,5,6,7,9,10,11,12,13,14,15,18,19,20,21,22,23,24,25]:List Int) ↔ (x==0 || (x==1 || (x==2 || (x==3 || (x==5 || (x==6 || (x==7 || (x==9 || (x==10 || (x==11 || (x==12 || (x==13 || (x==14 || (x==15 || (x==18 || (x==19 || (x==20 || (x==21 || (x==22 || (x==23 || (x==24 || (x==25))))))))))))))))))))))=true:=by simp only[xm,xj,or_false,xd,beq_iff_eq]
theorem m_4 (x:Int):x∈([10,11,13,14,15]:List Int) ↔ (x==10 || (x==11 || (x==13 || (x==14 || (x==15)))))=true:=by simp only[xm,xj,or_false,xd,beq_iff_eq]
theorem m_5 (x:Int):x∈([10,11]:List Int) ↔ (x==10 || (x==11))=true:=by simp only[xm,xj,or_false,xd,beq_iff_eq]
theorem m_6 (x:Int):x∈([16,17,24]:List Int) ↔ (x==16 || (x==17 || (x==24)))=true:=by simp only[xm,xj,or_false,xd,beq_iff_eq]
theorem m_7 (x:Int):x∈([21,22]:List Int) ↔ (x==21 || (x==22))=true:=by simp only[xm,xj,or_false,xd,beq_iff_eq]
theorem m_8 (x:Int):x∈([14,15,16,20]:List Int) ↔ (x==14 || (x==15 || (x==16 || (x==20))))=true:=by simp only[xm,xj,or_false,xd,beq_iff_eq]
theorem m_9 (x:Int):x∈([0,20]:List Int) ↔ (x==0 || (x==20))=true:=by simp only[xm,xj,or_false,xd,beq_iff_eq]
theorem zFE {a b s h:Int} (ha:0<=a/\a<=25) (hb:0<=b/\b<=25) (hs: -1<=s/\s<=25) (hh: -1<=h/\h<=25) (c1:a≠4->h=s) (c2:a≠8->s=a) (c3:s≠8) (z5 nm nx o0 o1:Bool) (k1:a=5->z5=true) (k2:s=20->nm=true) (k3:(o0 || o1)=true->s=25):
  lnE a b s h z5 nm nx o0 o1=lnF a b s h z5 nm nx (o0 || o1):=by
 have fin:lnB a b s h=true->lnE a b s h z5 nm nx o0 o1=lnF a b s h z5 nm nx (o0 || o1):=fun H=>by
  unfold lnB at H;have H2:=zkX (zkX (zkX (zkX (zkX H z5) nm) nx) o0) o1
  simp only[xd,xa,beq_iff_eq,Bool.not_eq_true'] at H2
  rcases H2 with (((⟨e1,e2⟩ | ⟨e1,e2⟩) | e1) | ⟨e1,e2⟩) | e
  ·rw[k1 e1] at e2;cases e2
  ·rw[k2 e1] at e2;cases e2
  ·exact absurd e1 c3
  ·have:=k3 (by rw[xd];exact e1)
   rw[this] at e2
   cases e2
  ·exact e
 obtain⟨bn,rfl⟩:∃n:Nat,b=n:=⟨b.toNat,by omega⟩
 have hbn:=xu.2 (show bn<26 by omega)
 refine fin ?_
 by_cases e4:a=4
 ·subst e4
  obtain rfl:s=4:=c2 (by decide)
  have k:=xi.1 lnB_4 bn hbn;rw[xa] at k
  rcases Int.lt_or_le h 0 with e | e
  ·obtain rfl:h= -1:=by omega
   exact k.1
  ·obtain⟨x,rfl⟩:∃n:Nat,h=n:=⟨h.toNat,by omega⟩
   exact xi.1 k.2 x (xu.2 (by omega))
 ·obtain rfl:=c1 e4
  by_cases e8:a=8
  ·subst e8
   have k:=xi.1 lnB_8 bn hbn;rw[xa] at k
   rcases Int.lt_or_le h 0 with e | e
   ·obtain rfl:h= -1:=by omega
    exact k.1
   ·obtain⟨x,rfl⟩:∃n:Nat,h=n:=⟨h.toNat,by omega⟩
    exact xi.1 k.2 x (xu.2 (by omega))
  ·obtain rfl:=c2 e8
   obtain⟨x,rfl⟩:∃n:Nat,h=n:=⟨h.toNat,by omega⟩
   have k:=xi.1 lnB_1 x (xu.2 (by omega))
   rw[xd,xd,beq_iff_eq,beq_iff_eq] at k
   rcases k with (k | k) | k
   ·exact absurd (by omega) e4
   ·exact absurd (by omega) e8
   ·exact xi.1 k bn hbn
theorem sw_40 (c:List Int) (k:Nat):Sw c zmn k ↔ ((∃z,c[k]? =some z/\z=20)\/((∃z,c[k]? =some z/\(z=9\/z=16))/\c[k+1]? =some 20)):=by
 unfold Sw zmn
 simp only[zwW,zef,zeg,led6,led3,zFK,zFL,zqm,xg,or_false]
 constructor
 ·rintro ⟨_,_,_,x,h1,_,⟨rfl,z,h2,rfl⟩,rfl⟩
  rcases h1 with rfl | ⟨rfl,z,h3,rfl⟩ | ⟨rfl,z,h3,rfl⟩
  ·exact .inl ⟨20,h2,rfl⟩
  ·exact .inr ⟨⟨9,h3,.inl rfl⟩,h2⟩
  ·exact .inr ⟨⟨16,h3,.inr rfl⟩,h2⟩
 ·rintro (⟨z,h1,rfl⟩ | ⟨⟨z,h1,h2⟩,h3⟩)
  ·have:=(xh.1 h1).1
   exact⟨k+1,by omega,by omega,k,.inl rfl,k+1,⟨rfl,20,h1,rfl⟩,rfl⟩
  ·have:=(xh.1 h3).1
   refine⟨k+2,by omega,by omega,k+1,.inr ?_,k+2,⟨rfl,20,h3,rfl⟩,rfl⟩
   rcases h2 with rfl | rfl
   ·exact .inl ⟨rfl,9,h1,rfl⟩
   ·exact .inr ⟨rfl,16,h1,rfl⟩
theorem zFJ {c:List Int} {k:Nat} (hc:Cls c) (hk:0<k) (hkl:k<=c.length):led c zkm 0 k ↔ lst (bkc c k)= -1:=by
 have hle:=stp_le c clg k;have e0:led c zkm 0 k ↔ Rw c 0 k:=by
  unfold zkm
  simp only[zwW,zef,zeg,zzA,zfF,zqm]
  constructor
  ·rintro ⟨_,⟨rfl,z,h1,h2⟩,_,h3,rfl⟩
   exact⟨Nat.zero_le _,fun m h4 h5=>by
    rcases xt m with e | e
    ·exact e ▸ ⟨z,h1,h2⟩
    ·exact h3.2 m (by omega) h5⟩
  ·intro h
   obtain⟨z,h1,h2⟩:=h.2 0 (xq _) hk;exact⟨1,⟨rfl,z,h1,h2⟩,k,⟨hk,fun m h4 h5=>h.2 m (Nat.zero_le _) h5⟩,rfl⟩
 rw[e0];unfold lst;rw[zfE c clg k hkl]
 constructor
 ·intro h
  rw[zys hkl h (.inl rfl),zBF];rfl
 ·intro h
  rcases xt (stp c clg k) with e | e
  ·have:=zyn c hkl
   rw[e] at this;exact this
  ·exfalso
   obtain⟨m,hm⟩:∃m,stp c clg k=m+1:=⟨stp c clg k - 1,by omega⟩
   rw[hm,zhg (by omega),xe] at h
   have:=hc _ (xn (zcj (c:=c) (i:=m) (by omega)))
   omega
theorem zDg {c:List Int} (hc:Cls c) {k:Nat} (hk:0<k) (hkn:k<c.length):dcd true c k zvz=lnL (c.take k).reverse (c.drop k):=by
 have hkl:k<=c.length:=Nat.le_of_lt hkn;have ha:c[k - 1]? =some (c.getD (k - 1) 0):=zcj (by omega)
 have hb:c[k]? =some (c.getD k 0):=zcj hkn;have hA:(c.take k).reverse=bkc c k:=rfl;obtain⟨Z,hZ⟩:∃Z,bkc c k=c.getD (k - 1) 0::Z:=by
  obtain⟨j,rfl⟩:∃j,k=j+1:=⟨k - 1,by omega⟩
  exact⟨bkc c j,by rw[zhg (by omega),xf]⟩
 have hd:c.drop k=c.getD k 0::c.drop (k+1):=by
  rw[xy hkn,xb,xr hkn];rfl
 have cA:=hc _ (xn ha);have cB:=hc _ (xn hb);have clA:∀z∈bkc c k,0<=z/\z<=25:=fun z hz=>hc z (List.mem_of_mem_take (List.mem_reverse.1 hz))
 have bd:∀A:List Int,(∀z∈A,0<=z/\z<=25)-> -1<=lst A/\lst A<=25:=fun A h=>by
  unfold lst
  cases e:A.dropWhile clg with
  | nil=>exact⟨by simp,by simp⟩
  | cons z Y=>
   have:=h z ((xA _).subset (by rw[e];simp))
   rw[xe];omega
 have cS:=bd _ clA;have cH:=bd ((bkc c k).dropWhile spq) (fun z hz=>clA z ((xA _).subset hz))
 have c3:lst (bkc c k)≠8:=by
  unfold lst;have:=List.head?_dropWhile_not clg (bkc c k)
  cases e:(bkc c k).dropWhile clg with
  | nil=>simp
  | cons z Y=>
   rw[e] at this;rw[xe];rintro rfl;have:clg 8=false:=by simpa using this
   cases this
 have c1:c.getD (k - 1) 0≠4->lst ((bkc c k).dropWhile spq)=lst (bkc c k):=fun h=>by
  rw[hZ,xk (by unfold spq;simpa using h)]
 have c2:c.getD (k - 1) 0≠8->lst (bkc c k)=c.getD (k - 1) 0:=fun h=>by
  unfold lst;rw[hZ,xk (by unfold clg;simpa using h),xe]
 have k1:c.getD (k - 1) 0=5->(((bkc c k).dropWhile spq).headD (-1)==5)=true:=fun h=>by
  rw[hZ,h,xk (by decide)];rfl
 have k2:lst (bkc c k)=20->zqN (bkc c k)=true:=fun h=>by
  unfold zqN p1L;rw[h];rfl
 have hO:=zCS hc hkl;have hOb:odR (bkc c k) false=true->lst (bkc c k)=25:=ziv (bkc c k);have nz:∀{T:List Int},(T.all fun z=> !clg z&& !(z== -1))=true->∀z∈T,clg z=false/\z≠ -1:=fun h z hz=>by
  have:=xi.1 h z hz;rw[xa] at this;exact⟨by simpa using this.1,by simpa using this.2⟩
 have L1:∀(T:List Int),(T.all fun z=> !clg z&& !(z== -1))=true->(En c (.mk 2 [] [(.mk 1 T []),(.mk 4 [] [(.mk 1 [8] [])])]) k ↔ lst (bkc c k)∈T):=fun T h=>(en_te c T k).trans (enr (nz h) hkl)
 have LS:∀(T:List Int),(T.all fun z=> !clg z&& !(z== -1))=true->(T.all fun z=> !spq z)=true->(En c (.mk 2 [] [(.mk 1 T []),(.mk 4 [] [(.mk 1 [8] [])]),(.mk 4 [] [(.mk 1 [4] [])])]) k ↔ lst ((bkc c k).dropWhile spq)∈T):=fun T h h2=>zGi (nz h) (fun z hz=>by simpa using xi.1 h2 z hz) hkl
 have L5:En c (.mk 2 [] [(.mk 1 [5] []),(.mk 4 [] [(.mk 1 [4] [])])]) k ↔ (((bkc c k).dropWhile spq).headD (-1)==5)=true:=by
  rw[en_ts (by decide) hkl,xg,beq_iff_eq]
 have L37:=(en_37 c k).trans (zCV c hkl);have ST13:led c zkm 0 k ↔ (lst (bkc c k)== -1)=true:=by rw[zFJ hc hk hkl,beq_iff_eq]
 have R1:∀(T:List Int),Sw c (.mk 1 T []) k ↔ c.getD k 0∈T:=fun T=>by
  rw[sw_1,hb];exact⟨fun⟨z,h1,h2⟩=>by cases h1;exact h2,fun h=>⟨_,rfl,h⟩⟩
 have hnx:(c.drop (k+1)).headD (-1)=20 ↔ c[k+1]? =some 20:=by
  cases e:c[k+1]? with
  | none=>rw[List.drop_of_length_le (List.getElem?_eq_none_iff.1 e)];simp
  | some z=>
   obtain⟨h1,h2⟩:=xh.1 e;rw[xy h1,h2,xe]
   simp
 have R40:Sw c zmn k ↔ (c.getD k 0==20 || ((c.getD k 0==9 || c.getD k 0==16)&&((c.drop (k+1)).headD (-1)==20)))=true:=by
  rw[sw_40,hb,<- hnx]
  simp only[xd,xa,beq_iff_eq,Option.some.injEq,exists_eq_left']
 have A1:∀(T:List Int),En c (.mk 1 T []) k ↔ c.getD (k - 1) 0∈T:=fun T=>by
  rw[en_1 hk,ha];exact⟨fun⟨z,h1,h2⟩=>by cases h1;exact h2,fun h=>⟨_,rfl,h⟩⟩
 have A0:=en_0 c k;have S0:=sw_0 c hkl;have e2:lnL (c.take k).reverse (c.drop k)=lnF (c.getD (k - 1) 0) (c.getD k 0) (lst (bkc c k)) (lst ((bkc c k).dropWhile spq)) (((bkc c k).dropWhile spq).headD (-1)==5) (zqN (bkc c k)) ((c.drop (k+1)).headD (-1)==20) (odR (bkc c k) false):=by
  unfold lnL lnF;rw[hA,hd,xe,xF,show(bkc c k).headD (-1)=c.getD (k - 1) 0 by rw[hZ,xe]]
 rw[e2];clear e2 hA hd clA nz hc hnx bd hZ
 generalize c.getD (k - 1) 0=a at cA A1 c1 c2 k1
 generalize c.getD k 0=b at cB R1 R40
 generalize lst (bkc c k)=s at *
 generalize lst ((bkc c k).dropWhile spq)=h at *
 generalize (((bkc c k).dropWhile spq).headD (-1)==5)=z5 at *
 generalize zqN (bkc c k)=nm at *
 generalize ((c.drop (k+1)).headD (-1)==20)=nx at *
 obtain⟨o0,ho0⟩:∃o:Bool,Od c 0 k ↔ o=true:=by
  by_cases h:Od c 0 k
  ·exact⟨true,by simp[h]⟩
  ·exact⟨false,by simp[h]⟩
 obtain⟨o1,ho1⟩:∃o:Bool,Od2 c k ↔ o=true:=by
  by_cases h:Od2 c k
  ·exact⟨true,by simp[h]⟩
  ·exact⟨false,by simp[h]⟩
 have hoo:odR (bkc c k) false=(o0 || o1):=by
  rw[Bool.eq_iff_iff,xd,<- ho0,<- ho1];exact hO.symm
 rw[hoo,<- zFE cA cB cS cH c1 c2 c3 z5 nm nx o0 o1 k1 k2 (fun h=>hOb (by rw[hoo];exact h))]
 unfold zvz lnE;rw[zaq (d:=a==2&&b==3) (by rw[zak];unfold zDB zDz;rw[A1,R1,m1 a 2,m1 b 3];simp only[xa])]
 rw[zaq (d:=(a==1 || (a==2 || (a==3)))) (by rw[zak];unfold zDx zct;rw[A1,m_0 a];simp only[S0,and_true])]
 rw[zaq (d:=(b==1 || (b==2 || (b==3 || (b==4 || (b==5)))))) (by rw[zak];unfold zct zDu;rw[R1,m_1 b];simp only[A0,true_and])]
 rw[zaq (d:=z5) (by rw[zak];unfold zDs zct;rw[L5];simp only[S0,and_true])]
 rw[zaq (d:=(a==0 || (a==6 || (a==7 || (a==8 || (a==9 || (a==10 || (a==11 || (a==12 || (a==13 || (a==14 || (a==15 || (a==16 || (a==17 || (a==18 || (a==19 || (a==20 || (a==21 || (a==22 || (a==23 || (a==24 || (a==25)))))))))))))))))))))&&b==8) (by rw[zak];unfold zDq zDo;rw[A1,R1,m_2 a,m1 b 8];simp only[xa])]
 rw[zaq (d:=b==6) (by rw[zak];unfold zct zDm;rw[R1,m1 b 6];simp only[A0,true_and])]
 rw[zaq (d:=s==6) (by rw[zak];unfold zDk zct;rw[L1 _ (by decide),m1 s 6];simp only[S0,and_true])]
 rw[zaq (d:=s==7) (by rw[zak];unfold ztF zct;rw[L1 _ (by decide),m1 s 7];simp only[S0,and_true])]
 rw[zaq (d:=(s==0 || (s==1 || (s==2 || (s==3 || (s==5 || (s==6 || (s==7 || (s==9 || (s==10 || (s==11 || (s==12 || (s==13 || (s==14 || (s==15 || (s==18 || (s==19 || (s==20 || (s==21 || (s==22 || (s==23 || (s==24 || (s==25))))))))))))))))))))))&&b==7) (by rw[zak];unfold ztD zkn;rw[L1 _ (by decide),R1,m_3 s,m1 b 7];simp only[xa])]
 rw[zaq (d:=s== -1&&b==7) (by rw[zkU,ST13];unfold zkn;rw[R1,m1 b 7];simp only[xa])]
 rw[zaq (d:=(b==10 || (b==11 || (b==13 || (b==14 || (b==15)))))) (by rw[zak];unfold zct ztz;rw[R1,m_4 b];simp only[A0,true_and])]
 rw[zaq (d:=h==9) (by rw[zak];unfold ztx zct;rw[LS _ (by decide) (by decide),m1 h 9];simp only[S0,and_true])]
 rw[zaq (d:=h==12&&b==9) (by rw[zak];unfold ztv zkl;rw[LS _ (by decide) (by decide),R1,m1 h 12,m1 b 9];simp only[xa])]
 rw[zaq (d:=(h==10 || (h==11))&&b==24) (by rw[zak];unfold zts ztq;rw[LS _ (by decide) (by decide),R1,m_5 h,m1 b 24];simp only[xa])]
 rw[zaq (d:=h==18&&b==18) (by rw[zak];unfold zto ztm;rw[LS _ (by decide) (by decide),R1,m1 h 18,m1 b 18];simp only[xa])]
 rw[zaq (d:=a==4) (by rw[zak];unfold ztk zct;rw[A1,m1 a 4];simp only[S0,and_true])]
 rw[zaq (d:=b==12) (by rw[zak];unfold zct zti;rw[R1,m1 b 12];simp only[A0,true_and])]
 rw[zaq (d:=s==12) (by rw[zak];unfold ztg zct;rw[L1 _ (by decide),m1 s 12];simp only[S0,and_true])]
 rw[zaq (d:=(b==16 || (b==17 || (b==24)))) (by rw[zak];unfold zct zte;rw[R1,m_6 b];simp only[A0,true_and])]
 rw[zaq (d:=b==19) (by rw[zak];unfold zct ztc;rw[R1,m1 b 19];simp only[A0,true_and])]
 rw[zaq (d:=s==0&&b==20) (by rw[zak];unfold zge zkk;rw[L1 _ (by decide),R1,m1 s 0,m1 b 20];simp only[xa])]
 rw[zaq (d:=s==20&&b==0) (by rw[zak];unfold zsY zeb;rw[L1 _ (by decide),R1,m1 s 20,m1 b 0];simp only[xa])]
 rw[zaq (d:=s==22&&b==23) (by rw[zak];unfold zsV zsT;rw[L1 _ (by decide),R1,m1 s 22,m1 b 23];simp only[xa])]
 rw[zaq (d:=s==23&&b==21) (by rw[zak];unfold zsR zsP;rw[L1 _ (by decide),R1,m1 s 23,m1 b 21];simp only[xa])]
 rw[zaq (d:=(s==21 || (s==22))&&b==0) (by rw[zak];unfold zsN zeb;rw[L1 _ (by decide),R1,m_7 s,m1 b 0];simp only[xa])]
 rw[zaq (d:=s==0&&(b==21 || (b==22))) (by rw[zak];unfold zge zsL;rw[L1 _ (by decide),R1,m1 s 0,m_7 b];simp only[xa])]
 rw[zaq (d:=nm&&(b==21 || (b==22))) (by rw[zak,L37];unfold zsI;rw[R1,m_7 b];simp only[xa])]
 rw[zaq (d:=(s==21 || (s==22))&&(b==20 || ((b==9 || b==16)&&nx))) (by rw[zak,R40];unfold zsG;rw[L1 _ (by decide),m_7 s];simp only[xa])]
 rw[zaq (d:=(s==14 || (s==15 || (s==16 || (s==20))))&&b==20) (by rw[zak];unfold zsD zkk;rw[L1 _ (by decide),R1,m_8 s,m1 b 20];simp only[xa])]
 rw[zaq (d:=s==0&&b==0) (by rw[zak];unfold zge zeb;rw[L1 _ (by decide),R1,m1 s 0,m1 b 0];simp only[xa])]
 rw[zaq (d:=s==14&&b==0) (by rw[zak];unfold zsB zeb;rw[L1 _ (by decide),R1,m1 s 14,m1 b 0];simp only[xa])]
 rw[zaq (d:=(s==0 || (s==20))&&b==9) (by rw[zak];unfold zsz zkl;rw[L1 _ (by decide),R1,m_9 s,m1 b 9];simp only[xa])]
 rw[zaq (d:=s==10&&(b==0 || (b==20))) (by rw[zak];unfold zsx zsv;rw[L1 _ (by decide),R1,m1 s 10,m_9 b];simp only[xa])]
 rw[zaq (d:=o0&&b==25) (by rw[zkU,zFI,ho0];unfold zkj;rw[R1,m1 b 25];simp only[xa])]
 rw[zaq (d:=o1&&b==25) (by rw[zak,en_29,ho1];unfold zkj;rw[R1,m1 b 25];simp only[xa])]
 rw[zBu]
end Li
end
section
namespace Li
theorem nft:¬(false=true):=by simp
theorem zlO (z:Int) (l:List Int) (o:Bool):odR (z::l) o=if z==25 then odR l (!o) else if clg z then odR l o else o:=rfl
theorem zlN:∀(Y:List Int) (o:Bool),odR Y (!o)= !odR Y o
 | [],o=>rfl
 | y::Y,o=>by
  unfold odR
  split
  ·exact zlN Y (!o)
  ·split
   ·exact zlN Y o
   ·rfl
theorem zlP:∀(X Y:List Int) (o:Bool),X.all rgc=true->odR (X++Y) o=odR Y (odR X o)
 | [],Y,o,_=>rfl
 | x::X,Y,o,h=>by
  rw[xC,xa] at h;rw[xz,zlO,zlO]
  cases h7:(x==25) with
  | true=>rw[if_pos rfl,if_pos rfl];exact zlP X Y (!o) h.2
  | false=>
   have hc:clg x=true:=by
    have:=h.1;unfold rgc at this;rw[h7,xG] at this;exact this
   rw[if_neg nft,if_neg nft,if_pos hc,if_pos hc];exact zlP X Y o h.2
theorem ziu:∀(X Y:List Int) (o:Bool),X.all rgc=false->odR (X++Y) o=odR X o
 | [],Y,o,h=>by cases h
 | x::X,Y,o,h=>by
  rw[xz,zlO,zlO]
  cases h7:(x==25) with
  | true=>
   have:X.all rgc=false:=by
    rw[xC] at h;unfold rgc at h;rw[h7,Bool.true_or,xH] at h;exact h
   rw[if_pos rfl,if_pos rfl];exact ziu X Y (!o) this
  | false=>
   rw[if_neg nft,if_neg nft]
   cases hc:clg x with
   | true=>
    have:X.all rgc=false:=by
     rw[xC] at h;unfold rgc at h;rw[h7,hc,xE,xH] at h;exact h
    rw[if_pos rfl,if_pos rfl];exact ziu X Y o this
   | false=>rw[if_neg nft,if_neg nft]
theorem zCO {Y:List Int} (h:rgc (Y.headD 0)=false) (o:Bool):odR Y o=o:=by
 cases Y with
 | nil=>rfl
 | cons y Y=>
  rw[xe] at h;unfold rgc at h;rw[Bool.or_eq_false_iff] at h;rw[zlO,h.1,h.2,if_neg nft,if_neg nft]
theorem zrY {Y R:List Int} {x:Int} (hx:rgc x=true) (h:lnL Y (x::R)=true):odR Y false=false:=by
 cases hy:rgc (Y.headD 0) with
 | false=>exact zCO hy false
 | true=>
  cases ho:odR Y false with
  | false=>rfl
  | true=>
   exfalso
   have hb:=ziv Y ho
   cases Y with
   | nil=>cases ho
   | cons y Y=>
    rw[xe] at hy;have hy2:y=25\/y=8:=by
     unfold rgc clg at hy
     simpa using hy
    have hx2:x=25\/x=8:=by
     unfold rgc clg at hx
     simpa using hx
    have hl:lst (y::Y)=25:=hb;have hs:(y::Y).dropWhile spq=y::Y:=xk (by unfold spq;rcases hy2 with rfl | rfl<;>decide)
    unfold lnL at h;rw[hs,hl,ho,xe,xe] at h
    generalize zqN (y::Y)=nm at h
    generalize ((x::R).tail.headD (-1)==20)=nx at h
    rcases hy2 with rfl | rfl<;>rcases hx2 with rfl | rfl<;>cases nm<;>cases nx<;>exact absurd h (by decide)
theorem zwu (X Y B:List Int) (hX:X≠ []) (hb:Y=[]\/lnL Y (X.reverse++B)=true):odR (X++Y) false=odR X false:=by
 rcases hb with rfl | hb
 ·rw[List.append_nil]
 cases hr:X.all rgc with
 | false=>exact ziu _ _ _ hr
 | true=>
  obtain⟨U,x0,rfl⟩:∃U x0,X=U++[x0]:=by
   rcases List.eq_nil_or_concat X with h | ⟨U,x0,h⟩
   ·exact absurd h hX
   ·exact⟨U,x0,by rw[h,List.concat_eq_append]⟩
  rw[xB,List.reverse_singleton,List.singleton_append,xz] at hb;have hY:=zrY (xi.1 hr x0 (by simp)) hb
  rw[zlP _ _ _ hr]
  cases odR (U++[x0]) false with
  | false=>exact hY
  | true=>
   have:=zlN Y false;rw[hY] at this;exact this
end Li
end
end Go.Proofs.YtbbapnpdfcgjnaaGreatDoor
