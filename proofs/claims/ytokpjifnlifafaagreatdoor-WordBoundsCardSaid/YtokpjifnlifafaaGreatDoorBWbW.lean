/- WbW, WmW: parts of the proof, joined. -/
import Derived.Test.YtokpjifnlifafaaGreatDoorBWdCut
import Derived.Test.YtokpjifnlifafaaGreatDoorBWdLv
set_option maxHeartbeats 64000000
namespace Go.Proofs.YtokpjifnlifafaaGreatDoor
namespace Wd
open Go.RowKit Wt
theorem ls_form {w w':World} {L:List Nat} {e:Ending} (h:Pt.LsQ w L e w') (hne:0<L.length):∃g cap cur,e= .returned (.slice (some ⟨g,0,none⟩) L.length cap)/\w.heap.size<=g/\w'.heap[g]? =some (.cells cur 3 (0,0))/\L.length<=cur.size/\w'.ownsRow w.heap.size 3 1 (.slice (some ⟨g,0,none⟩) L.length cap) L.length (Pt.i64n L)/\Pt.RdI w' (some ⟨g,0,none⟩) (L.map fun(x:Nat)=>(x:Int))/\Below w.heap.size w w':=by
 obtain⟨vo,vc,rfl,ho,hb⟩:=h;have hr:=Pt.zdE ho rfl
 rcases ho.2 with ⟨h1,h2⟩ | ⟨g,cap,cur,h1,h2,h3,h4,h5,h6,h7⟩
 ·omega
 ·cases h1
  exact⟨g,_,cur,rfl,h2,h3,by rw[h6,Nat.mul_one];exact h4,ho,hr,hb⟩
theorem rdi_oth {g b:Nat} {w w':World} {l:List Int} (h:Pt.RdI w (some ⟨b,0,none⟩) l) (ho:Pt.Ony g w w') (hne:b≠g):Pt.RdI w' (some ⟨b,0,none⟩) l:=fun k z hk=>by
 obtain⟨a,h1,h2,h3⟩:=h k z hk
 cases h1
 refine⟨_,rfl,by rw[ho.size];exact h2,?_⟩
 rw[<- h3,Addr.add_lit];exact World.cell?_of_block (ho.block b hne)
theorem wbnds_eq (l:List UInt8):i64s (wbnds l)=Pt.i64n (wbs' l)/\(wbnds l).length=(wbs' l).length:=by
 unfold wbnds wbs'
 split
 ·exact⟨rfl,rfl⟩
 ·exact⟨wtos_bds l,wtos_len l⟩
theorem wbds_any (l:List UInt8) (w:World) (ht:TbW w) (hl:l.length<=100000000):Calls Tryz.prog 11 #[.string ⟨l.toArray⟩] w (Pt.LsQ w (wbs' l)):=
 (wbounds_any l w ht hl).mono fun e w' ⟨v,he,ho,hb⟩=>by
  rw[(wbnds_eq l).1,(wbnds_eq l).2] at ho
  rcases ho.2 with ⟨rfl,h0⟩ | ⟨g,cap,cur,rfl,_⟩
  ·exact⟨none,0,by rw[he,h0],by rw[h0] at ho⊢;exact ho,hb⟩
  ·exact⟨_,cap,he,ho,hb⟩
theorem wbds_nil (w:World):Calls Tryz.prog 11 #[.string ⟨([]:List UInt8).toArray⟩] w fun e w'=>e= .returned (.slice none 0 0)/\Below w.heap.size w w':=by
 go_enter Tryz.func11,Tryz.ntmps11;go_wp2;go_ret;exact⟨rfl,Below.refl _ _⟩
theorem wbs_len (l:List UInt8):(wbs' l).length<=l.length+1:=by
 unfold wbs'
 split
 ·exact Nat.zero_le _
 ·have h:∀{p e:Nat} {P:List (Nat × Nat)},Br.Chn p e P->P.length+p<=e:=by
   intro p e P h
   induction h with
   | nil=>simp
   | cons h1 _ ih=>rw[List.length_cons];omega
  have h2:=h (zbC l);unfold wbd Br.bds;rw[List.length_cons,List.length_map];omega
theorem wbs_pos (l:List UInt8) (h:l≠ []):0<(wbs' l).length:=by
 unfold wbs' wbd Br.bds;rw[if_neg h]
 simp
set_option maxRecDepth 100000 in
theorem wb_main (l:List UInt8) (hl:l.length<=70) (hne:l≠ []) (w:World) (ht:TbW w) (hv:Ev.Tbs tabs w):
  Calls Tryz.prog 3 #[.string ⟨l.toArray⟩] w fun e w'=>e= .returned (.bool true)/\Below w.heap.size w w':=by
 have HV:=hid hv;have hD0:0<(wbs' l).length:=wbs_pos l hne;have hD9:(wbs' l).length<=71:=by have:=wbs_len l;omega
 have hl1:¬(70:Int)<(l.length:Int):=by omega
 have HG1:=hid (wbds_any l w ht (by omega))
 have HG2:=hid (fun(W:World) (hb:Below w.heap.size w W)=>wbds_any l W (ht.below hb) (by omega))
 have HG3:=hid (fun(W:World)=>zeL l (by omega) W)
 clear ht hne hv;obtain⟨D,hD⟩:∃D,D=wbs' l:=⟨_,rfl⟩;rw[<- hD] at hD0 hD9 HG1 HG2 HG3;clear hD;obtain⟨n,hn⟩:∃n,n=D.length:=⟨_,rfl⟩;rw[<- hn] at hD0 hD9;have HN:=hid hn;go_enter Tryz.func3,Tryz.ntmps3;go_wp2_with fail;refine HG1.out.mono ?_;rintro e w1 h1;obtain⟨g,cap,cur,rfl,hg1,hh1,hs1,ho1,hr1,hb1⟩:=ls_form h1 (by rw[<- hn];exact hD0)
 rw[<- hn] at hs1⊢;have HR1:=hid hr1;have HB1:=hid hb1;have HH1:=hid hh1;have HS1:=hid hs1;have HGg:=hid hg1;clear h1 hg1 hh1 hs1 ho1 hr1 hb1 HG1;go_wp2_with fail;refine(HG3.out w1).mono ?_;rintro e w3 h3;obtain⟨g3,cap3,cur3,rfl,hg3,hh3,hs3,ho3,hr3,hb3⟩:=ls_form h3 (by rw[<- hn];exact hD0)
 rw[<- hn];have HR3:=hid hr3;have HB3:=hid hb3;have HNe:=hid (show g3≠g from fun e=>by have:=Pt.zab HH1.out;omega)
 clear h3 hg3 hh3 hs3 ho3 hr3 hb3 HG3 hn;go_wp2_with fail;refine(Br.zes (some ⟨g,0,none⟩) (some ⟨g3,0,none⟩) n cap cap3 _ w3 (HR1.out.below HB3.out) HR3.out (by rw[List.length_map];exact HN.out) (by omega)).mono ?_
 rintro e w5 ⟨rfl,hb5⟩;have HB5:=hid (HB3.out.trans (hb5.mono HB3.out.size));have HR5:=hid (HR3.out.below hb5);have HH5:=hid ((HB5.out.block g (Pt.zab HH1.out)).trans HH1.out);clear hb5 HB3 HR3 HR1 HH1;go_wp2;go_loopw [5] (fun y wr=>∃i:Nat,y= .int .i64 i/\i<=n/\Hid (∃cs:List Value,wr.heap[g]? =some (.cells cs.toArray 3 (0,0))/\n<=cs.length)/\Hid (Pt.Ony g w5 wr)) (fun y _=>n - (intOf y).toNat)
 case atStart=>exact⟨0,rfl,Nat.zero_le _,hid ⟨cur.toList,by rw[Array.toArray_toList];exact HH5.out,by rw[Array.length_toList];exact HS1.out⟩,hid (Pt.Ony.refl _ _)⟩
 case round=>
  obtain⟨i,rfl,hi,HE,HO⟩:=hrel
  by_cases hlt:i<n
  ·have k0:(0:Int)<=(i:Int):=by omega
   have k1:(i:Int)<(n:Int):=by omega
   obtain⟨cs,hcs,hcl⟩:=HE.out;have c0:=Pt.cell_row wr g i cs 3 cs[i] hcs (List.getElem?_eq_getElem (by omega))
   obtain⟨z,hz⟩:∃z,z=cs[i]:=⟨_,rfl⟩;rw[<- hz] at c0;have f0:=Pt.frozen_row (l:=cs.toArray) hcs i;have HS:=hid (show ∃ds:List Value,(wr.setCell ⟨g,i,none⟩ (.int .i64 (-1))).heap[g]? =some (.cells ds.toArray 3 (0,0))/\n<=ds.length from⟨_,Pt.set_row wr g i cs 3 (.int .i64 (-1)) hcs,by rw[List.length_set];exact hcl⟩)
   have HOn:=hid (HO.out.trans (Pt.Ony.set g i wr (.int .i64 (-1))));clear hz hcs hcl HE HO;go_wp2;go_roundw
   case rel=>exact⟨i+1,by go_num,by omega,HS,HOn⟩
   case measure=>simp[intOf];omega
  ·have k1:¬(i:Int)<(n:Int):=by omega
   have HBr:=hid (HB1.out.trans ((HB5.out.mono HB1.out.size).trans (HO.out.below HGg.out)));have HRr:=hid (rdi_oth HR5.out HO.out HNe.out);clear HE HO HR5 HH5;go_wp2_with fail;refine(HG2.out wr HBr.out).mono ?_;rintro e w6 ⟨vo,vc,rfl,ho6,hb6⟩;have HR6:=hid (Pt.zdE ho6 rfl);have HRb:=hid (HRr.out.below hb6);have HB6:=hid (HBr.out.trans (hb6.mono HBr.out.size));rw[<- HN.out];clear ho6 hb6 HRr HG2;go_wp2_with fail;refine(Br.zes vo (some ⟨g3,0,none⟩) n vc cap3 _ w6 HR6.out HRb.out (by rw[List.length_map];exact HN.out) (by omega)).mono ?_
   rintro e w7 ⟨rfl,hb7⟩;have HB7:=hid (HB6.out.trans (hb7.mono HB6.out.size));clear hb7 HB6 HRb HR6;go_wp2_with fail;refine(zfk w7 (zeN HV.out HB7.out)).mono ?_;rintro e w9 ⟨rfl,hb9⟩;have HB9:=hid (HB7.out.trans (hb9.mono HB7.out.size));clear hb9 HB7;go_wp2;go_ret;exact⟨rfl,HB9.out⟩
set_option maxRecDepth 100000 in
theorem wb_nil (w:World) (hv:Ev.Tbs tabs w):
  Calls Tryz.prog 3 #[.string ⟨([]:List UInt8).toArray⟩] w fun e w'=>e= .returned (.bool true)/\Below w.heap.size w w':=by
 have HV:=hid hv;clear hv;go_enter Tryz.func3,Tryz.ntmps3;go_wp2_with fail;refine(wbds_nil w).mono ?_;rintro e w1 ⟨rfl,hb1⟩;have HB1:=hid hb1;clear hb1;go_wp2_with fail;refine(zeL [] (by decide) w1).mono ?_
 rintro e w3 ⟨uo,uc,rfl,ho3,hb3⟩;have HB3:=hid (HB1.out.trans (hb3.mono HB1.out.size));rw[show(wbs' []).length=0 from rfl]
 clear ho3 hb3 HB1;go_wp2_with fail;refine(Br.zes none uo 0 0 uc [] w3 (fun k z hk=>by simp at hk) (fun k z hk=>by simp at hk) rfl (by omega)).mono ?_
 rintro e w5 ⟨rfl,hb5⟩;have HB5:=hid (HB3.out.trans (hb5.mono HB3.out.size));clear hb5 HB3;go_wp2;go_loopw [5] (fun y wr=>y= .int .i64 0/\wr=w5) (fun _ _=>0)
 case atStart=>exact⟨rfl,rfl⟩
 case round=>
  obtain⟨rfl,rfl⟩:=hrel;go_wp2_with fail;refine(wbds_nil wr).mono ?_;rintro e w6 ⟨rfl,hb6⟩;have HB6:=hid (HB5.out.trans (hb6.mono HB5.out.size));clear hb6 HB5;go_wp2_with fail;refine(Br.zes none uo 0 0 uc [] w6 (fun k z hk=>by simp at hk) (fun k z hk=>by simp at hk) rfl (by omega)).mono ?_
  rintro e w7 ⟨rfl,hb7⟩;have HB7:=hid (HB6.out.trans (hb7.mono HB6.out.size));clear hb7 HB6;go_wp2_with fail;refine(zfk w7 (zeN HV.out HB7.out)).mono ?_;rintro e w9 ⟨rfl,hb9⟩;have HB9:=hid (HB7.out.trans (hb9.mono HB7.out.size));clear hb9 HB7;go_wp2;go_ret;exact⟨rfl,HB9.out⟩
set_option maxRecDepth 100000 in
theorem wb_walk (l:List UInt8) (w:World) (ht:TbW w) (hv:Ev.Tbs tabs w):
  Calls Tryz.prog 3 #[.string ⟨l.toArray⟩] w fun e w'=>e= .returned (.bool true)/\Below w.heap.size w w':=by
 by_cases h0:70<l.length
 ·have HL:=hid (zfk w hv)
  have h1:(70:Int)<(l.length:Int):=by omega
  clear ht hv;go_enter Tryz.func3,Tryz.ntmps3;go_wp2_with fail;refine HL.out.mono ?_;rintro e w1 ⟨rfl,hb⟩;have HB:=hid hb;clear hb HL;go_wp2;go_ret;exact⟨rfl,HB.out⟩
 by_cases hne:l=[]
 ·subst hne
  exact wb_nil w hv
 ·exact wb_main l (by omega) hne w ht hv
end Wd
namespace Wd
open Go.RowKit Wt Br
theorem arn_wbs (z:Int) (l:List UInt8):arn z (wbd l)=arn z (wbs' l):=by
 unfold wbs'
 by_cases h:l=[]
 ·rw[if_pos h,h];rfl
 ·rw[if_neg h]
theorem abv_wbs (z:Int) (l:List UInt8):abv z l.length (wbd l)=abv z l.length (wbs' l):=by
 unfold wbs'
 by_cases h:l=[]
 ·rw[if_pos h,h]
  show(if z<((0:Nat):Int) then 0 else 0)=0
  split<;>rfl
 ·rw[if_neg h]
theorem blw_wbs (z:Int) (l:List UInt8):blw z 0 (wbd l)=blw z 0 (wbs' l):=by
 unfold wbs'
 by_cases h:l=[]
 ·rw[if_pos h,h]
  show(if ((0:Nat):Int)<z then 0 else 0)=0
  split<;>rfl
 ·rw[if_neg h]
theorem is_wbs (z:Int) (l:List UInt8):(!l.isEmpty&&(wbd l).any fun x=>(x:Int)==z)=anyE z (wbs' l):=by
 unfold wbs' anyE
 by_cases h:l=[]
 ·rw[if_pos h,h];rfl
 ·rw[if_neg h,show l.isEmpty=false by simpa using h];rfl
theorem ls_any {w w':World} {L:List Nat} {e:Ending} (h:Pt.LsQ w L e w'):∃vo vc,e= .returned (.slice vo L.length vc)/\(L.length=0\/∃g,vo=some ⟨g,0,none⟩)/\Pt.RdI w' vo (L.map fun(x:Nat)=>(x:Int))/\Below w.heap.size w w':=by
 obtain⟨vo,vc,rfl,ho,hb⟩:=h;refine⟨vo,vc,rfl,?_,Pt.zdE ho rfl,hb⟩
 rcases ho.2 with ⟨_,h2⟩ | ⟨g,_,_,h1,_⟩
 ·exact .inl h2
 ·cases h1
  exact .inr ⟨g,rfl⟩
set_option maxRecDepth 100000 in
theorem wm_main (l:List UInt8) (z:Int) (hl:l.length<=70) (w:World) (ht:TbW w) (hv:Ev.Tbs tabs w):
  Calls Tryz.prog 4 #[.string ⟨l.toArray⟩,.int .i64 z] w fun e w'=>e= .returned (.bool true)/\Below w.heap.size w w':=by
 have HT:=hid ht;have HV:=hid hv;have hD9:(wbs' l).length<=71:=by have:=wbs_len l;omega
 clear ht hv;have hl1:¬(70:Int)<(l.length:Int):=by omega
 have HG3:=hid (fun(W:World)=>zeL l (by omega) W)
 have HA:=hid (fun(W:World) (h:Below w.heap.size w W)=>waro_any l z W (HT.out.below h) (by omega))
 have HI:=hid (fun(W:World) (h:Below w.heap.size w W)=>wis_any2 l z W (HT.out.below h) (by omega))
 have HNx:=hid (fun(W:World) (h:Below w.heap.size w W)=>wnext_z l z W (HT.out.below h) (by omega))
 have HPv:=hid (fun(W:World) (h:Below w.heap.size w W)=>wprev_any l z W (HT.out.below h) (by omega))
 rw[arn_wbs] at HA;rw[is_wbs] at HI;rw[abv_wbs] at HNx;rw[blw_wbs] at HPv;obtain⟨D,hD⟩:∃D,D=wbs' l:=⟨_,rfl⟩;rw[<- hD] at hD9 HA HI HNx HPv HG3;clear hD;obtain⟨n,hn⟩:∃n,n=D.length:=⟨_,rfl⟩;rw[<- hn] at hD9;have HN:=hid hn;obtain⟨p,hp⟩:∃p,p=(arn z D).1:=⟨_,rfl⟩;obtain⟨q,hq⟩:∃q,q=(arn z D).2:=⟨_,rfl⟩;have HAd:=hid (fun(ao:Option Addr) (ac:Nat) (W:World) (h:Pt.RdI W ao (D.map fun(x:Nat)=>(x:Int))) (h0:n=0\/∃g,ao=some ⟨g,0,none⟩)=>around_any ao n ac D z W h hn (by omega) h0)
 have HAb:=hid (fun(ao:Option Addr) (ac:Nat) (W:World) (h:Pt.RdI W ao (D.map fun(x:Nat)=>(x:Int)))=>above_any ao n ac D z l.length W h hn (by omega))
 have HBl:=hid (fun(ao:Option Addr) (ac:Nat) (W:World) (h:Pt.RdI W ao (D.map fun(x:Nat)=>(x:Int)))=>below_any ao n ac D z W h hn (by omega))
 have HHs:=hid (fun(ao:Option Addr) (ac:Nat) (W:World) (h:Pt.RdI W ao (D.map fun(x:Nat)=>(x:Int)))=>has_any ao n ac D z W h hn (by omega))
 rw[<- hp,<- hq] at HA HAd;obtain⟨ab,hab⟩:∃a,a=abv z l.length D:=⟨_,rfl⟩;obtain⟨bl,hbl⟩:∃a,a=blw z 0 D:=⟨_,rfl⟩;obtain⟨b,hbb⟩:∃a,a=anyE z D:=⟨_,rfl⟩;rw[<- hab] at HNx HAb;rw[<- hbl] at HPv HBl;rw[<- hbb] at HI HHs;clear hp hq hab hbl hbb;go_enter Tryz.func4,Tryz.ntmps4;go_wp2_with fail;refine(HG3.out w).mono ?_;rintro e w3 h3;obtain⟨vo,vc,rfl,h0,hr,hb3⟩:=ls_any h3;rw[<- hn] at h0⊢;have H0:=hid h0;have HR3:=hid hr;have HB3:=hid hb3;clear h3 h0 hr hb3 HG3 hn;go_wp2_with fail;refine(HA.out w3 HB3.out).mono ?_;rintro e w4 ⟨rfl,hb4⟩;have HR4:=hid (HR3.out.below hb4);have HB4:=hid (HB3.out.trans (hb4.mono HB3.out.size));clear hb4 HR3 HB3 HA;go_wp2_with fail;refine(HAd.out vo vc w4 HR4.out H0.out).mono ?_;rintro e w5 ⟨rfl,hb5⟩;have HR5:=hid (HR4.out.below hb5);have HB5:=hid (HB4.out.trans (hb5.mono HB4.out.size));clear hb5 HR4 HB4 HAd;go_wp2_with fail;refine(HI.out w5 HB5.out).mono ?_;rintro e w6 ⟨rfl,hb6⟩;have HR6:=hid (HR5.out.below hb6);have HB6:=hid (HB5.out.trans (hb6.mono HB5.out.size));clear hb6 HR5 HB5 HI;go_wp2_with fail;refine(HHs.out vo vc w6 HR6.out).mono ?_;rintro e w6' ⟨rfl,e6⟩;obtain rfl:=e6.symm;clear e6 HHs;have bb:(b==b)=true:=by simp
 go_wp2_with fail;refine(HNx.out w6 HB6.out).mono ?_;rintro e w7 ⟨rfl,hb7⟩;have HR7:=hid (HR6.out.below hb7);have HB7:=hid (HB6.out.trans (hb7.mono HB6.out.size));clear hb7 HR6 HB6 HNx;go_wp2_with fail;refine(HAb.out vo vc w7 HR7.out).mono ?_;rintro e w8 ⟨rfl,e8⟩;obtain rfl:=e8.symm;clear e8 HAb;go_wp2_with fail;refine(HPv.out w7 HB7.out).mono ?_;rintro e w8 ⟨rfl,hb8⟩;have HR8:=hid (HR7.out.below hb8);have HB8:=hid (HB7.out.trans (hb8.mono HB7.out.size));clear hb8 HR7 HB7 HPv;go_wp2_with fail;refine(HBl.out vo vc w8 HR8.out).mono ?_;rintro e w9 ⟨rfl,e9⟩;obtain rfl:=e9.symm;clear e9 HBl;go_wp2_with fail;refine(zfk w8 (zeN HV.out HB8.out)).mono ?_;rintro e w9 ⟨rfl,hb9⟩;have HB9:=hid (HB8.out.trans (hb9.mono HB8.out.size));clear hb9 HB8;go_wp2;go_ret;exact⟨rfl,HB9.out⟩
set_option maxRecDepth 100000 in
theorem wm_walk (l:List UInt8) (z:Int) (w:World) (ht:TbW w) (hv:Ev.Tbs tabs w):
  Calls Tryz.prog 4 #[.string ⟨l.toArray⟩,.int .i64 z] w fun e w'=>e= .returned (.bool true)/\Below w.heap.size w w':=by
 by_cases h0:70<l.length
 ·have HL:=hid (zfk w hv)
  have h1:(70:Int)<(l.length:Int):=by omega
  clear ht hv;go_enter Tryz.func4,Tryz.ntmps4;go_wp2_with fail;refine HL.out.mono ?_;rintro e w1 ⟨rfl,hb⟩;have HB:=hid hb;clear hb HL;go_wp2;go_ret;exact⟨rfl,HB.out⟩
 ·exact wm_main l z (by omega) w ht hv
end Wd
end Go.Proofs.YtokpjifnlifafaaGreatDoor
