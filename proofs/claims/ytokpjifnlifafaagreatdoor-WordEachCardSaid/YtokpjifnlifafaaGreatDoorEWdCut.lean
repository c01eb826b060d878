/- WdCut: parts of the proof, joined. -/
import Derived.Test.YtokpjifnlifafaaGreatDoorEWdEdge
import Derived.Test.YtokpjifnlifafaaGreatDoorEStBd
import Derived.Test.YtokpjifnlifafaaGreatDoorEPtWoPs
set_option maxHeartbeats 64000000
namespace Go.Proofs.YtokpjifnlifafaaGreatDoor
namespace Wd
open Go.RowKit Wt
theorem rl_max:∀(n:Nat) (l:List UInt8),l.length<=n->∀x∈rl l,x.1<=1114111
 | n,l,hn,x,hx=>by
  by_cases hl:l=[]
  ·rw[hl,zeB] at hx;cases hx
  ·have h1:=dec_ge l hl
   have hp:0<l.length:=List.length_pos_iff.2 hl;rw[zbg l hl] at hx
   rcases List.mem_cons.1 hx with rfl | hx
   ·exact dec_rune l hl
   ·cases n with
    | zero=>omega
    | succ n=>exact rl_max n _ (by rw[List.length_drop];omega) x hx
theorem wdU_len:Dc.wdU.length=20:=by decide
theorem fw_cls (l:List UInt8):Wo.Cls (fw l):=fun c hc=>by
 unfold fw at hc;obtain⟨x,hx,rfl⟩:=List.mem_map.1 hc;have h:=rl_max _ l (Nat.le_refl _) x hx;have h2:=Dc.gtp_lt Dc.wdW _ Dc.wd_cov Dc.wd_cls (x.1:Int) (by omega) (by omega)
 rw[Dc.wd_get (x.1:Int) (by omega) (by omega)]
 rw[wdU_len] at h2;exact⟨by omega,by omega⟩
theorem wd_ok:∀r∈Pt.wdRs,Pt.RlOk r:=Pt.okR_sound (by decide+kernel)
theorem wd_dcs (l:List UInt8):Pt.dcs Dc.wdW l=fw l:=by
 unfold Pt.dcs Pt.dcl fw;rw[List.map_map]
 apply List.map_congr_left
 intro x hx;have h:=rl_max _ l (Nat.le_refl _) x hx
 show((Dc.gtp (Dc.instd (x.1:Int)) Dc.wdW:Nat):Int)=wdcls (x.1:Int)
 rw[show Dc.instd (x.1:Int)=(x.1:Int) by unfold Dc.instd;rw[if_neg (by omega)],Dc.wd_get _ (by omega) (by omega)]
theorem wd_bn (l:List UInt8):Pt.bn10 Dc.wdW Pt.wdRs true l=wbs' l:=by
 unfold Pt.bn10 wbs'
 by_cases h:l=[]
 ·rw[if_pos h,if_pos h]
 rw[if_neg h,if_neg h,wd_dcs];have hne:fw l≠ []:=fun e=>by rw[fw_cons l h] at e;cases e
 unfold Pt.blN wbd wpF;refine Sg.flt_bds ?_ ?_ (fun k h0 hk=>?_) l
 ·unfold Pt.cutB;rw[if_neg hne,if_pos (.inl rfl)]
 ·unfold Pt.cutB;rw[if_neg hne,if_pos (.inr (fw_len l).symm)]
 ·have hk':k<(fw l).length:=by rw[fw_len];exact hk
  unfold Pt.cutB;rw[if_neg hne,if_neg (by omega),Wo.wd_dcd (fw_cls l) h0 hk']
  unfold wC;exact(wcut_at l k hk).symm
set_option maxRecDepth 100000 in
theorem wdP_len:Dc.wdP.length<=12000:=by decide+kernel
theorem wdU_nm:Dc.strs Dc.wdU=Pt.wdNm:=by rfl
set_option maxRecDepth 100000 in
theorem db12 (w:World):Calls Tryz.prog 44 #[] w fun e w'=>Below w.heap.size w w'/\∃Q,e= .returned (.pointer (some ⟨Q,0,none⟩))/\Dc.Bk Dc.wdU Dc.wdW Q w':=by
 go_enter Tryz.func44,Tryz.ntmps44;go_wp2_with fail;refine(Dc.rnew_eq _ Dc.wdP w (by kernel_rfl) (.inl wdP_len) Dc.wdU Dc.wdS Dc.wdW Dc.wd_nw Dc.wd_whl).mono ?_
 rintro e w1 ⟨hb,Q,rfl,hk⟩;have HB:=hid hb;have HK:=hid hk;clear hb hk;go_wp2;go_ret;exact⟨HB.out,Q,rfl,HK.out⟩
set_option maxRecDepth 100000 in
theorem wbounds12 (l:List UInt8) (hl:l.length<=80000) (w:World):Calls Tryz.prog 12 #[.string ⟨l.toArray⟩] w (Pt.LsQ w (wbs' l)):=by
 have HL:=hid hl;clear hl;go_enter Tryz.func12,Tryz.ntmps12;go_wp2_with fail;refine(db12 w).mono ?_;rintro e w1 ⟨hb,Q,rfl,hk⟩;have HB1:=hid hb;have HK:=hid hk;clear hb hk;go_wp2_with fail;refine(Dc.dnames_any Dc.wdU Dc.wdW Q w1 HK.out (by decide) (by decide)).mono ?_
 rintro e w2 ⟨g,nc,rfl,hn,hg,hb2⟩;rw[wdU_len];have HPg:=hid (Pt.wd_parse g nc w2 (by rw[<- wdU_nm];exact hn))
 have HG:=hid hg;have HB2:=hid hb2;clear hn hg hb2;go_wp2_with fail;refine(HPg.out).mono ?_;rintro e w3 ⟨ro,rc,rfl,hr,ho⟩;have HB3:=hid (HB2.out.trans (ho.below HB2.out.size HG.out));have HR:=hid hr;clear hr ho HPg;have HBd:=hid (fun(W:World) (h:Below w3.heap.size w3 W)=>Pt.bounds10_any Dc.wdU Dc.wdW Pt.wdRs true wd_ok (by decide) Dc.wd_cov Dc.wd_cls (by decide) (by decide) Q ro rc l HL.out W ((HK.out.below HB3.out).below h) (HR.out.below h))
 obtain⟨n,hn⟩:∃n,n=Pt.wdRs.length:=⟨_,rfl⟩;rw[<- hn] at HBd⊢;clear hn HR HB2 HG;go_wp2_with fail;have HBw:=hid (show Below w3.heap.size w3 (w3.alloc (.cells #[.slice ro n rc,.bool true] 63)) from(Below.refl _ _).alloc (Nat.le_refl _) _)
 refine(HBd.out _ HBw.out).mono ?_;rintro e w4 ⟨vo,vc,rfl,hO,hB4⟩;have HQ:=hid (show Pt.LsQ w (wbs' l) (.returned (.slice vo (wbs' l).length vc)) w4 from by
  rw[wd_bn] at hO;have hs:=Nat.le_trans HB1.out.size HB3.out.size;exact⟨vo,vc,rfl,Pt.zay hO (by have:=HBw.out.size;omega),HB1.out.trans ((HB3.out.mono HB1.out.size).trans ((HBw.out.trans (hB4.mono HBw.out.size)).mono hs))⟩)
 rw[wd_bn];clear hO hB4 HBd HBw HB1 HB3 HK;go_wp2;go_ret;exact HQ.out
end Wd
end Go.Proofs.YtokpjifnlifafaaGreatDoor
