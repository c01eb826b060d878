/- WdEdge: parts of the proof, joined. -/
import Derived.Test.YtokpjifnlifafaaGreatDoorEWdNext
import Derived.Test.YtokpjifnlifafaaGreatDoorEPtEv
import Derived.Test.YtokpjifnlifafaaGreatDoorESgMath
set_option maxHeartbeats 64000000
namespace Go.Proofs.YtokpjifnlifafaaGreatDoor
namespace Wd
open Wt
def fw (l:List UInt8):List Int:=(rl l).map fun x=>wdcls x.1
theorem fw_cons (l:List UInt8) (h:l≠ []):fw l=zaD l::fw (l.drop (dec l).2):=by unfold fw zaD;rw[zbg l h,List.map_cons]
theorem fw_snoc (l:List UInt8) (h:l≠ []):fw l=fw (ltl l)++[wlast l]:=by unfold fw wlast;rw[rl_snoc l h,List.map_append,List.map_singleton]
theorem fw_len (l:List UInt8):(fw l).length=(rl l).length:=List.length_map _
theorem fw_take (s:List UInt8) (k:Nat) (h:k<=(rl s).length):fw (s.take (pos s k))=(fw s).take k:=by
 unfold fw;rw[rl_take s k h,List.map_take]
theorem fw_drop (s:List UInt8) (k:Nat) (h:k<=(rl s).length):fw (s.drop (pos s k))=(fw s).drop k:=by
 unfold fw;rw[rl_drop s k h,List.map_drop]
theorem wfirst_nil:zaD []=0:=by decide
theorem wlast_hd (l:List UInt8):wlast l=(fw l).reverse.headD 0:=by
 by_cases h:l=[]
 ·subst h;exact wlast_nil
 ·rw[fw_snoc l h,List.reverse_append,List.reverse_singleton,List.singleton_append,List.headD_cons]
theorem wfirst_hd (l:List UInt8):zaD l=(fw l).headD 0:=by
 by_cases h:l=[]
 ·subst h;exact wfirst_nil
 ·rw[fw_cons l h,List.headD_cons]
theorem ltl_is (l:List UInt8):ltl l=l.take (ltl l).length:=by
 conv=>lhs;unfold ltl
 rw[List.take_eq_take_iff];unfold ltl;rw[List.length_take];omega
theorem wbs_bk:∀(n:Nat) (l:List UInt8),l.length<=n->(wbs l).1=((fw l).reverse.dropWhile Wo.clg).headD 0/\fw (l.take (wbs l).2)=(((fw l).reverse.dropWhile Wo.clg).tail).reverse
 | n,l,hn=>by
  by_cases h:l=[]
  ·subst h;exact⟨rfl,rfl⟩
  ·have hl:=zbN l h
   rw[fw_snoc l h,List.reverse_append,List.reverse_singleton,List.singleton_append]
   cases hk:zaA (wlast l) with
   | true=>
    have hk':Wo.clg (wlast l)=true:=hk;rw[wbs_yes l h hk,List.dropWhile_cons_of_pos hk']
    cases n with
    | zero=>omega
    | succ n=>
     obtain⟨h1,h2⟩:=wbs_bk n (ltl l) (by omega)
     refine⟨h1,?_⟩;have h3:=wbs_le _ (ltl l) (Nat.le_refl _);have e:∀x,x<=(ltl l).length->l.take x=(ltl l).take x:=fun x hx=>by
      conv=>rhs;rw[ltl_is l,List.take_take]
      rw[Nat.min_eq_left hx]
     rw[e _ h3,h2]
   | false=>
    have hk':Wo.clg (wlast l)=false:=hk;rw[wbs_no l h hk,List.dropWhile_cons_of_neg (by rw[hk'];simp)]
    refine⟨by simp only[List.headD_cons],?_⟩
    simp only[]
    rw[<- ltl_is l,List.tail_cons,List.reverse_reverse]
theorem won_fw:∀(n:Nat) (l:List UInt8),l.length<=n->won l=((fw l).dropWhile Wo.clg).headD 0
 | n,l,hn=>by
  by_cases h:l=[]
  ·subst h;rfl
  ·have h1:=dec_ge l h
   have hp:0<l.length:=List.length_pos_iff.2 h;rw[fw_cons l h]
   cases hk:zaA (zaD l) with
   | true=>
    have hk':Wo.clg (zaD l)=true:=hk;rw[won_yes l h hk,List.dropWhile_cons_of_pos hk']
    cases n with
    | zero=>omega
    | succ n=>exact won_fw n _ (by rw[List.length_drop];omega)
   | false=>
    have hk':Wo.clg (zaD l)=false:=hk;rw[won_no l h hk,List.dropWhile_cons_of_neg (by rw[hk'];simp),List.headD_cons]
theorem wod_bk:∀(n:Nat) (l:List UInt8) (o:Bool),l.length<=n->wod l o=Wo.odR (fw l).reverse o
 | n,l,o,hn=>by
  by_cases h:l=[]
  ·subst h;rfl
  ·have hl:=zbN l h
   rw[wod_step l o h,fw_snoc l h,List.reverse_append,List.reverse_singleton,List.singleton_append,Wo.odr_c]
   cases n with
   | zero=>omega
   | succ n=>
    rw[wod_bk n (ltl l) (!o) (by omega),wod_bk n (ltl l) o (by omega)]
    rfl
theorem wjoin_at (s:List UInt8) (k:Nat) (h:k<(rl s).length):wjoin s (pos s k)=Wo.wjL ((fw s).take k).reverse ((fw s).drop k):=by
 have hk:=Nat.le_of_lt h;have hb:=wbs_bk _ (s.take (pos s k)) (Nat.le_refl _);have hbl:=wbs_le _ (s.take (pos s k)) (Nat.le_refl _);rw[List.length_take] at hbl;have hf:s.take (wbs (s.take (pos s k))).2=(s.take (pos s k)).take (wbs (s.take (pos s k))).2:=by rw[List.take_take,Nat.min_eq_left (by omega)]
 have hb2:=(wbs_bk _ (s.take (wbs (s.take (pos s k))).2) (Nat.le_refl _)).1;rw[hf,hb.2,List.reverse_reverse] at hb2;have hw:won (s.drop (pos s k+(dec (s.drop (pos s k))).2))=(((fw s).drop k).tail.dropWhile Wo.clg).headD 0:=by
  rw[pos_step s k h,won_fw _ _ (Nat.le_refl _),fw_drop s (k+1) h,List.tail_drop]
 have ho:wod (s.take (pos s k)) false=Wo.odR ((fw s).take k).reverse false:=by rw[wod_bk _ _ _ (Nat.le_refl _),fw_take s k hk]
 have hfi:zaD (s.drop (pos s k))=((fw s).drop k).headD 0:=by rw[wfirst_hd,fw_drop s k hk]
 unfold wjoin;rw[ho,hfi,hw,hf,hb2,hb.1,fw_take s k hk]
 rfl
theorem wcut_at (s:List UInt8) (k:Nat) (h:k<(rl s).length):wcut s (pos s k)=Wo.wcL ((fw s).take k).reverse ((fw s).drop k):=by
 have hk:=Nat.le_of_lt h;unfold wcut;rw[wjoin_at s k h,wlast_hd,fw_take s k hk,wfirst_hd,fw_drop s k hk]
 rfl
def wC (s:List UInt8) (k:Nat):Bool:=wcut s (pos s k)
theorem pos_drop (s:List UInt8) (a k:Nat) (h:a<=(rl s).length):pos s a+pos (s.drop (pos s a)) k=pos s (a+k):=by
 by_cases hk:a+k<=(rl s).length
 ·have:=zcr s
  unfold pos;rw[show psm ((rl s).take a)=pos s a from rfl,rl_drop s a h,List.take_add,psm_app]
  rfl
 ·have h1:(rl (s.drop (pos s a))).length<=k:=by rw[rl_drop s a h,List.length_drop];omega
  rw[zcL _ _ h1,zcL s (a+k) (by omega),List.length_drop]
  have:=pos_le s a h;omega
theorem wcut_drop (s:List UInt8) (i k:Nat) (hik:i<k) (hk:k<(rl s).length) (hb:i=0\/wC s i=true):wcut (s.drop (pos s i)) (pos s k - pos s i)=wC s k:=by
 have hi:i<(rl s).length:=by omega
 have hl:(rl (s.drop (pos s i))).length=(rl s).length - i:=by rw[rl_drop s i (by omega),List.length_drop]
 have hp:=pos_drop s i (k - i) (by omega)
 rw[show i+(k - i)=k by omega] at hp
 rw[show pos s k - pos s i=pos (s.drop (pos s i)) (k - i) by omega,wcut_at _ _ (by omega),fw_drop s i (by omega)]
 unfold wC;rw[wcut_at s k hk,List.drop_drop,show i+(k - i)=k by omega]
 have hY:((fw s).take k).reverse=(((fw s).drop i).take (k - i)).reverse++((fw s).take i).reverse:=by
  rw[<- List.reverse_append]
  congr 1
  rw[<- List.take_add,show i+(k - i)=k by omega]
 have hn:=fw_len s;rw[hY];refine(Wo.wc_loc _ _ _ ?_ ?_ ?_).symm
 ·intro e
  have:=congrArg List.length e;rw[List.length_reverse,List.length_take,List.length_drop,List.length_nil] at this;omega
 ·intro e
  have:=congrArg List.length e;rw[List.length_drop,List.length_nil] at this;omega
 ·rcases hb with rfl | hb
  ·exact .inl rfl
  ·right
   rw[List.reverse_reverse];unfold wC at hb;rw[wcut_at s i hi] at hb;have e:((fw s).drop i).take (k - i)++(fw s).drop k=(fw s).drop i:=by
    rw[show(fw s).drop k=((fw s).drop i).drop (k - i) by rw[List.drop_drop,show i+(k - i)=k by omega],List.take_append_drop]
   rw[e];exact hb
theorem wnxT_up (s:List UInt8) (i:Nat) (hb:i=0\/wC s i=true):∀(d j:Nat),(rl s).length - j<=d->i<j->j<=(rl s).length->wnxT (s.drop (pos s i)) (pos s j - pos s i)=pos s (Sg.up (wC s) ((rl s).length - j) j) - pos s i
 | d,j,hd,hij,hj=>by
  have hm:=zcr s (j - i) i (by omega)
  rw[show i+(j - i)=j by omega] at hm
  have hpp:pos s i+(pos s j - pos s i)=pos s j:=by omega
  by_cases hlt:j<(rl s).length
  ·cases d with
   | zero=>omega
   | succ d=>
    have hl:=pos_end s j hlt;have hin:pos s j - pos s i<(s.drop (pos s i)).length:=by rw[List.length_drop];omega
    obtain⟨f,hf⟩:∃f,(rl s).length - j=f+1:=⟨(rl s).length - (j+1),by omega⟩
    rw[hf];unfold Sg.up;have hcd:=wcut_drop s i j hij hlt hb
    cases hc:wC s j with
    | true=>rw[if_pos rfl,wnxT_here _ _ hin (by omega) (by rw[hcd];exact hc)]
    | false=>
     have hs:=pos_step s j hlt;have hs2:=pos_lt s j hlt;rw[if_neg (by simp),zcR _ _ hin (fun h=>by rw[hcd,hc] at h;cases h.2),List.drop_drop,hpp,show pos s j - pos s i+(dec (s.drop (pos s j))).2=pos s (j+1) - pos s i by omega,wnxT_up s i hb d (j+1) (by omega) (by omega) hlt,show(rl s).length - (j+1)=f by omega]
  ·obtain rfl:j=(rl s).length:=by omega
   rw[Nat.sub_self];unfold Sg.up;rw[zcL s _ (Nat.le_refl _)] at *;rw[wnxT_end _ _ (by rw[List.length_drop];omega),List.length_drop]
theorem wnx_nx (s:List UInt8) (i:Nat) (hi:i<(rl s).length) (hb:i=0\/wC s i=true):pos s i+wnx (s.drop (pos s i))=pos s (Sg.nx (wC s) (rl s).length i):=by
 have hl:=pos_end s i hi;have hs:=pos_step s i hi;have hs2:=pos_lt s i hi;have h1:=wnxT_up s i hb _ (i+1) (Nat.le_refl _) (by omega) hi
 have h2:=zcr s (Sg.nx (wC s) (rl s).length i - i) i (by have:=Sg.nx_le (C:=wC s) hi;have:=Sg.nx_gt (wC s) (rl s).length i;omega)
 have h3:=Sg.nx_gt (wC s) (rl s).length i;rw[show i+(Sg.nx (wC s) (rl s).length i - i)=Sg.nx (wC s) (rl s).length i by omega] at h2
 unfold wnx;rw[zcR _ 0 (by rw[List.length_drop];omega) (fun h=>by omega),List.drop_zero,Nat.zero_add,show(dec (s.drop (pos s i))).2=pos s (i+1) - pos s i by omega,h1]
 unfold Sg.nx at h2⊢;omega
def wpF (s:List UInt8):List (Nat × Nat):=Sg.byt s (Sg.pcF (wC s) (rl s).length 0)
def wbd (s:List UInt8):List Nat:=Br.bds 0 (wpF s)
def wbs' (s:List UInt8):List Nat:=if s=[] then [] else wbd s
theorem wp_ch0 (s:List UInt8):Br.Chn 0 s.length (wpF s):=Sg.pc_chn s (wC s) _ 0 (Nat.le_refl _) (Nat.zero_le _)
end Wd
end Go.Proofs.YtokpjifnlifafaaGreatDoor
