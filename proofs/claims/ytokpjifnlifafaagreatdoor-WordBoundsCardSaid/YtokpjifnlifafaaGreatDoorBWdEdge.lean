/- WdEdge, WdMov, WdAro: parts of the proof, joined. -/
import Derived.Test.YtokpjifnlifafaaGreatDoorBPtEv
import Derived.Test.YtokpjifnlifafaaGreatDoorBWdNext
import Derived.Test.YtokpjifnlifafaaGreatDoorBSgMath
set_option maxHeartbeats 64000000
namespace Go.Proofs.YtokpjifnlifafaaGreatDoor
namespace Wd
open Wt
def fw (l:List UInt8):List Int:=(rl l).map fun x=>wdcls x.1
theorem fw_cons (l:List UInt8) (h:l≠ []):fw l=zaE l::fw (l.drop (dec l).2):=by unfold fw zaE;rw[zbh l h,List.map_cons]
theorem fw_snoc (l:List UInt8) (h:l≠ []):fw l=fw (ltl l)++[wlast l]:=by unfold fw wlast;rw[rl_snoc l h,List.map_append,List.map_singleton]
theorem fw_len (l:List UInt8):(fw l).length=(rl l).length:=List.length_map _
theorem fw_take (s:List UInt8) (k:Nat) (h:k<=(rl s).length):fw (s.take (pos s k))=(fw s).take k:=by
 unfold fw;rw[rl_take s k h,List.map_take]
theorem fw_drop (s:List UInt8) (k:Nat) (h:k<=(rl s).length):fw (s.drop (pos s k))=(fw s).drop k:=by
 unfold fw;rw[rl_drop s k h,List.map_drop]
theorem wfirst_nil:zaE []=0:=by decide
theorem wlast_hd (l:List UInt8):wlast l=(fw l).reverse.headD 0:=by
 by_cases h:l=[]
 ·subst h;exact wlast_nil
 ·rw[fw_snoc l h,List.reverse_append,List.reverse_singleton,List.singleton_append,List.headD_cons]
theorem wfirst_hd (l:List UInt8):zaE l=(fw l).headD 0:=by
 by_cases h:l=[]
 ·subst h;exact wfirst_nil
 ·rw[fw_cons l h,List.headD_cons]
theorem ltl_is (l:List UInt8):ltl l=l.take (ltl l).length:=by
 conv=>lhs;unfold ltl
 rw[List.take_eq_take_iff];unfold ltl;rw[List.length_take];omega
theorem wbs_bk:∀(n:Nat) (l:List UInt8),l.length<=n->(wbs l).1=((fw l).reverse.dropWhile Wo.clg).headD 0/\fw (l.take (wbs l).2)=(((fw l).reverse.dropWhile Wo.clg).tail).reverse
 | n,l,hn=>by
  by_cases h:l=[]
  ·subst h;exact⟨rfl,rfl⟩
  ·have hl:=zbW l h
   rw[fw_snoc l h,List.reverse_append,List.reverse_singleton,List.singleton_append]
   cases hk:zaA (wlast l) with
   | true=>
    have hk':Wo.clg (wlast l)=true:=hk;rw[wbs_yes l h hk,List.dropWhile_cons_of_pos hk']
    cases n with
    | zero=>omega
    | succ n=>
     obtain⟨h1,h2⟩:=wbs_bk n (ltl l) (by omega)
     refine⟨h1,?_⟩;have h3:=wbs_le _ (ltl l) (Nat.le_refl _);have e:∀x,x<=(ltl l).length->l.take x=(ltl l).take x:=fun x hx=>by
      conv=>rhs;rw[ltl_is l,List.take_take]
      rw[Nat.min_eq_left hx]
     rw[e _ h3,h2]
   | false=>
    have hk':Wo.clg (wlast l)=false:=hk;rw[wbs_no l h hk,List.dropWhile_cons_of_neg (by rw[hk'];simp)]
    refine⟨by simp only[List.headD_cons],?_⟩
    simp only[]
    rw[<- ltl_is l,List.tail_cons,List.reverse_reverse]
theorem won_fw:∀(n:Nat) (l:List UInt8),l.length<=n->won l=((fw l).dropWhile Wo.clg).headD 0
 | n,l,hn=>by
  by_cases h:l=[]
  ·subst h;rfl
  ·have h1:=dec_ge l h
   have hp:0<l.length:=List.length_pos_iff.2 h;rw[fw_cons l h]
   cases hk:zaA (zaE l) with
   | true=>
    have hk':Wo.clg (zaE l)=true:=hk;rw[won_yes l h hk,List.dropWhile_cons_of_pos hk']
    cases n with
    | zero=>omega
    | succ n=>exact won_fw n _ (by rw[List.length_drop];omega)
   | false=>
    have hk':Wo.clg (zaE l)=false:=hk;rw[won_no l h hk,List.dropWhile_cons_of_neg (by rw[hk'];simp),List.headD_cons]
theorem wod_bk:∀(n:Nat) (l:List UInt8) (o:Bool),l.length<=n->wod l o=Wo.odR (fw l).reverse o
 | n,l,o,hn=>by
  by_cases h:l=[]
  ·subst h;rfl
  ·have hl:=zbW l h
   rw[wod_step l o h,fw_snoc l h,List.reverse_append,List.reverse_singleton,List.singleton_append,Wo.odr_c]
   cases n with
   | zero=>omega
   | succ n=>
    rw[wod_bk n (ltl l) (!o) (by omega),wod_bk n (ltl l) o (by omega)]
    rfl
theorem wjoin_at (s:List UInt8) (k:Nat) (h:k<(rl s).length):wjoin s (pos s k)=Wo.wjL ((fw s).take k).reverse ((fw s).drop k):=by
 have hk:=Nat.le_of_lt h;have hb:=wbs_bk _ (s.take (pos s k)) (Nat.le_refl _);have hbl:=wbs_le _ (s.take (pos s k)) (Nat.le_refl _);rw[List.length_take] at hbl;have hf:s.take (wbs (s.take (pos s k))).2=(s.take (pos s k)).take (wbs (s.take (pos s k))).2:=by rw[List.take_take,Nat.min_eq_left (by omega)]
 have hb2:=(wbs_bk _ (s.take (wbs (s.take (pos s k))).2) (Nat.le_refl _)).1;rw[hf,hb.2,List.reverse_reverse] at hb2;have hw:won (s.drop (pos s k+(dec (s.drop (pos s k))).2))=(((fw s).drop k).tail.dropWhile Wo.clg).headD 0:=by
  rw[zbE s k h,won_fw _ _ (Nat.le_refl _),fw_drop s (k+1) h,List.tail_drop]
 have ho:wod (s.take (pos s k)) false=Wo.odR ((fw s).take k).reverse false:=by rw[wod_bk _ _ _ (Nat.le_refl _),fw_take s k hk]
 have hfi:zaE (s.drop (pos s k))=((fw s).drop k).headD 0:=by rw[wfirst_hd,fw_drop s k hk]
 unfold wjoin;rw[ho,hfi,hw,hf,hb2,hb.1,fw_take s k hk]
 rfl
theorem wcut_at (s:List UInt8) (k:Nat) (h:k<(rl s).length):wcut s (pos s k)=Wo.wcL ((fw s).take k).reverse ((fw s).drop k):=by
 have hk:=Nat.le_of_lt h;unfold wcut;rw[wjoin_at s k h,wlast_hd,fw_take s k hk,wfirst_hd,fw_drop s k hk]
 rfl
def wC (s:List UInt8) (k:Nat):Bool:=wcut s (pos s k)
theorem pos_drop (s:List UInt8) (a k:Nat) (h:a<=(rl s).length):pos s a+pos (s.drop (pos s a)) k=pos s (a+k):=by
 by_cases hk:a+k<=(rl s).length
 ·have:=zbm s
  unfold pos;rw[show psm ((rl s).take a)=pos s a from rfl,rl_drop s a h,List.take_add,psm_app]
  rfl
 ·have h1:(rl (s.drop (pos s a))).length<=k:=by rw[rl_drop s a h,List.length_drop];omega
  rw[zbi _ _ h1,zbi s (a+k) (by omega),List.length_drop]
  have:=pos_le s a h;omega
theorem wcut_drop (s:List UInt8) (i k:Nat) (hik:i<k) (hk:k<(rl s).length) (hb:i=0\/wC s i=true):wcut (s.drop (pos s i)) (pos s k - pos s i)=wC s k:=by
 have hi:i<(rl s).length:=by omega
 have hl:(rl (s.drop (pos s i))).length=(rl s).length - i:=by rw[rl_drop s i (by omega),List.length_drop]
 have hp:=pos_drop s i (k - i) (by omega)
 rw[show i+(k - i)=k by omega] at hp
 rw[show pos s k - pos s i=pos (s.drop (pos s i)) (k - i) by omega,wcut_at _ _ (by omega),fw_drop s i (by omega)]
 unfold wC;rw[wcut_at s k hk,List.drop_drop,show i+(k - i)=k by omega]
 have hY:((fw s).take k).reverse=(((fw s).drop i).take (k - i)).reverse++((fw s).take i).reverse:=by
  rw[<- List.reverse_append]
  congr 1
  rw[<- List.take_add,show i+(k - i)=k by omega]
 have hn:=fw_len s;rw[hY];refine(Wo.wc_loc _ _ _ ?_ ?_ ?_).symm
 ·intro e
  have:=congrArg List.length e;rw[List.length_reverse,List.length_take,List.length_drop,List.length_nil] at this;omega
 ·intro e
  have:=congrArg List.length e;rw[List.length_drop,List.length_nil] at this;omega
 ·rcases hb with rfl | hb
  ·exact .inl rfl
  ·right
   rw[List.reverse_reverse];unfold wC at hb;rw[wcut_at s i hi] at hb;have e:((fw s).drop i).take (k - i)++(fw s).drop k=(fw s).drop i:=by
    rw[show(fw s).drop k=((fw s).drop i).drop (k - i) by rw[List.drop_drop,show i+(k - i)=k by omega],List.take_append_drop]
   rw[e];exact hb
theorem wnxT_up (s:List UInt8) (i:Nat) (hb:i=0\/wC s i=true):∀(d j:Nat),(rl s).length - j<=d->i<j->j<=(rl s).length->wnxT (s.drop (pos s i)) (pos s j - pos s i)=pos s (Sg.up (wC s) ((rl s).length - j) j) - pos s i
 | d,j,hd,hij,hj=>by
  have hm:=zbm s (j - i) i (by omega)
  rw[show i+(j - i)=j by omega] at hm
  have hpp:pos s i+(pos s j - pos s i)=pos s j:=by omega
  by_cases hlt:j<(rl s).length
  ·cases d with
   | zero=>omega
   | succ d=>
    have hl:=zbN s j hlt;have hin:pos s j - pos s i<(s.drop (pos s i)).length:=by rw[List.length_drop];omega
    obtain⟨f,hf⟩:∃f,(rl s).length - j=f+1:=⟨(rl s).length - (j+1),by omega⟩
    rw[hf];unfold Sg.up;have hcd:=wcut_drop s i j hij hlt hb
    cases hc:wC s j with
    | true=>rw[if_pos rfl,zeF _ _ hin (by omega) (by rw[hcd];exact hc)]
    | false=>
     have hs:=zbE s j hlt;have hs2:=zdc s j hlt;rw[if_neg (by simp),zbR _ _ hin (fun h=>by rw[hcd,hc] at h;cases h.2),List.drop_drop,hpp,show pos s j - pos s i+(dec (s.drop (pos s j))).2=pos s (j+1) - pos s i by omega,wnxT_up s i hb d (j+1) (by omega) (by omega) hlt,show(rl s).length - (j+1)=f by omega]
  ·obtain rfl:j=(rl s).length:=by omega
   rw[Nat.sub_self];unfold Sg.up;rw[zbi s _ (Nat.le_refl _)] at *;rw[zee _ _ (by rw[List.length_drop];omega),List.length_drop]
theorem wnx_nx (s:List UInt8) (i:Nat) (hi:i<(rl s).length) (hb:i=0\/wC s i=true):pos s i+wnx (s.drop (pos s i))=pos s (Sg.nx (wC s) (rl s).length i):=by
 have hl:=zbN s i hi;have hs:=zbE s i hi;have hs2:=zdc s i hi;have h1:=wnxT_up s i hb _ (i+1) (Nat.le_refl _) (by omega) hi
 have h2:=zbm s (Sg.nx (wC s) (rl s).length i - i) i (by have:=Sg.nx_le (C:=wC s) hi;have:=Sg.nx_gt (wC s) (rl s).length i;omega)
 have h3:=Sg.nx_gt (wC s) (rl s).length i;rw[show i+(Sg.nx (wC s) (rl s).length i - i)=Sg.nx (wC s) (rl s).length i by omega] at h2
 unfold wnx;rw[zbR _ 0 (by rw[List.length_drop];omega) (fun h=>by omega),List.drop_zero,Nat.zero_add,show(dec (s.drop (pos s i))).2=pos s (i+1) - pos s i by omega,h1]
 unfold Sg.nx at h2⊢;omega
def wpF (s:List UInt8):List (Nat × Nat):=Sg.byt s (Sg.pcF (wC s) (rl s).length 0)
def wbd (s:List UInt8):List Nat:=Br.bds 0 (wpF s)
def wbs' (s:List UInt8):List Nat:=if s=[] then [] else wbd s
theorem zbC (s:List UInt8):Br.Chn 0 s.length (wpF s):=Sg.pc_chn s (wC s) _ 0 (Nat.le_refl _) (Nat.zero_le _)
def toI (x:Nat × Nat):Int × Int:=((x.1:Int),(x.2:Int))
theorem wb_pc (s:List UInt8):∀(d i:Nat),(rl s).length - i<=d->i<=(rl s).length->(i=0\/wC s i=true)->wb s (pos s i)=(Sg.byt s (Sg.pcF (wC s) (rl s).length i)).map toI
 | d,i,hd,hi,hb=>by
  by_cases h:i<(rl s).length
  ·cases d with
   | zero=>omega
   | succ d=>
    have h1:=Sg.nx_gt (wC s) (rl s).length i;have h2:=Sg.nx_le (C:=wC s) h;rw[wb_step s (pos s i) (zbN s i h),wnx_nx s i h hb,Sg.zdd h]
    show _=toI (pos s i,pos s (Sg.nx (wC s) (rl s).length i))::(Sg.byt s (Sg.pcF (wC s) (rl s).length (Sg.nx (wC s) (rl s).length i))).map toI
    rcases Sg.nx_yes (C:=wC s) h with h5 | h5
    ·rw[h5,Sg.zdI (Nat.le_refl _),wb_end s _ (by rw[zbi s _ (Nat.le_refl _)];omega)]
     rfl
    ·rw[wb_pc s d _ (by omega) h2 (.inr h5)]
     rfl
  ·obtain rfl:i=(rl s).length:=by omega
   rw[Sg.zdI (Nat.le_refl _),wb_end s _ (by rw[zbi s _ (Nat.le_refl _)];omega)]
   rfl
theorem wb_all (s:List UInt8):wb s 0=(wpF s).map toI:=wb_pc s _ 0 (Nat.le_refl _) (Nat.zero_le _) (.inl rfl)
theorem wtos_bds (s:List UInt8):i64s (wtos (wb s 0))=Pt.i64n (wbd s):=by
 rw[wb_all];unfold wbd Br.bds wtos i64s Pt.i64n;rw[List.map_cons,List.map_cons,List.map_map,List.map_map,List.map_map]
 rfl
theorem wtos_len (s:List UInt8):(wtos (wb s 0)).length=(wbd s).length:=by
 rw[wb_all];unfold wbd Br.bds wtos
 simp
end Wd
namespace Wd
open Go.RowKit Wt
def onwF (s:List UInt8) (p:Nat):Nat->Nat->Nat
 | 0,_=>s.length
 | f+1,t=>if t<(s.drop p).length then (if 0<t/\wcut s (p+t)=true then p+t else onwF s p f (t+(dec ((s.drop p).drop t)).2)) else s.length
theorem zeo (s:List UInt8) (p:Nat):∀(f g t:Nat),(s.drop p).length - t<=f->(s.drop p).length - t<=g->onwF s p f t=onwF s p g t
 | 0,0,t,_,_=>rfl
 | 0,g+1,t,hf,hg=>by
  unfold onwF;rw[if_neg (by omega)]
 | f+1,0,t,hf,hg=>by
  unfold onwF;rw[if_neg (by omega)]
 | f+1,g+1,t,hf,hg=>by
  unfold onwF
  by_cases h:t<(s.drop p).length
  ·have h1:=dec_ge ((s.drop p).drop t) (zaB _ t h)
   rw[if_pos h,if_pos h,zeo s p f g (t+(dec ((s.drop p).drop t)).2) (by omega) (by omega)]
  ·rw[if_neg h,if_neg h]
def onwT (s:List UInt8) (p t:Nat):Nat:=onwF s p ((s.drop p).length - t) t
theorem onwT_end (s:List UInt8) (p t:Nat) (h:¬t<(s.drop p).length):onwT s p t=s.length:=by
 unfold onwT;rw[show(s.drop p).length - t=0 by omega];rfl
theorem onwT_here (s:List UInt8) (p t:Nat) (h:t<(s.drop p).length) (h0:0<t) (hc:wcut s (p+t)=true):onwT s p t=p+t:=by
 unfold onwT;rw[zeo s p _ ((s.drop p).length - t - 1+1) t (by omega) (by omega)]
 unfold onwF;rw[if_pos h,if_pos ⟨h0,hc⟩]
theorem zdf (s:List UInt8) (p t:Nat) (h:t<(s.drop p).length) (hc:¬(0<t/\wcut s (p+t)=true)):onwT s p t=onwT s p (t+(dec ((s.drop p).drop t)).2):=by
 have h1:=dec_ge ((s.drop p).drop t) (zaB _ t h);unfold onwT;rw[zeo s p _ ((s.drop p).length - t - 1+1) t (by omega) (by omega)]
 conv=>lhs;unfold onwF
 rw[if_pos h,if_neg hc];exact zeo s p _ _ _ (by omega) (by omega)
def wsx (s:List UInt8) (p:Nat):Nat:=onwT s p 0
theorem onwT_up (s:List UInt8) (i:Nat):∀(d j:Nat),(rl s).length - j<=d->i<j->j<=(rl s).length->onwT s (pos s i) (pos s j - pos s i)=pos s (Sg.up (wC s) ((rl s).length - j) j)
 | d,j,hd,hij,hj=>by
  have hm:=zbm s (j - i) i (by omega)
  rw[show i+(j - i)=j by omega] at hm
  have hpp:pos s i+(pos s j - pos s i)=pos s j:=by omega
  by_cases hlt:j<(rl s).length
  ·cases d with
   | zero=>omega
   | succ d=>
    have hl:=zbN s j hlt;have hin:pos s j - pos s i<(s.drop (pos s i)).length:=by rw[List.length_drop];omega
    obtain⟨f,hf⟩:∃f,(rl s).length - j=f+1:=⟨(rl s).length - (j+1),by omega⟩
    rw[hf];unfold Sg.up
    cases hc:wC s j with
    | true=>
     rw[if_pos rfl,onwT_here s _ _ hin (by omega) (by rw[hpp];exact hc),hpp]
    | false=>
     have hs:=zbE s j hlt;have hs2:=zdc s j hlt;rw[if_neg (by simp),zdf s _ _ hin (fun h=>by rw[hpp] at h;have h2:wC s j=true:=h.2;rw[hc] at h2;cases h2),List.drop_drop,hpp,show pos s j - pos s i+(dec (s.drop (pos s j))).2=pos s (j+1) - pos s i by omega,onwT_up s i d (j+1) (by omega) (by omega) hlt,show(rl s).length - (j+1)=f by omega]
  ·obtain rfl:j=(rl s).length:=by omega
   rw[Nat.sub_self];unfold Sg.up;rw[zbi s _ (Nat.le_refl _)] at *;exact onwT_end s _ _ (by rw[List.length_drop];omega)
theorem wsx_nx (s:List UInt8) (i:Nat) (hi:i<(rl s).length):wsx s (pos s i)=pos s (Sg.nx (wC s) (rl s).length i):=by
 have hl:=zbN s i hi;have hs:=zbE s i hi;have hs2:=zdc s i hi;unfold wsx Sg.nx;rw[zdf s _ 0 (by rw[List.length_drop];omega) (fun h=>by omega),List.drop_zero,Nat.zero_add,show(dec (s.drop (pos s i))).2=pos s (i+1) - pos s i by omega]
 exact onwT_up s i _ (i+1) (Nat.le_refl _) (by omega) hi
theorem zfb (s:List UInt8) (z:Nat):∀k,k<=(rl s).length->z<pos s k->∃i,i<k/\pos s i<=z/\z<pos s (i+1)
 | 0,_,h=>by rw[pos_0] at h;omega
 | k+1,hk,h=>by
  by_cases h2:z<pos s k
  ·obtain⟨i,h3,h4⟩:=zfb s z k (by omega) h2
   exact⟨i,by omega,h4⟩
  ·exact⟨k,by omega,by omega,h⟩
theorem bg_in (s:List UInt8) (i z:Nat) (hi:i<(rl s).length) (h1:pos s i<=z) (h2:z<pos s (i+1)):bgF s z 4=pos s i:=by
 obtain⟨P,hP⟩:=mks_pos s i (Nat.le_of_lt hi);have hl:=zbN s i hi;have hs:=zbE s i hi;have hle:=pos_le s (i+1) hi;rw[zdj s _ hl] at hP;exact begin_is s z (pos s i) P (by omega) h1 (by unfold wid;omega) hP
theorem back_in (s:List UInt8) (i z:Nat) (hi:i<(rl s).length) (h1:pos s i<z) (h2:z<=pos s (i+1)):backE s (z:Int)=(pos s i:Nat):=by
 have hle:=pos_le s (i+1) hi;unfold backE;rw[if_neg (by omega),if_neg (by omega),Int.toNat_natCast,bg_in s i (z - 1) hi (by omega) (by omega)]
theorem isE_in (s:List UInt8) (i z:Nat) (hi:i<(rl s).length) (h1:pos s i<=z) (h2:z<pos s (i+1)) (h0:0<z):isE s (z:Int)=(pos s i==z):=by
 have hle:=pos_le s (i+1) hi;unfold isE;rw[if_neg (by omega),if_neg (by omega),Int.toNat_natCast,bg_in s i z hi h1 h2]
theorem wp_mem (s:List UInt8) (i:Nat) (hi:i<(rl s).length):(pos s (Sg.dn (wC s) i),pos s (Sg.nx (wC s) (rl s).length i))∈wpF s:=by
 have h:=Sg.pc_mem (C:=wC s) _ 0 i (Nat.le_refl _) (Nat.zero_le _) hi (.inl rfl);exact List.mem_map.2 ⟨_,h,rfl⟩
theorem zbM (s:List UInt8) {i j:Nat} (h:i<=j) (hj:j<=(rl s).length):pos s i<=pos s j:=by
 have:=zbm s (j - i) i (by omega)
 rw[show i+(j - i)=j by omega] at this
 omega
theorem wnext_p (s:List UInt8) (z p:Nat) (w:World) (ht:TbW w) (hl:s.length<=1000000000) (hz:z<s.length) (hpz:p<=z) (hbk:backE s ((z+1:Nat):Int)=(p:Nat)):
  Calls Tryz.prog 18 #[.string ⟨s.toArray⟩,.int .i64 z] w fun e w'=>e= .returned (.int .i64 (wsx s p))/\Below w.heap.size w w':=by
 have HT:=hid ht;have HBK:=hid (show backE s ((z:Int)+1)=(p:Nat) from by rw[<- hbk,Int.natCast_add];rfl)
 have hp:p<s.length:=by omega
 obtain⟨l,hll⟩:∃l,l=s.drop p:=⟨_,rfl⟩;have hdl:l.length=s.length - p:=by rw[hll];exact List.length_drop
 have HLL:=hid hll;have HSZ:=hid (show(⟨l.toArray⟩:ByteArray).size=l.length by show l.toArray.size=_;simp)
 clear ht hll hbk hpz;go_enter Tryz.func18,Tryz.ntmps18;go_wp2_with fail;refine(back_any s _ w (by omega) HT.out.tabs HT.out.two).mono ?_
 rintro e w0 ⟨rfl,be⟩;rw[HBK.out];have HB0:=hid (be.trans ((Below.refl w.heap.size w0).alloc be.size (.stringIter ⟨l.toArray⟩ 0)));have HIT0:=hid (World.iter_heap w0 ⟨l.toArray⟩ 0);have hw0:=be.size;clear be;go_wp2;rw[ext_drop,<- HLL.out];obtain⟨it,hit⟩:∃it,it=w0.heap.size:=⟨_,rfl⟩;rw[<- hit] at HIT0 hw0⊢;have HW0:=hid hw0;clear hit;go_loopw [6] (fun _ wr=>∃t:Nat,Hid (wsx s p=onwT s p t)/\Hid (wr.heap[it]? =some (.stringIter ⟨l.toArray⟩ t))/\Hid (Below w.heap.size w wr)) (fun _ wr=>l.length - wr.iterPos it)
 case atStart=>exact⟨0,rfl,HIT0,HB0⟩
 case round=>
  obtain⟨t,HP,HI,HB⟩:=hrel;have hin:it<wr.heap.size:=(Array.getElem?_eq_some_iff.1 HI.out).1
  by_cases hlt:t<l.length
  ·have hnx:=wnext_at (P:=Tryz.prog) wr it ⟨l.toArray⟩ t 0 HI.out (by rw[HSZ.out];exact hlt)
   rw[zbH l t hlt] at hnx;have d1:=dec_ge _ (zaB l t hlt);obtain⟨nn,hnn⟩:∃nn,nn=(dec (l.drop t)).2:=⟨_,rfl⟩;obtain⟨rr,hrr⟩:∃rr,rr=(dec (l.drop t)).1:=⟨_,rfl⟩;rw[<- hnn] at hnx d1;rw[<- hrr] at hnx;have HNN:=hid hnn;obtain⟨w1,hw1⟩:∃w1,w1=wr.putObj it (.stringIter ⟨l.toArray⟩ (t+nn)):=⟨_,rfl⟩;rw[<- hw1] at hnx;have HI1:=hid (show w1.heap[it]? =some (.stringIter ⟨l.toArray⟩ (t+nn)) by rw[hw1];exact World.putObj_heap_same hin)
   have HB1:=hid (show Below w.heap.size w w1 by rw[hw1];exact HB.out.trans ⟨rfl,rfl,rfl,by simp[World.putObj],fun j hj=>World.putObj_heap_other (by have:=HW0.out;omega)⟩)
   have HM:=hid (show l.length - wr.iterPos it=l.length - t by unfold World.iterPos;rw[HI.out])
   have hin1:it<w1.heap.size:=(Array.getElem?_eq_some_iff.1 HI1.out).1;have hlt':t<(s.drop p).length:=by rw[<- HLL.out];exact hlt
   have HLT:=hid hlt';clear hnn hrr hw1 HI HB hlt'
   by_cases h0:0<t
   ·have h0i:(0:Int)<(t:Int):=by omega
    have hpt:p+t<=s.length:=by omega
    go_wp2_with fail;refine(zeh s (p+t) w1 (HT.out.below HB1.out) hl hpt).mono ?_;rintro e w2 ⟨rfl,be⟩;have HB2:=hid (HB1.out.trans (be.mono HB1.out.size));have HI2:=hid (show w2.heap[it]? =some (.stringIter ⟨l.toArray⟩ (t+nn)) from(be.block _ hin1).trans HI1.out)
    obtain⟨v,hv⟩:∃v,v=wcut s (p+t):=⟨_,rfl⟩;have HV:=hid hv;rw[<- hv];clear be hv HB1 HI1 hnx
    cases v with
    | true=>
     have HE:=hid (HP.out.trans (onwT_here s p t HLT.out h0 HV.out.symm));go_wp2;go_ret;exact⟨by rw[HE.out];simp,HB2.out⟩
    | false=>
     have HE:=hid (HP.out.trans (zdf s p t HLT.out (fun h=>by rw[<- HV.out] at h;cases h.2)))
     go_wp2;go_roundw
     case rel=>exact⟨t+nn,(by show _=_;rw[HE.out,HNN.out,HLL.out]),HI2,HB2⟩
     case measure=>
      rw[HM.out];unfold World.iterPos;rw[HI2.out]
      simp only[]
      omega
   ·have h00:t=0:=by omega
    have HE:=hid (HP.out.trans (zdf s p t HLT.out (fun h=>h0 h.1)))
    have HT0:=hid h00;have h0i:¬(0:Int)<(t:Int):=by omega
    clear h00;go_wp2;go_roundw
    case rel=>exact⟨t+nn,(by show _=_;rw[HE.out,HNN.out,HLL.out]),HI1,HB1⟩
    case measure=>
     rw[HM.out];unfold World.iterPos;rw[HI1.out]
     simp only[]
     omega
  ·have hnx:=zdv (P:=Tryz.prog) wr it ⟨l.toArray⟩ t 0 HI.out (by rw[HSZ.out];exact hlt)
   have HE:=hid (HP.out.trans (onwT_end s p t (by rw[<- HLL.out];exact hlt)))
   go_wp2;go_ret;exact⟨by rw[HE.out];rfl,HB.out⟩
theorem wnext_z (s:List UInt8) (z:Int) (w:World) (ht:TbW w) (hl:s.length<=1000000000):
  Calls Tryz.prog 18 #[.string ⟨s.toArray⟩,.int .i64 z] w fun e w'=>e= .returned (.int .i64 (Br.abv z s.length (wbd s):Nat))/\Below w.heap.size w w':=by
 by_cases h0:z<0
 ·have HN:=hid (show Br.abv z s.length (wbd s)=0 from Br.abv_low (by omega) _)
  rw[HN.out];clear HN ht;go_enter Tryz.func18,Tryz.ntmps18;go_wp2;go_ret;exact⟨rfl,Below.refl _ _⟩
 by_cases h1:(s.length:Int)<=z
 ·have HN:=hid (show Br.abv z s.length (wbd s)=s.length from(zbC s).abv_high h1 _)
  rw[HN.out];clear HN ht;go_enter Tryz.func18,Tryz.ntmps18;go_wp2;go_ret;exact⟨rfl,Below.refl _ _⟩
 obtain⟨p,rfl⟩:∃p:Nat,z=p:=⟨z.toNat,by omega⟩
 obtain⟨i,hi,h2,h3⟩:=zfb s p (rl s).length (Nat.le_refl _) (by rw[zbi s _ (Nat.le_refl _)];omega)
 have h4:=zbM s (Sg.dn_le (wC s) i) (Nat.le_of_lt hi);have h5:=zbM s (i:=i+1) (Sg.nx_gt (wC s) (rl s).length i) (Sg.nx_le hi);have e:Br.abv (p:Int) s.length (wbd s)=pos s (Sg.nx (wC s) (rl s).length i):=(zbC s).abv_in (wp_mem s i hi) (by omega) (by omega) _
 rw[e,<- wsx_nx s i hi];exact wnext_p s p (pos s i) w ht hl (by omega) h2 (back_in s i (p+1) hi (by omega) (by omega))
theorem wprev_p (s:List UInt8) (z i:Nat) (w:World) (ht:TbW w) (hl:s.length<=1000000000) (hz:z<=s.length) (hi:i<(rl s).length) (h1:pos s i<z) (h2:z<=pos s (i+1)):
  Calls Tryz.prog 20 #[.string ⟨s.toArray⟩,.int .i64 z] w fun e w'=>e= .returned (.int .i64 (pos s (Sg.dn (wC s) i):Nat))/\Below w.heap.size w w':=by
 have HT:=hid ht;have HB:=hid (back_in s i z hi h1 h2);have H1:=hid h1;have hzi:¬(s.length:Int)<(z:Int):=by omega
 clear ht h1 h2;go_enter Tryz.func20,Tryz.ntmps20;go_wp2;go_loopw [1] (fun fr wr=>∃(p j:Nat),fr= .int .i64 p/\Hid (j<(rl s).length)/\Hid (backE s (p:Int)=(pos s j:Nat))/\Hid (Sg.dn (wC s) i=Sg.dn (wC s) j)/\Hid (pos s j<p)/\Hid (Below w.heap.size w wr)) (fun fr _=>(intOf fr).toNat)
 case atStart=>exact⟨z,i,rfl,hi,HB,rfl,H1,Below.refl _ _⟩
 case round=>
  obtain⟨p,j,rfl,HJ,HBK,HD,HLT,HBl⟩:=hrel;go_wp2_with fail;refine(back_any s (p:Int) wr (by omega) (HT.out.below HBl.out).tabs (HT.out.below HBl.out).two).mono ?_
  rintro e w1 ⟨rfl,be⟩;rw[HBK.out];have HB1:=hid (HBl.out.trans (be.mono HBl.out.size));have hpl:=zbN s j HJ.out;have HC:=hid (show wC s j=wcut s (pos s j) from rfl)
  obtain⟨q,hq⟩:∃q,q=pos s j:=⟨_,rfl⟩;have HQ:=hid hq;have hlt:=HLT.out;rw[<- hq] at hlt hpl HC;rw[<- hq];clear be hq HBl HLT
  by_cases h0:q=0
  ·subst h0
   have HE:=hid (show pos s (Sg.dn (wC s) i)=0 by
    have hj0:j=0:=by
     rcases Nat.eq_zero_or_pos j with h | h
     ·exact h
     ·have h1:=zbm s j 0 (by have:=HJ.out;omega)
      have h2:=HQ.out;rw[Nat.zero_add] at h1;omega
    rw[HD.out,hj0]
    rfl)
   go_wp2;go_ret;exact⟨by rw[HE.out];rfl,HB1.out⟩
  ·have h0i:¬(q:Int)=0:=by omega
   have b0:((q:Int)==0)=false:=beq_eq_false_iff_ne.2 h0i;go_wp2_with fail;refine(zeh s q w1 (HT.out.below HB1.out) hl (by omega)).mono ?_
   rintro e w2 ⟨rfl,be⟩;have HB2:=hid (HB1.out.trans (be.mono HB1.out.size));obtain⟨v,hv⟩:∃v,v=wcut s q:=⟨_,rfl⟩;rw[<- hv] at HC;rw[<- hv];clear be hv HB1;obtain⟨j',hj'⟩:∃j',j=j'+1:=⟨j - 1,by
    rcases Nat.eq_zero_or_pos j with h | h
    ·exfalso
     have h2:=HQ.out;rw[h,pos_0] at h2;omega
    ·omega⟩
   subst hj'
   cases v with
   | true=>
    have HE:=hid (show pos s (Sg.dn (wC s) i)=q by
     rw[HD.out];unfold Sg.dn;rw[if_pos HC.out,<- HQ.out])
    go_wp2;go_ret;exact⟨by rw[HE.out];rfl,HB2.out⟩
   | false=>
    have HD2:=hid (show Sg.dn (wC s) i=Sg.dn (wC s) j' by
     rw[HD.out]
     conv=>lhs;unfold Sg.dn
     rw[if_neg (by rw[HC.out];simp)])
    have HBK2:=hid (show backE s (q:Int)=(pos s j':Nat) by rw[HQ.out];exact back_pos s j' (by have:=HJ.out;omega))
    have HLT2:=hid (show pos s j'<q by rw[HQ.out];exact zdc s j' (by have:=HJ.out;omega))
    have HJ2:=hid (show j'<(rl s).length by have:=HJ.out;omega)
    go_wp2;go_roundw
    case rel=>exact⟨q,j',rfl,HJ2,HBK2,HD2,HLT2,HB2⟩
    case measure=>simp[intOf];omega
theorem wprev_any (s:List UInt8) (z:Int) (w:World) (ht:TbW w) (hl:s.length<=1000000000):
  Calls Tryz.prog 20 #[.string ⟨s.toArray⟩,.int .i64 z] w fun e w'=>e= .returned (.int .i64 (Br.blw z 0 (wbd s):Nat))/\Below w.heap.size w w':=by
 by_cases h1:(s.length:Int)<z
 ·have HN:=hid (show Br.blw z 0 (wbd s)=s.length from(zbC s).blw_high h1 _)
  rw[HN.out];clear HN ht;go_enter Tryz.func20,Tryz.ntmps20;go_wp2;go_ret;exact⟨rfl,Below.refl _ _⟩
 by_cases h0:z<=0
 ·have HN:=hid (show Br.blw z 0 (wbd s)=0 from(zbC s).blw_low (by omega) _)
  have HT:=hid ht;rw[HN.out];have HBK:=hid (show backE s z=0 by unfold backE;rw[if_pos (by omega)])
  clear HN ht;go_enter Tryz.func20,Tryz.ntmps20;go_wp2;go_loopw [1] (fun fr wr=>fr= .int .i64 z/\wr=w) (fun _ _=>0)
  case atStart=>exact⟨rfl,rfl⟩
  case round=>
   obtain⟨rfl,rfl⟩:=hrel;go_wp2_with fail;refine(back_any s z wr (by omega) HT.out.tabs HT.out.two).mono ?_
   rintro e w1 ⟨rfl,be⟩;rw[HBK.out];have HB1:=hid be;clear be;go_wp2;go_ret;exact⟨rfl,HB1.out⟩
 obtain⟨p,rfl⟩:∃p:Nat,z=p:=⟨z.toNat,by omega⟩
 obtain⟨i,hi,h2,h3⟩:=zfb s (p - 1) (rl s).length (Nat.le_refl _) (by rw[zbi s _ (Nat.le_refl _)];omega)
 have h4:=zbM s (Sg.dn_le (wC s) i) (Nat.le_of_lt hi);have h5:=zbM s (i:=i+1) (Sg.nx_gt (wC s) (rl s).length i) (Sg.nx_le hi);have e:Br.blw (p:Int) 0 (wbd s)=pos s (Sg.dn (wC s) i):=(zbC s).blw_in (wp_mem s i hi) (by omega) (by omega) _
 rw[e];exact wprev_p s p i w ht hl (by omega) hi (by omega) (by omega)
theorem wis_any2 (s:List UInt8) (z:Int) (w:World) (ht:TbW w) (hl:s.length<=1000000000):
  Calls Tryz.prog 16 #[.string ⟨s.toArray⟩,.int .i64 z] w fun e w'=>e= .returned (.bool (!s.isEmpty&&(wbd s).any fun x=>(x:Int)==z))/\Below w.heap.size w w':=by
 have HT:=hid ht;clear ht
 by_cases hne:s=[]
 ·subst hne
  clear HT
  by_cases h0:z<=0
  ·go_enter Tryz.func16,Tryz.ntmps16
   go_wp2;go_ret;exact⟨rfl,Below.refl _ _⟩
  ·have h1:(0:Int)<=z:=by omega
   go_enter Tryz.func16,Tryz.ntmps16;go_wp2;go_ret;exact⟨rfl,Below.refl _ _⟩
 have he:s.isEmpty=false:=by simpa using hne
 have h9:0<s.length:=List.length_pos_iff.2 hne;rw[he,Bool.not_false,Bool.true_and];have HNE:=hid hne;clear hne
 by_cases h0:z<0
 ·have HN:=hid (show((wbd s).any fun x=>(x:Int)==z)=false by unfold wbd;rw[(zbC s).is_out (.inl (by omega))];simp;omega)
  rw[HN.out];have e0:(z==0)=false:=by simp;omega
  have e1:(z==(s.length:Int))=false:=by simp;omega
  have hz0:z<=0:=by omega
  clear HN HT;go_enter Tryz.func16,Tryz.ntmps16;go_wp2;go_ret;exact⟨rfl,Below.refl _ _⟩
 by_cases h1:(s.length:Int)<=z
 ·have HN:=hid (show((wbd s).any fun x=>(x:Int)==z)=decide ((s.length:Int)=z) from(zbC s).is_out (.inr h1))
  rw[HN.out];have e0:(z==0)=false:=by simp;omega
  have hz0:¬z<=0:=by omega
  clear HN HT h0
  by_cases hz:z=(s.length:Int)
  ·subst hz
   go_enter Tryz.func16,Tryz.ntmps16;go_wp2;go_ret;exact⟨by simp,Below.refl _ _⟩
  ·have e1:(z==(s.length:Int))=false:=by simpa using hz
   have e2:decide ((s.length:Int)=z)=false:=decide_eq_false (fun h=>hz h.symm)
   rw[e2];clear e2;go_enter Tryz.func16,Tryz.ntmps16;go_wp2;go_ret;exact⟨rfl,Below.refl _ _⟩
 obtain⟨p,rfl⟩:∃p:Nat,z=p:=⟨z.toNat,by omega⟩
 obtain⟨i,hi,h2,h3⟩:=zfb s p (rl s).length (Nat.le_refl _) (by rw[zbi s _ (Nat.le_refl _)];omega)
 have h4:=zbM s (Sg.dn_le (wC s) i) (Nat.le_of_lt hi);have h5:=zbM s (i:=i+1) (Sg.nx_gt (wC s) (rl s).length i) (Sg.nx_le hi);have HN:=hid (show((wbd s).any fun x=>(x:Int)==(p:Int))=decide ((pos s (Sg.dn (wC s) i):Int)=p) from(zbC s).is_in (wp_mem s i hi) (by omega) (by omega))
 rw[HN.out];clear HN h4 h5
 by_cases hp0:p=0
 ·subst hp0
  have HE:=hid (show decide ((pos s (Sg.dn (wC s) i):Int)=((0:Nat):Int))=true by
   have hi0:i=0:=by
    rcases Nat.eq_zero_or_pos i with h | h
    ·exact h
    ·have h6:=zbm s i 0 (by omega)
     rw[Nat.zero_add] at h6;omega
   rw[hi0]
   rfl)
  rw[HE.out];clear HE HT h2 h3 h0 h1;go_enter Tryz.func16,Tryz.ntmps16;go_wp2;go_ret;exact⟨rfl,Below.refl _ _⟩
 have hz0:¬(p:Int)<=0:=by omega
 have HI:=hid (isE_in s i p hi h2 h3 (by omega))
 clear h0
 by_cases hpe:pos s i=p
 ·have HE:=hid (show wcut s p=decide ((pos s (Sg.dn (wC s) i):Int)=p) by
   obtain⟨i',rfl⟩:∃i',i=i'+1:=⟨i - 1,by
    rcases Nat.eq_zero_or_pos i with h | h
    ·rw[h,pos_0] at hpe;omega
    ·omega⟩
   unfold Sg.dn
   cases hc:wC s (i'+1) with
   | true=>
    rw[if_pos rfl,hpe,decide_eq_true rfl,<- hpe];exact hc
   | false=>
    have h6:=zbM s (Sg.dn_le (wC s) i') (by omega)
    have h7:=zdc s i' (by omega)
    rw[if_neg (by simp),decide_eq_false (by omega),<- hpe]
    exact hc)
  have HI2:=hid (show isE s (p:Int)=true by rw[HI.out,hpe];simp)
  rw[<- HE.out];clear HI HE h2 h3 hpe;go_enter Tryz.func16,Tryz.ntmps16;go_wp2_with fail;refine(is_any s (p:Int) w (by omega) HT.out.tabs HT.out.two).mono ?_
  rintro e w1 ⟨rfl,be⟩;rw[HI2.out];have HB1:=hid be;clear be;go_wp2_with fail;refine(zeh s p w1 (HT.out.below HB1.out) hl (by omega)).mono ?_
  rintro e w2 ⟨rfl,be⟩;have HB2:=hid (HB1.out.trans (be.mono HB1.out.size));obtain⟨v,hv⟩:∃v,v=wcut s p:=⟨_,rfl⟩;have HVV:=hid hv;rw[<- hv];clear be hv
  cases v<;>(go_wp2;go_ret;exact⟨by rw[<- HVV.out];rfl,HB2.out⟩)
 ·have HE:=hid (show decide ((pos s (Sg.dn (wC s) i):Int)=p)=false from decide_eq_false (by
   have h6:=zbM s (Sg.dn_le (wC s) i) (Nat.le_of_lt hi);omega))
  have HI2:=hid (show isE s (p:Int)=false by rw[HI.out];simpa using hpe)
  rw[HE.out];clear HI HE h2 h3 hpe;go_enter Tryz.func16,Tryz.ntmps16;go_wp2_with fail;refine(is_any s (p:Int) w (by omega) HT.out.tabs HT.out.two).mono ?_
  rintro e w1 ⟨rfl,be⟩;rw[HI2.out];have HB1:=hid be;clear be;go_wp2;go_ret;exact⟨rfl,HB1.out⟩
end Wd
namespace Wd
open Go.RowKit Wt
theorem waro_any (s:List UInt8) (z:Int) (w:World) (ht:TbW w) (hl:s.length<=1000000000):
  Calls Tryz.prog 14 #[.string ⟨s.toArray⟩,.int .i64 z] w fun e w'=>e= .returned (.tuple #[.int .i64 ((Br.arn z (wbd s)).1:Nat),.int .i64 ((Br.arn z (wbd s)).2:Nat)])/\Below w.heap.size w w':=by
 by_cases h0:z<0
 ·rw[show Br.arn z (wbd s)=(0,0) from(zbC s).arn_out (.inl (by omega))]
  clear ht;go_enter Tryz.func14,Tryz.ntmps14;go_wp2;go_ret2;exact⟨rfl,Below.refl _ _⟩
 by_cases h1:(s.length:Int)<=z
 ·rw[show Br.arn z (wbd s)=(0,0) from(zbC s).arn_out (.inr h1)]
  clear ht;go_enter Tryz.func14,Tryz.ntmps14;go_wp2;go_ret2;exact⟨rfl,Below.refl _ _⟩
 obtain⟨p,rfl⟩:∃p:Nat,z=p:=⟨z.toNat,by omega⟩
 obtain⟨i,hi,h2,h3⟩:=zfb s p (rl s).length (Nat.le_refl _) (by rw[zbi s _ (Nat.le_refl _)];omega)
 have h4:=zbM s (Sg.dn_le (wC s) i) (Nat.le_of_lt hi);have h5:=zbM s (i:=i+1) (Sg.nx_gt (wC s) (rl s).length i) (Sg.nx_le hi);have hm:=wp_mem s i hi;have HP:=hid (fun(W:World) (h:TbW W)=>wprev_any s ((p:Int)+1) W h hl)
 have HX:=hid (fun(W:World) (h:TbW W)=>wnext_z s (p:Int) W h hl)
 rw[show Br.blw ((p:Int)+1) 0 (wbd s)=pos s (Sg.dn (wC s) i) from(zbC s).blw_in hm (by omega) (by omega) _] at HP
 rw[show Br.abv (p:Int) s.length (wbd s)=pos s (Sg.nx (wC s) (rl s).length i) from(zbC s).abv_in hm (by omega) (by omega) _] at HX
 rw[show Br.arn (p:Int) (wbd s)=(pos s (Sg.dn (wC s) i),pos s (Sg.nx (wC s) (rl s).length i)) from(zbC s).arn_in hm (by omega) (by omega)]
 obtain⟨f,hf⟩:∃f,f=pos s (Sg.dn (wC s) i):=⟨_,rfl⟩;obtain⟨t,htt⟩:∃t,t=pos s (Sg.nx (wC s) (rl s).length i):=⟨_,rfl⟩;rw[<- hf] at HP⊢;rw[<- htt] at HX⊢;have HT:=hid ht;have wz:IntKind.i64.wrap ((p:Int)+1)=(p:Int)+1:=by unfold IntKind.wrap IntKind.bits IntKind.signed;simp;omega
 clear ht hm h4 h5 h2 h3 hf htt;go_enter Tryz.func14,Tryz.ntmps14;go_wp2_with fail;refine(HP.out w HT.out).mono ?_;rintro e w1 ⟨rfl,be⟩;have HB1:=hid be;clear be;go_wp2_with fail;refine(HX.out w1 (HT.out.below HB1.out)).mono ?_;rintro e w2 ⟨rfl,be⟩;have HB2:=hid (HB1.out.trans (be.mono HB1.out.size));clear be;go_wp2;go_ret2;exact⟨rfl,HB2.out⟩
end Wd
end Go.Proofs.YtokpjifnlifafaaGreatDoor
