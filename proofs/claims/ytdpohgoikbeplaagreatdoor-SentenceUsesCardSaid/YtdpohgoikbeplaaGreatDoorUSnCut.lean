/- SnCut: parts of the proof, joined. -/
import Derived.Test.YtdpohgoikbeplaaGreatDoorUPtSnM
import Derived.Test.YtdpohgoikbeplaaGreatDoorUSnMov
import Derived.Test.YtdpohgoikbeplaaGreatDoorUBr11
import Derived.Test.YtdpohgoikbeplaaGreatDoorUPtSePs
import Derived.Test.YtdpohgoikbeplaaGreatDoorUSnDb
namespace Go.Proofs.YtdpohgoikbeplaaGreatDoor.Sn
open Go.RowKit Wt
theorem flt_bool (A : Nat -> Bool) (n : Nat) : Pt.flt (fun k => A k = true) n = (List.range n).filter A := by
 unfold Pt.flt
 congr 1
 funext k
 cases h : A k <;> simp [h]
theorem fw_cls (l : List UInt8) : Cls (fw l) := fun c hc => by
 unfold fw at hc
 obtain ⟨x, _, rfl⟩ := List.mem_map.1 hc
 exact sn_bd _
theorem sn_ends (l : List UInt8) (h : l ≠ []) : (Pt.flt (fun k => Pt.cutB false Pt.snRs (fw l) k = true) ((fw l).length + 1)).map (pos l) = sbd l := by
 have hne : fw l ≠ [] := fun e => by rw [fw_cons l h] at e; cases e
 rw [flt_bool, fw_len]
 unfold sbd spF
 refine Sg.flt_bds ?_ ?_ (fun k h0 hk => ?_) l
 ·unfold Pt.cutB; rw [if_neg hne, if_pos (.inl rfl)]
 ·unfold Pt.cutB; rw [if_neg hne, if_pos (.inr (fw_len l).symm)]
 ·have hk' : k < (fw l).length := by rw [fw_len]; exact hk
  unfold Pt.cutB
  rw [if_neg hne, if_neg (by omega), Pt.sn_dcd (fw_cls l) h0 hk']
  unfold sC
  exact (scut_at l k (Nat.le_of_lt hk)).symm
theorem rl_max : ∀ (n : Nat) (l : List UInt8), l.length <= n -> ∀ x ∈ rl l, x.1 <= 1114111
 | n, l, hn, x, hx => by
  by_cases hl : l = []
  ·rw [hl, rl_nil] at hx; cases hx
  ·have h1 := dec_ge l hl
   have hp : 0 < l.length := List.length_pos_iff.2 hl
   rw [rl_cons l hl] at hx
   rcases List.mem_cons.1 hx with rfl | hx
   ·exact dec_rune l hl
   ·cases n with
    | zero => omega
    | succ n => exact rl_max n _ (by rw [List.length_drop]; omega) x hx
theorem sn_ok : ∀ r ∈ Pt.snRs, Pt.RlOk r := Pt.okR_sound (by decide +kernel)
theorem sn_dcs (l : List UInt8) : Pt.dcs Dc.snW l = fw l := by
 unfold Pt.dcs Pt.dcl fw
 rw [List.map_map]
 apply List.map_congr_left
 intro x hx
 have h := rl_max _ l (Nat.le_refl _) x hx
 show ((Dc.gtp (Dc.instd (x.1 : Int)) Dc.snW : Nat) : Int) = sncls (x.1 : Int)
 rw [show Dc.instd (x.1 : Int) = (x.1 : Int) by unfold Dc.instd; rw [if_neg (by omega)], Dc.sn_get _ (by omega) (by omega)]
theorem sn_bnd (l : List UInt8) (h : l ≠ []) : Pt.bnd Dc.snW Pt.snRs false l = sbd l := by
 unfold Pt.bnd
 rw [sn_dcs, <- fw_len]
 exact sn_ends l h
set_option maxRecDepth 100000 in
theorem sbounds9 (X : Nat) (l : List UInt8) (hl : l.length <= 80000) (w : World) (h : Br.BrAt Dc.snU Dc.snW Pt.snRs false X w) :
  Calls Tryz.prog 16 #[.pointer (some ⟨X, 0, none⟩), .string ⟨l.toArray⟩] w (Pt.LsQ w (sbs l)) := by
 by_cases hne : l = []
 ·subst hne
  clear h
  go_enter Tryz.func16, Tryz.ntmps16
  go_wp2
  go_ret; exact ⟨none, 0, rfl, World.ownsRow_nil _ _ _ _, Below.refl _ _⟩
 ·have e : sbs l = sbd l := if_neg hne
  rw [e, <- sn_bnd l hne]; exact Pt.rbounds_any Dc.snU Dc.snW Pt.snRs false sn_ok (by decide) Dc.sn_cov Dc.sn_cls (by decide) (by decide) X l hl hne w h
set_option maxRecDepth 100000 in
theorem snP_len : Dc.snP.length <= 12000 := by decide +kernel
theorem snU_nm : Dc.strs Dc.snU = Pt.snNm := by rfl
set_option maxRecDepth 100000 in
theorem new13_any (w : World) : Calls Tryz.prog 40 #[] w fun e w' => Below w.heap.size w w' /\ ∃ X, e = .returned (.pointer (some ⟨X, 0, none⟩)) /\ Br.BrAt Dc.snU Dc.snW Pt.snRs false X w' := by
 have HO := hid (Br.of_any ⟨Dc.snP.toArray⟩ ⟨Pt.snRt.toArray⟩ Dc.snU Dc.snW Pt.snRs false (by decide) (by decide)
  (fun w => Dc.rnew_eq _ Dc.snP w rfl (.inl snP_len) Dc.snU Dc.snS Dc.snW Dc.sn_nw Dc.sn_whl)
  (fun g nc w h => Pt.sn_parse g nc w (by rw [<- snU_nm]; exact h)) w)
 go_enter Tryz.func40, Tryz.ntmps40
 go_wp2_with fail
 refine HO.out.mono ?_
 rintro e w1 ⟨hb, X, rfl, hk⟩
 have HB := hid hb
 have HK := hid hk
 clear hb hk
 go_wp2
 go_ret
 exact ⟨HB.out, X, rfl, HK.out⟩
end Go.Proofs.YtdpohgoikbeplaaGreatDoor.Sn
