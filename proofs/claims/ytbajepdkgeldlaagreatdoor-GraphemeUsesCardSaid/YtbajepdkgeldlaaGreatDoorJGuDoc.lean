/- GuDoc: parts of the proof, joined. -/
import Derived.Test.YtbajepdkgeldlaaGreatDoorJGrTurn
import Derived.Test.YtbajepdkgeldlaaGreatDoorJGmDoc
namespace Go.Proofs.YtbajepdkgeldlaaGreatDoor.Br
open Go.RowKit Wt
def plE (D : List Nat) (n : Int) (e : Nat) : Nat := if n < 0 then 0 else D.getD n.toNat e
set_option maxRecDepth 100000 in
theorem rplace_any (ao : Option Addr) (n ac : Nat) (D : List Nat) (z : Int) (d : Nat) (w : World) (ha : Pt.RdI w ao (D.map fun (x : Nat) => (x : Int))) (hn : n = D.length) :
  Calls Tryz.prog 28 #[.slice ao n ac, .int .i64 z, .int .i64 d] w fun e w' => e = .returned (.int .i64 (plE D z d : Nat)) /\ w' = w := by
 by_cases h0 : z < 0
 ·have HN := hid (show plE D z d = 0 from if_pos h0)
  rw [HN.out]
  clear ha hn HN
  go_enter Tryz.func28, Tryz.ntmps28
  go_wp2
  go_ret
  exact ⟨rfl, rfl⟩
 by_cases h1 : (n : Int) <= z
 ·have HN := hid (show plE D z d = d by unfold plE; rw [if_neg h0, List.getD_eq_getElem?_getD, List.getElem?_eq_none (by omega)]; rfl)
  rw [HN.out]
  clear ha hn HN
  go_enter Tryz.func28, Tryz.ntmps28
  go_wp2
  go_ret
  exact ⟨rfl, rfl⟩
 obtain ⟨i, rfl⟩ : ∃ i : Nat, z = i := ⟨z.toNat, by omega⟩
 have hil : i < D.length := by omega
 obtain ⟨a, rfl, c1⟩ := rdi_nat ha hil
 have HN := hid (show plE D i d = D[i] by unfold plE; rw [if_neg h0, Int.toNat_natCast, List.getD_eq_getElem?_getD, List.getElem?_eq_getElem hil]; rfl)
 obtain ⟨x, hx⟩ : ∃ x, x = D[i] := ⟨_, rfl⟩
 rw [<- hx] at c1 HN
 rw [HN.out]
 have i0 : (0 : Int) <= (i : Int) := by omega
 have i1 : (i : Int) < (n : Int) := by omega
 clear ha hn HN hx hil
 go_enter Tryz.func28, Tryz.ntmps28
 go_wp2
 go_ret
 exact ⟨rfl, rfl⟩
theorem bds_at {p e : Nat} {P : List (Nat × Nat)} (h : Chn p e P) : ∀ (k : Nat) (x : Nat × Nat), P[k]? = some x -> (bds p P)[k]? = some x.1 /\ (bds p P)[k + 1]? = some x.2 := by
 induction h with
 | nil => intro k x hk; simp at hk
 | @cons p t e P k1 k2 ih =>
  intro k x hk
  rw [bds_cons]
  cases k with
  | zero => cases hk; exact ⟨rfl, rfl⟩
  | succ k =>
   rw [List.getElem?_cons_succ] at hk
   obtain ⟨h1, h2⟩ := ih k x hk
   exact ⟨by rw [List.getElem?_cons_succ]; exact h1, by rw [List.getElem?_cons_succ]; exact h2⟩
theorem bds_len (p : Nat) (P : List (Nat × Nat)) : (bds p P).length = P.length + 1 := by simp [bds]
theorem ext_piece2 (l : List UInt8) (f t : Nat) (h : f <= t) : (⟨l.toArray⟩ : ByteArray).extract f t = ⟨((l.take t).drop f).toArray⟩ := by
 apply ByteArray.ext
 simp [ByteArray.data_extract, List.take_drop]
 rw [show f + (t - f) = t by omega]
set_option maxHeartbeats 2000000 in
set_option maxRecDepth 100000 in
theorem rturn_any (l : List UInt8) (hl : l.length <= 1000) (ao : Option Addr) (n ac : Nat) (w : World) (ha : Pt.RdI w ao ((gbs l).map fun (x : Nat) => (x : Int))) (hn : n = (gbs l).length) (h0 : n = 0 \/ ∃ g, ao = some ⟨g, 0, none⟩) :
  Calls Tryz.prog 33 #[.slice ao n ac, .string ⟨l.toArray⟩] w fun e w' => e = .returned (.string ⟨(trn l).toArray⟩) /\ Below w.heap.size w w' := by
 by_cases hne : l = []
 ·subst hne
  obtain rfl : n = 0 := hn
  clear ha h0
  go_enter Tryz.func33, Tryz.ntmps33
  go_wp2
  go_loopw [5, 6] (fun v y wr => v = .string ⟨#[]⟩ /\ y = .int .i64 (-1) /\ wr = w) (fun _ _ _ => 0)
  case atStart => exact ⟨rfl, rfl, rfl⟩
  case round =>
   obtain ⟨rfl, rfl, rfl⟩ := hrel
   go_wp2
   go_ret
   exact ⟨rfl, Below.refl _ _⟩
 have e : gbs l = gbd l := if_neg hne
 rw [e] at ha hn
 have hc := gp_ch0 l
 obtain ⟨g, rfl⟩ : ∃ g, ao = some ⟨g, 0, none⟩ := by
  rcases h0 with h | h
  ·rw [gbd_cnt] at hn; omega
  ·exact h
 have HP := hid (bds_at hc)
 have HM := hid (fun (f t : Nat) (h : (f, t) ∈ gpF l 0) => hc.mem h)
 have HTr := hid (show trP l (gpF l 0).reverse = trn l from rfl)
 unfold gbd at ha hn
 rw [bds_len] at hn
 obtain ⟨P, hP⟩ : ∃ P, P = gpF l 0 := ⟨_, rfl⟩
 rw [<- hP] at ha hn HP HM HTr
 have hP9 : P.length <= 1000 := by
  have := gcnt_le l
  have h2 := gbd_cnt l
  unfold gbd at h2
  rw [bds_len, <- hP] at h2
  omega
 have HA := hid ha
 obtain ⟨m, hm⟩ : ∃ m, m = P.length := ⟨_, rfl⟩
 rw [<- hm] at hn hP9
 have HMm := hid hm
 subst hn
 clear ha hne e hc h0 hP hm
 have e1 : IntKind.i64.wrap (((m + 1 : Nat) : Int) - 1) = (m : Int) := by unfold IntKind.wrap IntKind.bits IntKind.signed; simp; omega
 go_enter Tryz.func33, Tryz.ntmps33
 go_wp2
 go_loopw [5, 6] (fun v y wr => ∃ i : Nat, v = .string ⟨(trP l (P.drop i).reverse).toArray⟩ /\ y = .int .i64 i /\ i <= m /\ Hid (Below w.heap.size w wr)) (fun _ y _ => (intOf y).toNat)
 case atStart => exact ⟨m, by rw [List.drop_of_length_le (by rw [<- HMm.out]; exact Nat.le_refl _)]; rfl, rfl, Nat.le_refl _, hid (Below.refl _ _)⟩
 case round =>
  obtain ⟨i, rfl, rfl, hi, HB⟩ := hrel
  by_cases hlt : 0 < i
  ·have i0 : (0 : Int) < (i : Int) := by omega
   have i1 : (0 : Int) <= (i : Int) := by omega
   have i2 : (0 : Int) <= (i : Int) - 1 := by omega
   have i3 : (i : Int) - 1 < ((m + 1 : Nat) : Int) := by omega
   have i4 : (i : Int) < ((m + 1 : Nat) : Int) := by omega
   have i5 : ((i : Int) - 1).toNat = i - 1 := by omega
   have i6 : IntKind.i64.wrap ((i : Int) - 1) = (i : Int) - 1 := by unfold IntKind.wrap IntKind.bits IntKind.signed; simp; omega
   have i7 : (1 : Int) <= (i : Int) := by omega
   have i8 : (i : Int) - 1 < (m : Int) + 1 := by omega
   have i9 : (i : Int) < (m : Int) + 1 := by omega
   have hil : i - 1 < P.length := by have := HMm.out; omega
   obtain ⟨f, t, hft⟩ : ∃ f t, P[i - 1] = (f, t) := ⟨_, _, rfl⟩
   have hk : P[i - 1]? = some (f, t) := by rw [List.getElem?_eq_getElem hil, hft]
   obtain ⟨q1, q2⟩ := HP.out (i - 1) (f, t) hk
   rw [Nat.sub_add_cancel hlt] at q2
   obtain ⟨a1, ha1, _, c1⟩ := (HA.out.below HB.out) (i - 1) (f : Int) (by rw [List.getElem?_map, q1]; rfl)
   obtain ⟨a2, ha2, _, c2⟩ := (HA.out.below HB.out) i (t : Int) (by rw [List.getElem?_map, q2]; rfl)
   cases ha1
   cases ha2
   rw [Addr.add_lit, Nat.zero_add] at c1 c2
   obtain ⟨_, r2, r3⟩ := HM.out f t (hft ▸ List.getElem_mem hil)
   have f0 : (0 : Int) <= (f : Int) := by omega
   have f1 : (f : Int) <= (t : Int) := by omega
   have f2 : (t : Int) <= (l.length : Int) := by omega
   have HS := hid (show trP l (P.drop (i - 1)).reverse = trP l (P.drop i).reverse ++ (l.take t).drop f by
    rw [List.drop_eq_getElem_cons hil, hft, List.reverse_cons, trP_snoc, Nat.sub_add_cancel hlt])
   have HX := hid (ext_piece2 l f t (by omega))
   have hT9 : ¬ 9223372036854775807 < (trP l (P.drop i).reverse).length + (t - f) := by
    have q1 := trP_len l hl (P.drop i).reverse
    rw [List.length_reverse, List.length_drop] at q1
    have := HMm.out
    omega
   obtain ⟨T, hT⟩ : ∃ T, T = trP l (P.drop i).reverse := ⟨_, rfl⟩
   rw [<- hT] at HS hT9 ⊢
   clear hk q1 q2 hft hT
   go_wp2_with fail
   refine wp_region_mix [(0, true), (1, true), (2, true), (3, true), (4, true), (5, true), (6, true), (7, true), (8, true), (9, true), (10, true), (11, true), (12, true), (13, false)] (fun W => W.cell? ⟨g, i - 1, none⟩ = some (.int .i64 (f : Nat)) /\ W.cell? ⟨g, i, none⟩ = some (.int .i64 (t : Nat))) (fun _ => false) (by kernel_rfl) (by kernel_rfl) (fun j hj => by cases hj) rfl (by kernel_rfl) ⟨c1, c2⟩ ?_
   iterate 13 (refine mix_free ?_ rfl (by kernel_rfl) (fun w' hS => ?_) ?_; (rotate_left; (obtain ⟨s1, s2⟩ := hS; go_simp; with_reducible rfl); rotate_left))
   refine mix_go rfl (by kernel_rfl) fun KK hKK => ?_
   go_simp
   refine hKK _ _ (fun _ => ⟨c1, c2⟩) ?_
   clear hKK
   refine mix_end (NoPanic.normal ?_)
   rw [HX.out]
   have HV := hid (show (⟨T.toArray⟩ ++ ⟨((l.take t).drop f).toArray⟩ : ByteArray) = ⟨(trP l (P.drop (i - 1)).reverse).toArray⟩ by
    rw [HS.out]
    apply ByteArray.ext
    simp)
   rw [HV.out]
   go_wp2
   go_roundw
   case rel => exact ⟨i - 1, rfl, by go_num, by omega, hid ⟨HB.out.os, HB.out.tape, HB.out.output, HB.out.size, HB.out.block⟩⟩
   case measure => simp [intOf]; omega
  ·have i0 : i = 0 := by omega
   subst i0
   rw [List.drop_zero, HTr.out]
   go_wp2
   go_ret
   exact ⟨rfl, HB.out⟩
end Go.Proofs.YtbajepdkgeldlaaGreatDoor.Br
