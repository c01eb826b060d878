/- The contract of the document's Count (package kerfref02). -/
import Derived.Test.YtohhokjlgihbgaaGreatDoorCCntMath
import Derived.Test.YtohhokjlgihbgaaGreatDoorCPut
import Derived.Test.YtohhokjlgihbgaaGreatDoorCNot
namespace Go.Proofs.YtohhokjlgihbgaaGreatDoor
open Go.RowKit

set_option maxRecDepth 100000 in
set_option maxHeartbeats 3000000 in
theorem rcount_any (ao : Option Addr) (ac : Nat) (l : List Rg) (w : World) (ha : RdR w ao l) (hl : l.length ≤ 100000) :
    Calls Tryz.prog 22 #[.slice ao l.length ac] w fun e w' => e = .returned (.int .i64 (cntF (nrm l))) ∧ Below w.heap.size w w' := by
  have HSO := hid (rnorm_any ao ac l w ha hl)
  clear ha
  go_enter Tryz.func22, Tryz.ntmps22
  go_wp2_with fail
  refine HSO.out.mono ?_
  rintro e Wr ⟨v, rfl, o1, hB⟩
  obtain ⟨so, sc, rfl, hrd⟩ := rdr_row o1
  have hsl := nrm_len l
  have HNF := hid (nrm_nf l)
  obtain ⟨s, hs⟩ : ∃ s, nrm l = s := ⟨_, rfl⟩
  have HNL := hid hs
  rw [hs] at HNF hrd hsl ⊢
  have HRD := hid hrd
  have HB0 := hid hB
  have hws := hB.size
  have hs5 : s.length ≤ 100000 := by omega
  clear hrd hB HSO hsl o1 hs
  go_wp2
  go_loopw [4, 5] (fun x n wq => ∃ k : Nat, k ≤ s.length ∧ n = .int .i64 k ∧ x = .int .i64 (cntF (s.take k)) ∧ Hid (Below Wr.heap.size Wr wq)) (fun _ n _ => s.length - (intOf n).toNat)
  case atStart => exact ⟨0, by omega, rfl, rfl, Below.refl _ _⟩
  case round =>
    obtain ⟨k, hk, rfl, rfl, HB⟩ := hrel
    have hbs := HB.out.size
    by_cases hlt : k < s.length
    · obtain ⟨gs, rfl, hgs, y0, y1⟩ := HRD.out k s[k] (List.getElem?_eq_getElem hlt)
      obtain ⟨b1, b2, b3⟩ := nf_at HNF.out (List.getElem?_eq_getElem hlt)
      unfold top at b3
      replace y0 := (HB.out.cell (p := gs.add (k * 2)) (by rw [add_blk]; exact hgs)).trans y0
      replace y1 := (HB.out.cell (p := ⟨(gs.add (k * 2)).block, (gs.add (k * 2)).off + 1, none⟩) (show (gs.add (k * 2)).block < _ by rw [add_blk]; exact hgs)).trans y1
      have i3 : (k : Int) < (s.length : Int) := by omega
      have hgw : gs.block < wr.heap.size := by omega
      have HCT := hid (cnt_take hlt)
      have bd := cnt_take_bd HNF.out k
      generalize s[k].1 = f0 at *
      generalize s[k].2 = f1 at *
      obtain ⟨c, hc⟩ : ∃ c, c = cntF (s.take k) := ⟨_, rfl⟩
      rw [← hc] at HCT bd ⊢
      clear hc
      have e1 : IntKind.i32.wrap (f1 - f0) = f1 - f0 := by rw [IntKind.wrap_i32]; omega
      have e2 : IntKind.i64.wrap (f1 - f0) = f1 - f0 := by rw [IntKind.wrap_i64]; omega
      have e3 : IntKind.i64.wrap (c + (f1 - f0)) = c + (f1 - f0) := by rw [IntKind.wrap_i64]; omega
      have e4 : IntKind.i64.wrap (c + (f1 - f0) + 1) = c + (f1 - f0) + 1 := by rw [IntKind.wrap_i64]; omega
      go_wp2_with fail
      go_quiet (fail)
      go_wp2
      go_roundw
      case rel => exact ⟨k + 1, by omega, by go_num, by rw [HCT.out, Int.add_assoc c], below_drewN HB.out _⟩
      case measure => simp [intOf]; omega
    · have HZ := hid (show s.take k = s from List.take_of_length_le (by omega))
      go_wp2
      go_ret
      exact ⟨by rw [HZ.out, HNL.out]; rfl, HB0.out.trans (HB.out.mono HB0.out.size)⟩

end Go.Proofs.YtohhokjlgihbgaaGreatDoor
