/- The contracts of spans and Kind (package sentence) at edges. -/
import Derived.Test.YtckifhlhechdlaaDoorSnNext
import Derived.Test.YtckifhlhechdlaaDoorSnMath
namespace Go.Proofs.YtckifhlhechdlaaDoor
open Go.RowKit

theorem ext_mid (l : List UInt8) (f t : Nat) : (⟨l.toArray⟩ : ByteArray).extract f t = ⟨((l.take t).drop f).toArray⟩ := by
  apply ByteArray.ext
  simp [ByteArray.data_extract, List.drop_take]
theorem pos_take (s : List UInt8) (i j : Nat) (hij : i ≤ j) (hj : j ≤ (rl s).length) : pos (s.take (pos s j)) i = pos s i := by
  unfold pos
  rw [show rl (s.take (psm ((rl s).take j))) = (rl s).take j from rl_take s j hj, List.take_take, Nat.min_eq_left hij]
theorem bk_piece (s : List UInt8) (i j : Nat) (hij : i ≤ j) (hj : j ≤ (rl s).length) : bk ((s.take (pos s j)).drop (pos s i)) = (((fw s).take j).drop i).reverse := by
  have h := rl_take s j hj
  have hi : i ≤ (rl (s.take (pos s j))).length := by rw [h, List.length_take]; omega
  rw [bk_fw, ← pos_take s i j hij hj, fw_drop _ i hi]
  congr 2
  unfold fw
  rw [h, List.map_take]
set_option maxHeartbeats 1000000 in
theorem sspans_any (s : List UInt8) (i j : Nat) (w : World) (ht : TbW w) (hl : s.length ≤ 1000000000) (hij : i ≤ j) (hj : j ≤ (rl s).length) :
    Calls Tryd.prog 33 #[.string ⟨s.toArray⟩, .int .i64 (pos s i), .int .i64 (pos s j)] w fun e w' => e = .returned (.bool true) ∧ Below w.heap.size w w' := by
  have hp := pos_mono s (j - i) i (by omega)
  rw [show i + (j - i) = j by omega] at hp
  have hp2 : pos s i ≤ pos s j := by omega
  have H1 := hid (isE_pos s i (Nat.le_trans hij hj))
  have H2 := hid (isE_pos s j hj)
  have HT := hid ht
  obtain ⟨f, hf⟩ : ∃ f, f = pos s i := ⟨_, rfl⟩
  obtain ⟨t, hte⟩ : ∃ t, t = pos s j := ⟨_, rfl⟩
  rw [← hf] at H1 hp2 ⊢
  rw [← hte] at H2 hp2 ⊢
  have hp3 : (f : Int) ≤ (t : Int) := by omega
  clear ht hf hte hp hij hj
  go_enter Tryd.func33, Tryd.ntmps33
  go_wp2_with fail
  refine (is_any s f w (by omega) HT.out.tabs HT.out.two).mono ?_
  rintro e w1 ⟨rfl, be⟩
  rw [H1.out]
  have HB1 := hid be
  have HT1 := hid (HT.out.below be)
  clear be
  go_wp2_with fail
  refine (is_any s t w1 (by omega) HT1.out.tabs HT1.out.two).mono ?_
  rintro e w2 ⟨rfl, be⟩
  rw [H2.out]
  have HB2 := hid (HB1.out.trans (be.mono HB1.out.size))
  clear be
  go_wp2
  go_ret
  exact ⟨rfl, HB2.out⟩
set_option maxHeartbeats 1000000 in
theorem skind_any (s : List UInt8) (i j : Nat) (w : World) (ht : TbW w) (hl : s.length ≤ 1000000000) (hij : i ≤ j) (hj : j ≤ (rl s).length) :
    Calls Tryd.prog 11 #[.string ⟨s.toArray⟩, .int .i64 (pos s i), .int .i64 (pos s j)] w fun e w' => e = .returned (.int .i64 (kndR (((fw s).take j).drop i).reverse)) ∧ Below w.heap.size w w' := by
  have hp := pos_mono s (j - i) i (by omega)
  rw [show i + (j - i) = j by omega] at hp
  have hp2 : pos s i ≤ pos s j := by omega
  have hp4 := pos_le s j hj
  have HS := hid (fun w ht => sspans_any s i j w ht hl hij hj)
  obtain ⟨l, hll⟩ : ∃ l, l = (s.take (pos s j)).drop (pos s i) := ⟨_, rfl⟩
  have HL := hid hll
  have hln : l.length ≤ 1000000000 := by rw [hll, List.length_drop, List.length_take]; omega
  have HLE := hid (swth_le 10270 _ l (Nat.le_refl _))
  have HV := hid (show kndR (((fw s).take j).drop i).reverse = if slast (swth 10270 l) == 9 then 1 else if slast (swth 10270 l) == 10 then 2 else 0 by
    unfold kndR
    rw [← bk_piece s i j hij hj, ← hll, ← swth_bk 10270 _ l (Nat.le_refl _), ← slast_hd])
  have HT := hid ht
  obtain ⟨f, hf⟩ : ∃ f, f = pos s i := ⟨_, rfl⟩
  obtain ⟨t, hte⟩ : ∃ t, t = pos s j := ⟨_, rfl⟩
  rw [← hf] at hp2 HS HL ⊢
  rw [← hte] at hp2 hp4 HS HL ⊢
  have hp3 : (f : Int) ≤ (t : Int) := by omega
  clear ht hf hte hp hij hj hll
  go_enter Tryd.func11, Tryd.ntmps11
  go_wp2_with fail
  refine (HS.out w HT.out).mono ?_
  rintro e w1 ⟨rfl, be⟩
  have HB1 := hid be
  clear be
  go_wp2_with fail
  rw [ext_mid, ← HL.out]
  refine (swth_any 10270 l w1 (HT.out.below HB1.out) hln).mono ?_
  rintro e w2 ⟨rfl, be⟩
  have HB2 := hid (HB1.out.trans (be.mono HB1.out.size))
  clear be
  go_wp2_with fail
  refine (slast_any (swth 10270 l) w2 (HT.out.below HB2.out) (by have := HLE.out; omega)).mono ?_
  rintro e w3 ⟨rfl, be⟩
  have HB3 := hid (HB2.out.trans (be.mono HB2.out.size))
  obtain ⟨c, hc⟩ : ∃ c, c = slast (swth 10270 l) := ⟨_, rfl⟩
  obtain ⟨m, hm⟩ : ∃ m : Nat, m = (decLast (swth 10270 l)).2 := ⟨_, rfl⟩
  rw [← hc] at HV
  rw [← hc, ← hm]
  clear hc hm be
  by_cases h9 : c = 9
  · subst h9
    go_wp2
    go_ret
    exact ⟨by rw [HV.out]; rfl, HB3.out⟩
  have b9 : (c == 9) = false := beq_eq_false_iff_ne.2 h9
  by_cases h10 : c = 10
  · subst h10
    go_wp2
    go_ret
    exact ⟨by rw [HV.out]; rfl, HB3.out⟩
  have b10 : (c == 10) = false := beq_eq_false_iff_ne.2 h10
  have HV2 := hid (show kndR (((fw s).take j).drop i).reverse = 0 by rw [HV.out, b9, b10]; rfl)
  clear HV
  go_wp2
  go_ret
  exact ⟨by rw [HV2.out]; rfl, HB3.out⟩
end Go.Proofs.YtckifhlhechdlaaDoor
