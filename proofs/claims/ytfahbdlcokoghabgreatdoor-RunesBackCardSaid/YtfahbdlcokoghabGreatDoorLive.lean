/- The contract of live: it answers true. -/
import Derived.Test.YtfahbdlcokoghabGreatDoorParse
import Derived.Test.YtfahbdlcokoghabGreatDoorKeep
namespace Go.Proofs.YtfahbdlcokoghabGreatDoor
open Go.RowKit

theorem live_nrm : nrm [(99, 104), (97, 98), (5, 3)] = [(97, 104)] := by decide
theorem live_nrm2 : nrm [(97, 104)] = [(97, 104)] := by decide
theorem live_nt : nt [(97, 104)] = [(0, 96), (105, 1114111)] := by decide
theorem live_at : atN [(97, 104)] 7 = some 104 := by decide
theorem live_keep : kps [97, 255, 122] (rst (fun r => hasB r [(97, 104)]) [97, 255, 122] none 0) = [97] := by decide
theorem live_par : par [39, 97, 39, 45, 39, 104, 39, 32, 85, 43, 48, 48, 52, 49] = ([(65, 65), (97, 104)], 0, 0) := by decide
theorem live_par2 : par [39, 255, 39] = ([], 23, 1) := by decide

theorem add0 (g k : Nat) : (⟨g, 0, none⟩ : Addr).add k = ⟨g, k, none⟩ := by unfold Addr.add; split <;> simp_all
theorem rdr_row2 {w : World} {B : Nat} {v : Value} {l : List Rg} (h : w.ownsRow B 33 2 v l.length (rgcs l)) (h0 : 0 < l.length) : ∃ g cap, v = .slice (some ⟨g, 0, none⟩) l.length cap ∧ g < w.heap.size ∧ RdR w (some ⟨g, 0, none⟩) l := by
  obtain ⟨ao, cap, e, hg, _⟩ := row_reads h
  obtain ⟨g, rfl, _, hg2⟩ := hg h0
  obtain ⟨so, sc, e2, hr⟩ := rdr_row h
  rw [e] at e2
  injection e2 with e3 _ _
  subst e3
  exact ⟨g, cap, e, hg2, hr⟩
theorem rdr_cells {w : World} {g k : Nat} {l : List Rg} {x : Rg} (h : RdR w (some ⟨g, 0, none⟩) l) (hk : l[k]? = some x) : w.cell? ⟨g, k * 2, none⟩ = some (.int .i32 x.1) ∧ w.cell? ⟨g, k * 2 + 1, none⟩ = some (.int .i32 x.2) := by
  obtain ⟨a, e, _, h1, h2⟩ := h k x hk
  injection e with e
  subst e
  rw [add0] at h1 h2
  exact ⟨h1, h2⟩

theorem num_any (n : Int) (w : World) : Calls Tryz.prog 9 #[.int .i64 n] w fun e w' => e = .returned (.int .i64 n) ∧ w' = w := by
  go_enter Tryz.func9, Tryz.ntmps9
  go_wp2
  go_ret
  exact ⟨rfl, rfl⟩

set_option maxHeartbeats 1000000 in
theorem live_any (w : World) (hT : Lib.Utf8Tabs 3 4 w) (h2 : 5 ≤ w.heap.size) :
    Calls Tryz.prog 4 #[] w fun e w' => e = .returned (.bool true) ∧ Below w.heap.size w w' := by
  have HT := hid hT
  clear hT
  go_enter Tryz.func4, Tryz.ntmps4
  obtain ⟨wa, hwa⟩ : ∃ wa, wa = w.alloc (.cells #[.int .i32 99, .int .i32 104, .int .i32 97, .int .i32 98, .int .i32 5, .int .i32 3] 33) := ⟨_, rfl⟩
  have hba : Below w.heap.size w wa := by rw [hwa]; exact (Below.refl _ _).alloc (Nat.le_refl _) _
  have hra : RdR wa (some ⟨w.heap.size, 0, none⟩) [(99, 104), (97, 98), (5, 3)] := by
    rw [hwa]
    have hk := World.alloc_heap_new w (.cells #[.int .i32 99, .int .i32 104, .int .i32 97, .int .i32 98, .int .i32 5, .int .i32 3] 33)
    intro k g hg
    have hk3 : k < 3 := (List.getElem?_eq_some_iff.1 hg).1
    refine ⟨_, rfl, by simp, ?_, ?_⟩
    · rw [add0, cell_of_row _ w.heap.size (k * 2) _ 33 (0, 0) hk]
      obtain rfl | rfl | rfl : k = 0 ∨ k = 1 ∨ k = 2 := by omega
      all_goals cases hg; rfl
    · rw [add0, cell_of_row _ w.heap.size (k * 2 + 1) _ 33 (0, 0) hk]
      obtain rfl | rfl | rfl : k = 0 ∨ k = 1 ∨ k = 2 := by omega
      all_goals cases hg; rfl
  have HN := hid (norm_any _ 3 [(99, 104), (97, 98), (5, 3)] wa hra (by decide))
  rw [live_nrm] at HN
  clear hra
  go_wp2_with fail
  rw [← hwa]
  refine HN.out.mono ?_
  rintro e w1 ⟨v, rfl, o1, hb1⟩
  obtain ⟨sg, sc, rfl, hsg, hr1⟩ := rdr_row2 o1 (by decide)
  have hB1 : Below w.heap.size w w1 := hba.trans (hb1.mono hba.size)
  have HN1 := hid (not_any (some ⟨sg, 0, none⟩) sc [(97, 104)] w1 hr1 (by decide))
  rw [live_nt] at HN1
  have HB1 := hid hB1
  have HR1 := hid hr1
  clear hb1 o1 HN hba hwa hB1 hr1
  go_wp2_with fail
  refine HN1.out.mono ?_
  rintro e w2 ⟨v, rfl, o2, hb2⟩
  obtain ⟨ng, nc, rfl, hng, hr2⟩ := rdr_row2 o2 (by decide)
  have HB2 := hid (HB1.out.trans (hb2.mono HB1.out.size))
  have HR2 := hid (HR1.out.below hb2)
  have HM2 := hid hr2
  have HP2 := hid (parse_any [39, 97, 39, 45, 39, 104, 39, 32, 85, 43, 48, 48, 52, 49] w2 (by decide) (tabs_below HT.out h2 HB2.out) (by have := HB2.out.size; omega))
  rw [live_par] at HP2
  clear hb2 o2 HN1 HB1 HR1 hr2
  go_wp2_with fail
  refine HP2.out.mono ?_
  rintro e w3 ⟨v, rfl, o3, hb3⟩
  obtain ⟨po, pc, rfl, _⟩ := rdr_row o3
  have HB3 := hid (HB2.out.trans (hb3.mono HB2.out.size))
  have HR3 := hid (HR2.out.below hb3)
  have HM3 := hid (HM2.out.below hb3)
  have HP3 := hid (parse_any [39, 255, 39] w3 (by decide) (tabs_below HT.out h2 HB3.out) (by have := HB3.out.size; omega))
  rw [live_par2] at HP3
  clear hb3 o3 HP2 HB2 HR2 HM2
  go_wp2_with fail
  refine HP3.out.mono ?_
  rintro e w4 ⟨v, rfl, o4, hb4⟩
  obtain ⟨qo, qc, rfl, _⟩ := rdr_row o4
  have HB4 := hid (HB3.out.trans (hb4.mono HB3.out.size))
  have HR4 := hid (HR3.out.below hb4)
  have HM4 := hid (HM3.out.below hb4)
  have HA4 := hid (at_any (some ⟨sg, 0, none⟩) sc [(97, 104)] 7 w4 HR4.out (by decide) (by decide) (by decide))
  rw [live_at] at HA4
  clear hb4 o4 HP3 HB3 HR3 HM3
  go_wp2_with fail
  refine HA4.out.mono ?_
  rintro e w5 ⟨rfl, hb5⟩
  have HB5 := hid (HB4.out.trans (hb5.mono HB4.out.size))
  have HR5 := hid (HR4.out.below hb5)
  have HM5 := hid (HM4.out.below hb5)
  clear hb5 HA4 HB4 HR4 HM4
  obtain ⟨s2, s3⟩ := rdr_cells HR5.out (k := 0) rfl
  obtain ⟨n2, n3⟩ := rdr_cells HM5.out (k := 1) rfl
  dsimp only [Nat.zero_mul, Nat.one_mul, Nat.zero_add, Nat.reduceMul, Nat.reduceAdd] at s2 s3 n2 n3
  have HK5 := hid (keep_any [97, 255, 122] (some ⟨sg, 0, none⟩) sc [(97, 104)] w5 HR5.out (by decide) (by decide))
  rw [live_nrm2, live_keep] at HK5
  unfold two
  go_wp2_with fail
  refine HK5.out.mono ?_
  rintro e w6 ⟨rfl, hb6⟩
  have HB6 := hid (HB5.out.trans (hb6.mono HB5.out.size))
  clear hb6 HK5 HB5 HR5 HM5
  go_wp2_with (go_at_call 9; refine (num_any _ _).mono ?_; rintro e w' ⟨rfl, hw⟩; obtain rfl := hw.symm)
  go_ret
  exact ⟨rfl, HB6.out⟩
end Go.Proofs.YtfahbdlcokoghabGreatDoor

