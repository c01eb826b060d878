/- The closing look of stage 14's laws. -/
import Derived.Test.YtmhbhjlaagpohaaDoorEvA
import Derived.Test.YtmhbhjlaagpohaaDoorLiveRun
import Derived.Test.YtmhbhjlaagpohaaDoorLnSame
namespace Go.Proofs.YtmhbhjlaagpohaaDoor
open Ev Go.RowKit
theorem prev_run : runA Tryd.prog none7 1000000 60 tabs 49 [.string ⟨#[97, 32, 98]⟩, .int .i64 3] (.tuple #[.agg #[.int .i64 2, .bool false], .bool true]) = true := by kernel_rfl
theorem kind_run : runA Tryd.prog none7 1000000 60 tabs 50 [.string ⟨#[97, 32, 98]⟩, .int .i64 2] (.int .i64 1) = true := by kernel_rfl
theorem trail_run : runA Tryd.prog none7 1000000 60 tabs 51 [.string ⟨#[97, 98, 32, 10]⟩] (.int .i64 2) = true := by kernel_rfl
theorem prev_at (w : World) (hw : Tbs tabs w) : Calls Tryd.prog 49 #[.string ⟨#[97, 32, 98]⟩, .int .i64 3] w fun e w' => e = .returned (.tuple #[.agg #[.int .i64 2, .bool false], .bool true]) ∧ Below w.heap.size w w' := closed_args mixed none7_ok tabs_ok rfl prev_run w hw
theorem kind_at (w : World) (hw : Tbs tabs w) : Calls Tryd.prog 50 #[.string ⟨#[97, 32, 98]⟩, .int .i64 2] w fun e w' => e = .returned (.int .i64 1) ∧ Below w.heap.size w w' := closed_args mixed none7_ok tabs_ok rfl kind_run w hw
theorem trail_at (w : World) (hw : Tbs tabs w) : Calls Tryd.prog 51 #[.string ⟨#[97, 98, 32, 10]⟩] w fun e w' => e = .returned (.int .i64 2) ∧ Below w.heap.size w w' := closed_args mixed none7_ok tabs_ok rfl trail_run w hw
theorem tbs_below {w w' : World} (h : Tbs tabs w) (hb : Below w.heap.size w w') : Tbs tabs w' := fun x hx => by
  obtain ⟨c, h1, h2⟩ := h x hx
  exact ⟨c, (hb.block _ (Array.getElem?_eq_some_iff.1 h1).1).trans h1, h2⟩
theorem rdc_lit (w : World) (xs : List (Int × Bool)) : RdC (w.alloc (.cells (chc xs).toArray 42)) (some ⟨w.heap.size, 0, none⟩) xs := fun k x hk => by
  obtain ⟨h1, h2⟩ := chc_at xs k x hk
  refine ⟨_, rfl, by simp, ?_, ?_⟩
  · rw [Addr.add_lit, Nat.zero_add, cell_of_row _ _ _ _ 42 (0, 0) (heap_alloc_new w _)]
    simpa using h1
  · rw [Addr.add_lit, Nat.zero_add, cell_of_row _ _ _ _ 42 (0, 0) (heap_alloc_new w _)]
    simpa using h2
theorem live_chs : chs [97, 32, 98, 10, 99] 0 = [(2, false), (4, true), (5, true)] := by decide +kernel
set_option maxHeartbeats 1000000 in
theorem live14 (w : World) (hw : Tbs tabs w) (ht : Tb w) : Calls Tryd.prog 20 #[] w fun e w' => e = .returned (.bool true) ∧ Below w.heap.size w w' := by
  have HW := hid hw
  have HT := hid ht
  clear hw ht
  go_enter Tryd.func20, Tryd.ntmps20
  go_wp2_with fail
  refine (chances_any [97, 32, 98, 10, 99] w HT.out (by decide)).mono ?_
  rintro e w1 ⟨v, rfl, hown, be⟩
  rw [live_chs] at hown
  obtain ⟨g, cap, rfl⟩ := ownsRow_succ (k := 2) hown
  have HO := hid (rdc_own hown)
  have HB1 := hid be
  clear hown be
  go_wp2_with fail
  refine (prev_at w1 (tbs_below HW.out HB1.out)).mono ?_
  rintro e w2 ⟨rfl, be⟩
  have HB2 := hid (HB1.out.trans (be.mono HB1.out.size))
  have HO2 := hid (HO.out.below be)
  clear be HO
  go_wp2_with fail
  have hA := below_box (w := w2) (o := .cells #[.int .i64 2, .bool false] 42)
  have hb2 := World.alloc_heap_new w2 (.cells #[.int .i64 2, .bool false] 42)
  obtain ⟨w3, hw3⟩ : ∃ w3, w3 = w2.alloc (.cells #[.int .i64 2, .bool false] 42) := ⟨_, rfl⟩
  have hsz : w2.heap.size + 1 = w3.heap.size := by rw [hw3]; simp
  obtain ⟨pb, hpb⟩ : ∃ pb, pb = w2.heap.size := ⟨_, rfl⟩
  rw [← hw3] at hA hb2
  rw [← hpb] at hb2
  rw [hsz, ← hw3, ← hpb]
  clear hw3 hsz
  have HBX := hid hb2
  have HO3 := hid (HO2.out.below hA)
  have HB3 := hid (HB2.out.trans (hA.mono HB2.out.size))
  clear hA hb2 HO2 hpb
  refine (same_any _ _ 3 cap 3 [(2, false), (4, true), (5, true)] _ (HO3.out.below below_box) (rdc_lit w3 [(2, false), (4, true), (5, true)]) rfl (by decide)).mono ?_
  rintro e w4 ⟨rfl, be⟩
  have be3 : Below w3.heap.size w3 w4 := below_box.trans (be.mono below_box.size)
  have HB4 := hid (HB3.out.trans (be3.mono HB3.out.size))
  have HBX4 := hid ((be3.block pb (Array.getElem?_eq_some_iff.1 HBX.out).1).trans HBX.out)
  clear be be3 HBX
  go_wp2_with fail
  refine (kind_at w4 (tbs_below HW.out HB4.out)).mono ?_
  rintro e w5 ⟨rfl, be⟩
  have HB5 := hid (HB4.out.trans (be.mono HB4.out.size))
  have HBX5 := hid ((be.block pb (Array.getElem?_eq_some_iff.1 HBX4.out).1).trans HBX4.out)
  clear be HBX4
  go_wp2_with fail
  refine (trail_at w5 (tbs_below HW.out HB5.out)).mono ?_
  rintro e w6 ⟨rfl, be⟩
  have HB6 := hid (HB5.out.trans (be.mono HB5.out.size))
  have hx := (be.block pb (Array.getElem?_eq_some_iff.1 HBX5.out).1).trans HBX5.out
  have c0 : w6.cell? ⟨pb, 0, none⟩ = some (.int .i64 2) := by rw [cell_of_row _ _ _ _ 42 (0, 0) hx]; rfl
  clear be HBX5 hx
  go_wp2
  go_ret
  exact ⟨rfl, HB6.out⟩
end Go.Proofs.YtmhbhjlaagpohaaDoor
