/- The contracts of cmp.Compare at runes and of the comparison by which sorted sorts. -/
import Derived.Test.YtfahbdlcokoghabGreatDoorRIs
import Derived.Test.YtfahbdlcokoghabGreatDoorSortLay
namespace Go.Proofs.YtfahbdlcokoghabGreatDoor
open Go.RowKit Go.Shelf Go.Lib Go.Sort

set_option maxHeartbeats 400000 in
theorem nan_any (a : Int) (w : World) : Calls Tryz.prog 49 #[.int .i32 a] w fun e w' => e = .returned (.bool false) ∧ w' = w := by
  go_enter Tryz.func49, Tryz.ntmps49
  go_wp2
  go_ret
  exact ⟨rfl, rfl⟩
set_option maxHeartbeats 400000 in
theorem compare_any (a b : Int) (w : World) : Calls Tryz.prog 34 #[.int .i32 a, .int .i32 b] w fun e w' => e = .returned (.int .i64 (Lib.compareInt a b)) ∧ w' = w := by
  by_cases h1 : a < b
  · have HR := hid (show Lib.compareInt a b = -1 by unfold Lib.compareInt; simp [h1])
    go_enter Tryz.func34, Tryz.ntmps34
    go_wp2_with (go_at_call 49; refine (nan_any _ _).mono ?_; rintro e w' ⟨rfl, hw⟩; obtain rfl := hw.symm; clear hw)
    go_ret
    exact ⟨by rw [HR.out]; rfl, rfl⟩
  by_cases h2 : b < a
  · have HR := hid (show Lib.compareInt a b = 1 by unfold Lib.compareInt; simp [h1, h2])
    go_enter Tryz.func34, Tryz.ntmps34
    go_wp2_with (go_at_call 49; refine (nan_any _ _).mono ?_; rintro e w' ⟨rfl, hw⟩; obtain rfl := hw.symm; clear hw)
    go_ret
    exact ⟨by rw [HR.out]; rfl, rfl⟩
  · have HR := hid (show Lib.compareInt a b = 0 by unfold Lib.compareInt; simp [h1, h2])
    go_enter Tryz.func34, Tryz.ntmps34
    go_wp2_with (go_at_call 49; refine (nan_any _ _).mono ?_; rintro e w' ⟨rfl, hw⟩; obtain rfl := hw.symm; clear hw)
    go_ret
    exact ⟨by rw [HR.out]; rfl, rfl⟩

set_option maxHeartbeats 1000000 in
/-- The comparison: two blocks are laid. -/
theorem closure_any (x y : Rg) (W : World) : Calls Tryz.prog 33 #[.agg #[.int .i32 x.1, .int .i32 x.2], .agg #[.int .i32 y.1, .int .i32 y.2]] W fun e w' => e = .returned (.int .i64 (Lib.compareInt x.1 y.1)) ∧ ∃ q os', w' = grow (W.drewN q) os' := by
  have hcon := fun W' => compare_any x.1 y.1 W'
  generalize Lib.compareInt x.1 y.1 = r at hcon ⊢
  go_enter Tryz.func33, Tryz.ntmps33
  go_wp2_with (go_at_call 34; refine (hcon _).mono ?_; rintro e w' ⟨rfl, rfl⟩)
  go_ret
  exact ⟨rfl, 0, _, by rw [alloc_eq_grow, alloc_eq_grow, grow_grow]; rfl⟩
theorem cmp_lays (blk off size : Nat) (w : World) : CmpLays Tryz.prog 33 #[] rgc 2 (fun x y => Lib.compareInt x.1 y.1) blk off size w :=
  fun _ _ _ _ x y => closure_any x y _
theorem lt_lo (x y : Rg) : ltOf (fun x y : Rg => Lib.compareInt x.1 y.1) x y = decide (x.1 < y.1) := by
  unfold ltOf Lib.compareInt
  by_cases h1 : x.1 < y.1
  · simp [h1]
  · by_cases h2 : y.1 < x.1 <;> simp [h1, h2]
theorem swo_lo : SWO (ltOf fun x y : Rg => Lib.compareInt x.1 y.1) where
  irrefl x := by rw [lt_lo]; simp
  trans x y z h1 h2 := by rw [lt_lo] at *; simp at *; omega
  ntrans x y z h1 h2 := by rw [lt_lo] at *; simp at *; omega
/-- The library's sort at a slice of ranges: a permutation, by rising first numbers. -/
theorem sort_any (blk off cap : Nat) (d : Array Rg) (w : World) (hH : HoldsK rgc 2 w blk off d) (hblk : blk < w.heap.size) (hsz : d.size < 4611686018427387904) :
    Calls Tryz.prog 32 #[.slice (some ⟨blk, off, none⟩) d.size cap, .func (.func 33) #[] #[]] w fun e w' => e = .returned (.tuple #[]) ∧ ∃ d' n os, PermIn 0 d.size d d' ∧ SortedIn (ltOf fun x y : Rg => Lib.compareInt x.1 y.1) 0 d.size d' ∧ w' = sortWorldK rgc 2 w blk off n d' os := by
  have eg : ∀ args w, (callFunc 33 args).run Tryz.prog w = .ok (.enter 33 args) w := enters_of Tryz.func33 (by kernel_rfl) rfl
  have hcon := AnyQ.slices_SortFunc Tryz.sortR 2 Tryz.isAgg33 Tryz.sizeOf33 rgc (fun _ => rfl) (fun x v hv => rgc_one x v hv) (fun x y => Lib.compareInt x.1 y.1) swo_lo 33 #[] blk off cap d w eg (cmp_lays blk off d.size w) hH hblk hsz
  exact hcon
end Go.Proofs.YtfahbdlcokoghabGreatDoor

