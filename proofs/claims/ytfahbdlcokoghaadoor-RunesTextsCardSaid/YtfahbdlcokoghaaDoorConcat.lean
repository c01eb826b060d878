/- The contracts of slices.Grow (of nil) and slices.Concat (of two slices) at ranges; of Or (package runes) and of the document's Or. -/
import Derived.Test.YtfahbdlcokoghaaDoorOpsMath
import Derived.Lib.AppendZerosOnto
import Derived.Lib.SliceRun
import Derived.Lib.Walk
namespace Go.Proofs.YtfahbdlcokoghaaDoor
open Go.RowKit

set_option maxRecDepth 100000 in
set_option maxHeartbeats 1000000 in
theorem grow_zero (w : World) : Calls Tryd.prog 58 #[.slice none 0 0, .int .i64 0] w fun e w' => e = .returned (.slice none 0 0) ∧ w' = w := by
  go_enter Tryd.func58, Tryd.ntmps58
  go_wp2
  go_ret
  exact ⟨rfl, rfl⟩

set_option maxRecDepth 100000 in
set_option maxHeartbeats 1000000 in
theorem grow_nil (m : Int) (n : Nat) (w : World) (hm : m = n) (h0 : 0 < n) (hbig : n ≤ 1000000) :
    Calls Tryd.prog 58 #[.slice none 0 0, .int .i64 m] w fun e w' => ∃ G : Nat, e = .returned (.slice (some ⟨w.heap.size, 0, none⟩) 0 G) ∧ w'.ownsRow w.heap.size 30 2 (.slice (some ⟨w.heap.size, 0, none⟩) 0 G) 0 [] ∧ Below w.heap.size w w' := by
  subst hm
  obtain ⟨i0, hi0, hz0, hs0, hb0⟩ := info_parts Tryd.info30
  have hold : (Builtin.firstCells i0.size 0 (.slice none 0 0)).run Tryd.prog w.drew = .ok ([] : List Value).toArray w.drew := run_firstCells_none w.drew i0.size 0 0 0
  have hr : ∀ ty, (Builtin.append_ #[22, 3] ty #[.slice none 0 0, .int .i64 (n : Int)]).run Tryd.prog w =
      .ok (.slice (some ⟨w.heap.size, 0, none⟩) n (grownCap w n 0 30)) (w.drew.alloc (.cells (([] : List Value).toArray ++ Builtin.zeroCells (Value.agg #[.int .i32 0, .int .i32 0]).cells n ++ Builtin.zeroCells (Value.agg #[.int .i32 0, .int .i32 0]).cells (grownCap w n 0 30 - n)) 30)) := fun ty => by
    have h := Lib.run_append_grow_zeros w 22 3 ty 30 i0 (.agg #[.int .i32 0, .int .i32 0]) .i64 .i64 Tryd.underlying22 Tryd.underlying3 hi0 hz0 none 0 0 [] hold n h0 (by omega) (by omega) (by omega) (by rw [hb0]; omega)
      (growslice_fits (by omega) (by rw [hb0]; omega))
    rw [Nat.zero_add] at h
    exact h
  have hGn : n ≤ grownCap w n 0 30 := grownCap_ge w _ _ _
  have hGm : grownCap w n 0 30 ≤ maxLen := grownCap_le_maxLen w n 0 30 (by unfold maxLen; omega)
  generalize grownCap w n 0 30 = G at *
  unfold maxLen at hGm
  obtain ⟨cur, hcur⟩ : ∃ cur : Array Value, cur = ([] : List Value).toArray ++ Builtin.zeroCells (Value.agg #[.int .i32 0, .int .i32 0]).cells n ++ Builtin.zeroCells (Value.agg #[.int .i32 0, .int .i32 0]).cells (G - n) := ⟨_, rfl⟩
  have hcs : cur.size = G * 2 := by
    rw [hcur]
    simp [Builtin.zeroCells, Value.cells]
    omega
  rw [← hcur] at hr
  clear hold hcur
  go_enter Tryd.func58, Tryd.ntmps58
  go_wp2_with (at_builtin; refine Lib.wpList_append_run _ rfl _ _ _ _ rfl _ _ rfl rfl _ _ (hr _) ?_)
  all_goals (go_ret; exact ⟨G, rfl, World.ownsRow_made w.drew cur G (Nat.le_refl _) (by unfold maxLen; omega) hcs, ((Below.refl _ _).drew).alloc (Nat.le_refl _) _⟩)
theorem grow_any (m : Int) (n : Nat) (w : World) (hm : m = n) (hbig : n ≤ 1000000) :
    Calls Tryd.prog 58 #[.slice none 0 0, .int .i64 m] w fun e w' => ∃ v, e = .returned v ∧ w'.ownsRow w.heap.size 30 2 v 0 [] ∧ Below w.heap.size w w' := by
  by_cases h0 : 0 < n
  · refine (grow_nil m n w hm h0 hbig).mono ?_
    rintro e w' ⟨G, h1, h2, h3⟩
    exact ⟨_, h1, h2, h3⟩
  · obtain rfl : n = 0 := by omega
    obtain rfl : m = 0 := hm
    refine (grow_zero w).mono ?_
    rintro e w' ⟨h1, h2⟩
    subst h2
    exact ⟨_, h1, World.ownsRow_nil _ _ _ _, Below.refl _ _⟩

set_option maxRecDepth 100000 in
set_option maxHeartbeats 1000000 in
theorem concat_any (k0 : Nat) (ao bo : Option Addr) (ac bc : Nat) (a b : List Rg) (w : World) (hk0 : w.cell? ⟨k0, 0, none⟩ = some (.slice ao a.length ac)) (hk1 : w.cell? ⟨k0, 1, none⟩ = some (.slice bo b.length bc))
    (ha : RdR w ao a) (hb : RdR w bo b) (hac : ao = none → ac = 0) (hbc : bo = none → bc = 0) (h1 : a.length ≤ 100000) (h2 : b.length ≤ 100000) (bk : k0 < w.heap.size) :
    Calls Tryd.prog 46 #[.slice (some ⟨k0, 0, none⟩) 2 2] w fun e w' => ∃ v, e = .returned v ∧ w'.ownsRow w.heap.size 30 2 v (a ++ b).length (rgcs (a ++ b)) ∧ Below w.heap.size w w' := by
  obtain ⟨i0, hi, hz0, hz1, hz2⟩ := info_parts Tryd.info30
  have HA := hid ha
  have HB := hid hb
  have HAC := hid hac
  have HBC := hid hbc
  clear ha hb hac hbc
  go_enter Tryd.func46, Tryd.ntmps46
  go_wp2
  go_loop [3, 11] (fun sz i => (i = .int .i64 0 ∧ sz = .int .i64 0) ∨ (i = .int .i64 1 ∧ sz = .int .i64 a.length) ∨ (i = .int .i64 2 ∧ sz = .int .i64 ((a.length : Int) + b.length))) (fun _ i => 2 - (intOf i).toNat)
  case atStart => exact Or.inl ⟨rfl, rfl⟩
  case round =>
    rcases hrel with ⟨rfl, rfl⟩ | ⟨rfl, rfl⟩ | ⟨rfl, rfl⟩
    · go_wp2
      go_round
      case rel => exact Or.inr (Or.inl ⟨rfl, rfl⟩)
      case measure => simp [intOf]
    · go_wp2
      go_round
      case rel => exact Or.inr (Or.inr ⟨rfl, rfl⟩)
      case measure => simp [intOf]
    · go_wp2_with fail
      refine (grow_any _ (a.length + b.length) _ (by omega) (by omega)).mono ?_
      rintro e w1 ⟨v1, rfl, hown1, hB1⟩
      have HO1 := hid hown1
      have HB1 := hid hB1
      clear hown1 hB1
      go_wp2
      go_loopw [6, 27] (fun v i wr => Hid (Below w.heap.size w wr) ∧ ((i = .int .i64 0 ∧ Hid (wr.ownsRow w.heap.size 30 2 v 0 [])) ∨ (i = .int .i64 1 ∧ Hid (wr.ownsRow w.heap.size 30 2 v a.length (rgcs a))) ∨ (i = .int .i64 2 ∧ Hid (wr.ownsRow w.heap.size 30 2 v (a ++ b).length (rgcs (a ++ b)))))) (fun _ i _ => 2 - (intOf i).toNat)
      case atStart => exact ⟨HB1, Or.inl ⟨rfl, HO1⟩⟩
      case round =>
        clear HO1 HB1
        obtain ⟨HBr, hrel⟩ := hrel
        have r0 : wr.cell? ⟨k0, 0, none⟩ = some (.slice ao a.length ac) := (HBr.out.cell (p := ⟨k0, 0, none⟩) bk).trans hk0
        have r1 : wr.cell? ⟨k0, 1, none⟩ = some (.slice bo b.length bc) := (HBr.out.cell (p := ⟨k0, 1, none⟩) bk).trans hk1
        have hs := HBr.out.size
        have HX := hid (HA.out.below HBr.out)
        have HY := hid (HB.out.below HBr.out)
        rcases hrel with ⟨rfl, HO⟩ | ⟨rfl, HO⟩ | ⟨rfl, HO⟩
        · go_wp2_with (at_builtin; refine wpList_append_rg rfl (.tmp 31) (.tmp 32) 22 rfl w.heap.size 30 i0 (.agg #[.int .i32 0, .int .i32 0]) 8 Tryd.underlying22 hi hz0 hz1 hz2 (by rfl) _ 0 [] rfl HO.out ao ac a rfl HAC.out HX.out (by unfold maxLen; omega) (by omega) hs ?_)
          intro v' w2 hown2 hgrow
          have HB2 := hid (HBr.out.grown hgrow hs (fun k hk => (HO.out.lt k hk).1))
          have HO2 := hid (show w2.ownsRow w.heap.size 30 2 v' a.length (rgcs a) by simpa using hown2)
          clear hgrow hown2 HO HBr
          go_wp2
          go_roundw
          case rel => exact ⟨HB2, Or.inr (Or.inl ⟨rfl, HO2⟩)⟩
          case measure => simp [intOf]
        · go_wp2_with (at_builtin; refine wpList_append_rg rfl (.tmp 31) (.tmp 32) 22 rfl w.heap.size 30 i0 (.agg #[.int .i32 0, .int .i32 0]) 8 Tryd.underlying22 hi hz0 hz1 hz2 (by rfl) _ a.length (rgcs a) rfl HO.out bo bc b rfl HBC.out HY.out (by unfold maxLen; omega) (by omega) hs ?_)
          intro v' w2 hown2 hgrow
          have HB2 := hid (HBr.out.grown hgrow hs (fun k hk => (HO.out.lt k hk).1))
          have HO2 := hid (show w2.ownsRow w.heap.size 30 2 v' (a ++ b).length (rgcs (a ++ b)) by rw [rgcs_app, List.length_append]; exact hown2)
          clear hgrow hown2 HO HBr
          go_wp2
          go_roundw
          case rel => exact ⟨HB2, Or.inr (Or.inr ⟨rfl, HO2⟩)⟩
          case measure => simp [intOf]
        · go_wp2
          go_ret
          exact ⟨_, rfl, HO.out, HBr.out⟩
end Go.Proofs.YtfahbdlcokoghaaDoor
