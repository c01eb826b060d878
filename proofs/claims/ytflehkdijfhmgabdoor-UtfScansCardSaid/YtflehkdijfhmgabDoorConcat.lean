/- The contracts of slices.Grow (of nil) and slices.Concat (of two slices) at bytes. -/
import Derived.Test.YtflehkdijfhmgabDoorScan
import Derived.Lib.AppendZerosOnto
import Derived.Lib.SliceRun
import Derived.Lib.Walk
namespace Go.Proofs.YtflehkdijfhmgabDoor
open Go.RowKit

theorem Tryd.info5 : (Tryd.prog.info? 5).map (fun i => (i.zero, i.size, i.bytes)) = some (some (.int .u8 0), 1, 1) := by kernel_rfl

theorem addr_add (b o j : Nat) : (⟨b, o, none⟩ : Addr).add j = ⟨b, o + j, none⟩ := by unfold Addr.add; split <;> simp_all

set_option maxHeartbeats 1000000 in
theorem grow_nil (m : Int) (n : Nat) (w : World) (hm : m = n) (h0 : 0 < n) (hbig : n ≤ 140737488355328) :
    Calls Tryd.prog 35 #[.slice none 0 0, .int .i64 m] w fun e w' => ∃ G : Nat, e = .returned (.slice (some ⟨w.heap.size, 0, none⟩) 0 G) ∧ w'.ownsRow w.heap.size 5 1 (.slice (some ⟨w.heap.size, 0, none⟩) 0 G) 0 [] ∧ Below w.heap.size w w' := by
  subst hm
  obtain ⟨i0, hi0, hz0, hs0, hb0⟩ := info_parts Tryd.info5
  have hold : (Builtin.firstCells i0.size 0 (.slice none 0 0)).run Tryd.prog w.drew = .ok ([] : List Value).toArray w.drew := run_firstCells_none w.drew i0.size 0 0 0
  have hr : ∀ ty, (Builtin.append_ #[30, 3] ty #[.slice none 0 0, .int .i64 (n : Int)]).run Tryd.prog w =
      .ok (.slice (some ⟨w.heap.size, 0, none⟩) n (grownCap w n 0 5)) (w.drew.alloc (.cells (([] : List Value).toArray ++ Builtin.zeroCells (Value.int .u8 0).cells n ++ Builtin.zeroCells (Value.int .u8 0).cells (grownCap w n 0 5 - n)) 5)) := fun ty => by
    have h := Lib.run_append_grow_zeros w 30 3 ty 5 i0 (.int .u8 0) .i64 .i64 Tryd.underlying30 Tryd.underlying3 hi0 hz0 none 0 0 [] hold n h0 (by omega) (by omega) (by omega) (by rw [hb0]; omega)
      (growslice_fits (by omega) (by rw [hb0]; omega))
    rw [Nat.zero_add] at h
    exact h
  have hGn : n ≤ grownCap w n 0 5 := grownCap_ge w _ _ _
  have hGm : grownCap w n 0 5 ≤ maxLen := grownCap_le_maxLen w n 0 5 (by unfold maxLen; omega)
  generalize grownCap w n 0 5 = G at *
  unfold maxLen at hGm
  obtain ⟨cur, hcur⟩ : ∃ cur : Array Value, cur = ([] : List Value).toArray ++ Builtin.zeroCells (Value.int .u8 0).cells n ++ Builtin.zeroCells (Value.int .u8 0).cells (G - n) := ⟨_, rfl⟩
  have hcs : cur.size = G * 1 := by
    rw [hcur]
    simp [Builtin.zeroCells, Value.cells]
    omega
  rw [← hcur] at hr
  clear hold hcur
  go_enter Tryd.func35, Tryd.ntmps35
  go_wp2_with (at_builtin; refine Lib.wpList_append_run _ rfl _ _ _ _ rfl _ _ rfl rfl _ _ (hr _) ?_)
  all_goals (go_ret; exact ⟨G, rfl, World.ownsRow_made w.drew cur G (Nat.le_refl _) (by unfold maxLen; omega) hcs, ((Below.refl _ _).drew).alloc (Nat.le_refl _) _⟩)

set_option maxHeartbeats 1000000 in
theorem concat_any (k0 x o q oq l1 c1 l2 c2 : Nat) (xs ys : List Value) (w : World) (hk0 : w.cell? ⟨k0, 0, none⟩ = some (.slice (some ⟨x, o, none⟩) l1 c1)) (hk1 : w.cell? ⟨k0, 1, none⟩ = some (.slice (some ⟨q, oq, none⟩) l2 c2))
    (hx : xs.length = l1) (hy : ys.length = l2) (hxs : ∀ j u, xs[j]? = some u → w.cell? ⟨x, o + j, none⟩ = some u) (hys : ∀ j u, ys[j]? = some u → w.cell? ⟨q, oq + j, none⟩ = some u)
    (hx1 : ∀ u ∈ xs, u.oneCell' = true) (hy1 : ∀ u ∈ ys, u.oneCell' = true) (h1 : 0 < l1) (h1' : l1 ≤ 3) (h2 : l2 ≤ 1000000000000) (bk : k0 < w.heap.size) (bx : x < w.heap.size) (bq : q < w.heap.size) :
    Calls Tryd.prog 26 #[.slice (some ⟨k0, 0, none⟩) 2 2] w fun e w' => ∃ v, e = .returned v ∧ w'.ownsRow w.heap.size 5 1 v (l1 + l2) (xs ++ ys) ∧ Below w.heap.size w w' := by
  obtain ⟨i0, hi, hz0, hz1, hz2⟩ := info_parts Tryd.info5
  go_enter Tryd.func26, Tryd.ntmps26
  go_wp2
  go_loop [3, 11] (fun sz i => (i = .int .i64 0 ∧ sz = .int .i64 0) ∨ (i = .int .i64 1 ∧ sz = .int .i64 l1) ∨ (i = .int .i64 2 ∧ sz = .int .i64 ((l1 : Int) + l2))) (fun _ i => 2 - (intOf i).toNat)
  case atStart => exact Or.inl ⟨rfl, rfl⟩
  case round =>
    rcases hrel with ⟨rfl, rfl⟩ | ⟨rfl, rfl⟩ | ⟨rfl, rfl⟩
    · go_wp2
      go_round
      case rel => exact Or.inr (Or.inl ⟨rfl, rfl⟩)
      case measure => simp [intOf]
    · go_wp2
      go_round
      case rel => exact Or.inr (Or.inr ⟨rfl, rfl⟩)
      case measure => simp [intOf]
    · go_wp2_with fail
      refine (grow_nil _ (l1 + l2) _ (by omega) (by omega) (by omega)).mono ?_
      rintro e w1 ⟨G, rfl, hown1, hB1⟩
      go_wp2
      go_loopw [6, 27] (fun v i wr => Below w.heap.size w wr ∧ ((i = .int .i64 0 ∧ wr.ownsRow w.heap.size 5 1 v 0 []) ∨ (i = .int .i64 1 ∧ wr.ownsRow w.heap.size 5 1 v l1 xs) ∨ (i = .int .i64 2 ∧ wr.ownsRow w.heap.size 5 1 v (l1 + l2) (xs ++ ys)))) (fun _ i _ => 2 - (intOf i).toNat)
      case atStart => exact ⟨hB1, Or.inl ⟨rfl, hown1⟩⟩
      case round =>
        clear hown1 hB1
        obtain ⟨hB, hrel⟩ := hrel
        have r0 : wr.cell? ⟨k0, 0, none⟩ = some (.slice (some ⟨x, o, none⟩) l1 c1) := (hB.cell (p := ⟨k0, 0, none⟩) bk).trans hk0
        have r1 : wr.cell? ⟨k0, 1, none⟩ = some (.slice (some ⟨q, oq, none⟩) l2 c2) := (hB.cell (p := ⟨k0, 1, none⟩) bk).trans hk1
        have hs := hB.size
        have nx : ∀ j u, xs[j]? = some u → wr.cell? ((⟨x, o, none⟩ : Addr).add j) = some u := fun j u hj => by rw [addr_add]; exact (hB.cell (p := ⟨x, o + j, none⟩) bx).trans (hxs j u hj)
        have ny : ∀ j u, ys[j]? = some u → wr.cell? ((⟨q, oq, none⟩ : Addr).add j) = some u := fun j u hj => by rw [addr_add]; exact (hB.cell (p := ⟨q, oq + j, none⟩) bq).trans (hys j u hj)
        have HX := hid nx
        have HY := hid ny
        clear nx ny
        rcases hrel with ⟨rfl, hown⟩ | ⟨rfl, hown⟩ | ⟨rfl, hown⟩
        · go_wp2_with (at_builtin; refine wpList_append_own _ rfl (.tmp 31) (.tmp 32) 30 rfl w.heap.size 5 i0 (.int .u8 0) 1 1 Tryd.underlying30 hi hz0 hz1 hz2 rfl (by decide) _ _ _ rfl hown ⟨x, o, none⟩ l1 c1 xs rfl (by omega) HX.out hx1 (by unfold maxLen; omega) (by omega) hs ?_)
          intro v' w2 hown2 hgrow _
          have hB2 : Below w.heap.size w w2 := hB.grown hgrow hs (fun k hk => (hown.lt k hk).1)
          clear hgrow hown hB
          go_wp2
          go_roundw
          case rel => exact ⟨hB2, Or.inr (Or.inl ⟨rfl, by simpa using hown2⟩)⟩
          case measure => simp [intOf]
        · go_wp2_with (at_builtin; refine wpList_append_own _ rfl (.tmp 31) (.tmp 32) 30 rfl w.heap.size 5 i0 (.int .u8 0) 1 1 Tryd.underlying30 hi hz0 hz1 hz2 rfl (by decide) _ _ _ rfl hown ⟨q, oq, none⟩ l2 c2 ys rfl (by omega) HY.out hy1 (by unfold maxLen; omega) (by omega) hs ?_)
          intro v' w2 hown2 hgrow _
          have hB2 : Below w.heap.size w w2 := hB.grown hgrow hs (fun k hk => (hown.lt k hk).1)
          clear hgrow hown hB
          go_wp2
          go_roundw
          case rel => exact ⟨hB2, Or.inr (Or.inr ⟨rfl, hown2⟩)⟩
          case measure => simp [intOf]
        · go_wp2
          go_ret
          exact ⟨_, rfl, hown, hB⟩
end Go.Proofs.YtflehkdijfhmgabDoor
