/- The contract of Close (package utf), at a Scanner that is not nil: every byte that is held is a fault. -/
import Derived.Test.YtflehkdijfhmgabDoorRClose
namespace Go.Proofs.YtflehkdijfhmgabDoor
open Go.RowKit

theorem flts_snoc : ∀ (k t : Nat), flts t (k + 1) = flts t k ++ [⟨(t + k : Nat), 1, 65533, true⟩]
  | 0, t => by simp [flts]
  | k + 1, t => by
    show (⟨t, 1, 65533, true⟩ :: flts (t + 1) (k + 1) : List Mk) = ⟨t, 1, 65533, true⟩ :: flts (t + 1) k ++ _
    rw [flts_snoc k (t + 1), List.cons_append]
    simp; omega
theorem flts_len : ∀ (k t : Nat), (flts t k).length = k
  | 0, _ => rfl
  | k + 1, t => by simp [flts, flts_len k (t + 1)]

set_option maxHeartbeats 1000000 in
theorem close_any (x t n : Nat) (hd : List Int) (w : World) (hs : ScAt w x hd (t + n : Nat)) (hn : hd.length = n) (ht : t ≤ 1000000000) :
    Calls Tryd.prog 16 #[.pointer (some ⟨x, 0, none⟩)] w fun e w' => ∃ v, e = .returned v ∧ w'.ownsRow w.heap.size 50 4 v n (mkcs (flts t n)) ∧ ScAt w' x [] 0 ∧ But x w.heap.size w w' := by
  obtain ⟨i0, hi, hz0, hz1, hz2⟩ := info_parts Tryd.info50
  obtain ⟨a, b, c, hx, _, h3⟩ := hs
  rw [hn] at hx h3
  have x3 : w.cell? ⟨x, 3, none⟩ = some (.int .i64 n) := by rw [cell_of_row w x 3 _ 56 (0, 0) hx]; rfl
  have x4 : w.cell? ⟨x, 4, none⟩ = some (.int .i64 (t + n : Nat)) := by rw [cell_of_row w x 4 _ 56 (0, 0) hx]; rfl
  have hxs : x < w.heap.size := (Array.getElem?_eq_some_iff.1 hx).1
  have HX := hid hx
  clear hx hn
  obtain ⟨F, hF⟩ : ∃ F, F = t + n := ⟨_, rfl⟩
  rw [← hF] at x4 HX
  have HF := hid hF
  have hFn : n ≤ F := by omega
  have hF9 : F ≤ 2000000000 := by omega
  clear hF
  go_enter Tryd.func16, Tryd.ntmps16
  go_wp2_with fail
  go_region
  go_wp2
  go_loopw [3, 4] (fun v i wr => ∃ (k q : Nat), k ≤ n ∧ i = .int .i64 q ∧ Hid (q = t + k) ∧ q ≤ F ∧ wr.ownsRow w.heap.size 50 4 v k (mkcs (flts t k)) ∧ Hid (Below w.heap.size w wr)) (fun _ i _ => F - (intOf i).toNat)
  case atStart => exact ⟨0, F - n, by omega, by go_num, by show _ = _; have := HF.out; omega, by omega, World.ownsRow_nil _ _ _ _, (Below.refl _ _).drew⟩
  case round =>
    obtain ⟨k, q, hk, rfl, HQ, hqF, hown, HB⟩ := hrel
    have y4 : wr.cell? ⟨x, 4, none⟩ = some (.int .i64 F) := (HB.out.cell (p := ⟨x, 4, none⟩) hxs).trans x4
    have hws := HB.out.size
    by_cases hlt : q < F
    · have hkn : k < n := by have := HQ.out; have := HF.out; omega
      go_wp2_with (first | (go_at_call 30; refine (fault_any _ _).mono ?_; rintro e w1 ⟨rfl, rfl⟩) | (at_builtin; refine wpList_append_own _ rfl _ _ 38 rfl w.heap.size 50 i0 (.agg #[.int .i64 0, .int .i64 0, .int .i32 0, .bool false]) 4 24 Tryd.underlying38 hi hz0 hz1 hz2 rfl (by decide) _ _ _ rfl ((hown.alloc _).alloc _) ⟨wr.heap.size + 1, 0, none⟩ 1 1 (mkc ⟨q, 1, 65533, true⟩) rfl rfl ?c1 ?c2 ?c3 ?c4 ?c5 ?_))
      case c1 =>
        have h := news_one (wr.alloc (.cells #[.int .i64 q, .int .i64 1, .int .i32 65533, .bool true] 50)) #[.int .i64 q, .int .i64 1, .int .i32 65533, .bool true] 50
        rw [World.size_alloc] at h
        exact h
      case c2 => exact mkc_one _
      case c3 => unfold maxLen; omega
      case c4 => omega
      case c5 => simp; omega
      intro v' w3 hown' hgrow _
      have HB3 := hid (((HB.out.alloc (by omega) _).alloc (by simp; omega) _).grown hgrow (by simp; omega) (fun k hk => (hown.lt k hk).1))
      have hown2 : w3.ownsRow w.heap.size 50 4 v' (k + 1) (mkcs (flts t (k + 1))) := by rw [flts_snoc, mkcs_snoc, ← HQ.out]; exact hown'
      clear hown' hgrow hown
      go_wp2
      go_roundw
      case rel => exact ⟨k + 1, q + 1, by omega, by go_num, by show _ = _; have := HQ.out; omega, by omega, hown2, HB3⟩
      case measure => simp [intOf]; omega
    · have hkn : k = n := by have := HQ.out; have := HF.out; omega
      subst hkn
      have hx1 := (HB.out.block x hxs).trans HX.out
      have z0 : wr.cell? ⟨x, 0, none⟩ = some (.int .u8 a) := by rw [cell_of_row wr x 0 _ 56 (0, 0) hx1]; rfl
      have z1 : wr.cell? ⟨x, 1, none⟩ = some (.int .u8 b) := by rw [cell_of_row wr x 1 _ 56 (0, 0) hx1]; rfl
      have z2 : wr.cell? ⟨x, 2, none⟩ = some (.int .u8 c) := by rw [cell_of_row wr x 2 _ 56 (0, 0) hx1]; rfl
      have z3 : wr.cell? ⟨x, 3, none⟩ = some (.int .i64 k) := by rw [cell_of_row wr x 3 _ 56 (0, 0) hx1]; rfl
      have f0 := frozen_of_row wr x 0 _ 56 hx1
      have f1 := frozen_of_row wr x 1 _ 56 hx1
      have f2 := frozen_of_row wr x 2 _ 56 hx1
      have f3 := frozen_of_row wr x 3 _ 56 hx1
      have f4 := frozen_of_row wr x 4 _ 56 hx1
      have HX1 := hid hx1
      clear hx1
      go_wp2
      go_ret
      have s0 := Lib.heap_setCell_same (i := 0) HX1.out (.int .u8 0)
      have s1 := Lib.heap_setCell_same (i := 1) s0 (.int .u8 0)
      have s2 := Lib.heap_setCell_same (i := 2) s1 (.int .u8 0)
      have s3 := Lib.heap_setCell_same (i := 3) s2 (.int .i64 0)
      have s4 := Lib.heap_setCell_same (i := 4) s3 (.int .i64 0)
      refine ⟨_, rfl, ownsRow_set (ownsRow_set (ownsRow_set (ownsRow_set (ownsRow_set hown hxs) hxs) hxs) hxs) hxs, ⟨0, 0, 0, s4, rfl, by simp⟩, ((((((But.refl x w.heap.size w).thn HB.out (Nat.le_refl _)).set _).set _).set _).set _).set _⟩
end Go.Proofs.YtflehkdijfhmgabDoor
