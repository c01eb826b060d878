/- The contracts of num, Places and long. -/
import Derived.Test.YtkmcbhdjecpmjaaDoorKit7
namespace Go.Proofs.YtkmcbhdjecpmjaaDoor
open Go.RowKit

theorem num_any (e : Int) (w : World) : Calls Tryd.prog 10 #[.int .i64 e] w fun r w' => r = .returned (.int .i64 e) ∧ w' = w := by
  go_enter Tryd.func10, Tryd.ntmps10
  go_wp2
  go_ret
  exact ⟨rfl, rfl⟩
set_option maxHeartbeats 1000000 in
set_option maxRecDepth 100000 in
/-- Two lists that are the same. -/
theorem places_any (ao bo : Option Addr) (n ac bc : Nat) (l : List Int) (w : World) (ha : RdI w ao l) (hb : RdI w bo l) (hn : n = l.length) (hl : n ≤ most) :
    Calls Tryd.prog 28 #[.slice ao n ac, .slice bo n bc] w fun e w' => e = .returned (.bool true) ∧ Below w.heap.size w w' := by
  unfold most at hl
  have HA := hid ha
  have HB := hid hb
  have HN := hid hn
  clear ha hb hn
  go_enter Tryd.func28, Tryd.ntmps28
  go_wp2
  go_loopw [5] (fun i wr => ∃ k : Nat, k ≤ n ∧ i = .int .i64 k ∧ Hid (Below w.heap.size w wr)) (fun i _ => n - (intOf i).toNat)
  case atStart => exact ⟨0, by omega, rfl, Below.refl _ _⟩
  case round =>
    obtain ⟨k, hk, rfl, HBr⟩ := hrel
    by_cases hlt : k < n
    · have hkl : k < l.length := by have := HN.out; omega
      obtain ⟨a, rfl, _, a0⟩ := HA.out.below HBr.out k l[k] (List.getElem?_eq_getElem hkl)
      obtain ⟨b, rfl, _, b0⟩ := HB.out.below HBr.out k l[k] (List.getElem?_eq_getElem hkl)
      obtain ⟨x, hx⟩ : ∃ x, l[k] = x := ⟨_, rfl⟩
      rw [hx] at a0 b0
      have i3 : (k : Int) < (n : Int) := by omega
      have i0 : (0 : Int) ≤ (k : Int) := by omega
      have xx : (x != x) = false := bne_eq_false_iff_eq.2 rfl
      clear hx hkl
      go_wp2_with fail
      go_quiet (fail)
      go_wp2
      go_roundw
      case rel => exact ⟨k + 1, by omega, by go_num, below_drN HBr.out _⟩
      case measure => simp [intOf]; omega
    · have i3 : ¬ (k : Int) < (n : Int) := by omega
      go_wp2
      go_ret
      exact ⟨rfl, HBr.out⟩
/-- What long says. -/
def LongQ (w : World) (n m : Nat) (R : Rw) (e : Ending) (w' : World) : Prop :=
  ∃ b : Bool, e = .returned (.bool b) ∧ (b = false → n ≤ 60 ∧ m ≤ 1500 ∧ ∀ row ∈ R, row.length ≤ 1500) ∧ Below w.heap.size w w'
/-- The sum so far is no less than all that was counted. -/
structure SumI (n m k s : Nat) (R : Rw) : Prop where
  hn : n ≤ s
  hm : m ≤ s
  row : ∀ (j : Nat) (row : List Int), j < k → R[j]? = some row → row.length ≤ s
theorem SumI.next {n m k s l : Nat} {R : Rw} {row : List Int} (h : SumI n m k s R) (hr : R[k]? = some row) (hl : l = row.length) : SumI n m (k + 1) (s + l) R := by
  refine ⟨by have := h.hn; omega, by have := h.hm; omega, fun j r hj hjr => ?_⟩
  by_cases e : j = k
  · subst e
    rw [hr] at hjr
    cases hjr
    omega
  · have := h.row j r (by omega) hjr
    omega
set_option maxHeartbeats 2000000 in
set_option maxRecDepth 100000 in
theorem long_any (c : Int) (no to : Option Addr) (n nc m tc : Nat) (R : Rw) (T : List Int) (w : World) (hd : DRd w no n to m R T) :
    Calls Tryd.prog 19 #[.agg #[.int .i64 c, .slice no n nc, .slice to m tc]] w fun e w' => LongQ w n m R e w' := by
  have hnl := hd.nl
  have hml := hd.ml
  unfold most at hnl hml
  have HD := hid hd
  have HN := hid hd.hn
  clear hd
  go_enter Tryd.func19, Tryd.ntmps19
  go_wp2
  go_loopw [3, 4] (fun x y wr => ∃ (s k : Nat), x = .int .i64 s ∧ y = .int .i64 k ∧ k ≤ n ∧ k ≤ 61 ∧ s ≤ (k + 2) * 17592186044416 ∧ Hid (SumI n m k s R) ∧ Hid (Below (w.heap.size + 1) (w.alloc (.cells #[.int .i64 c, .slice no n nc, .slice to m tc] 32)) wr)) (fun _ y _ => n - (intOf y).toNat)
  case atStart => exact ⟨n + m, 0, by go_num, rfl, Nat.zero_le _, by omega, by omega, ⟨by omega, by omega, fun j r hj => by omega⟩, box_self⟩
  case round =>
    obtain ⟨s, k, rfl, rfl, hk, hk2, hs, HI, HB⟩ := hrel
    obtain ⟨b0, b1, b2⟩ := box3 HB.out
    by_cases hlt : k < n
    · have i3 : (k : Int) < (n : Int) := by omega
      have i0 : (0 : Int) ≤ (k : Int) := by omega
      by_cases h60 : k ≤ 60
      · have i60 : (k : Int) ≤ 60 := by omega
        obtain ⟨row, a, co, cc, hr, rfl, ha, a0, _, hrl⟩ := (HD.out.boxed HB.out).row hlt
        obtain ⟨l, hl⟩ : ∃ l, l = row.length := ⟨_, rfl⟩
        rw [← hl] at a0 hrl
        unfold most at hrl
        have HI2 := hid (HI.out.next hr hl)
        clear hr hl ha
        go_wp2
        go_roundw
        case rel => exact ⟨s + l, k + 1, by go_num, by go_num, by omega, by omega, by omega, HI2, HB⟩
        case measure => simp [intOf]; omega
      · have i60 : ¬ (k : Int) ≤ 60 := by omega
        have g60 : (60 : Int) < (n : Int) := by omega
        go_wp2
        go_ret
        exact ⟨true, rfl, fun h => (by cases h), box_trans HB.out⟩
    · have i3 : ¬ (k : Int) < (n : Int) := by omega
      by_cases h60 : n ≤ 60
      · have g60 : ¬ (60 : Int) < (n : Int) := by omega
        by_cases h15 : s ≤ 1500
        · have g15 : ¬ (1500 : Int) < (s : Int) := by omega
          have HQ := hid (show n ≤ 60 ∧ m ≤ 1500 ∧ ∀ row ∈ R, row.length ≤ 1500 from ⟨h60, by have := HI.out.hm; omega, fun row hr => by
            obtain ⟨j, hj⟩ := List.mem_iff_getElem?.1 hr
            have := HI.out.row j row (by have := (List.getElem?_eq_some_iff.1 hj).1; have := HN.out; omega) hj
            omega⟩)
          go_wp2
          go_ret
          exact ⟨false, rfl, fun _ => HQ.out, box_trans HB.out⟩
        · have g15 : (1500 : Int) < (s : Int) := by omega
          go_wp2
          go_ret
          exact ⟨true, rfl, fun h => (by cases h), box_trans HB.out⟩
      · have g60 : (60 : Int) < (n : Int) := by omega
        go_wp2
        go_ret
        exact ⟨true, rfl, fun h => (by cases h), box_trans HB.out⟩
end Go.Proofs.YtkmcbhdjecpmjaaDoor
