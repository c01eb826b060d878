/- Where a place comes to: the program's Move and the document's say the same; the law's walk. -/
import Derived.Test.YtffbdnlfknomnaaDoorLiveRun7
import Derived.Test.YtffbdnlfknomnaaDoorWpRow
namespace Go.Proofs.YtffbdnlfknomnaaDoor
open Go.RowKit

/-- Where a place comes to. -/
def mv (a f t l : Int) (st : Bool) : Int := if t < f then a else if l < 0 then a else if a < f then a else if t < a then a - (t - f) + l else if st = true then f else f + l
/-- Within the law's bounds. -/
def Sml (x : Int) : Prop := -1099511627776 ≤ x ∧ x ≤ 1099511627776
set_option maxHeartbeats 1000000 in
theorem move_any (a f t l : Int) (st : Bool) (w : World) (ha : Sml a) (hf : Sml f) (ht : Sml t) (hl : l ≤ 1099511627776) :
    Calls Tryd.prog 22 #[.int .i64 a, .int .i64 f, .int .i64 t, .int .i64 l, .bool st] w fun e w' => e = .returned (.int .i64 (mv a f t l st)) ∧ w' = w := by
  obtain ⟨a1, a2⟩ := ha
  obtain ⟨f1, f2⟩ := hf
  obtain ⟨t1, t2⟩ := ht
  go_enter Tryd.func22, Tryd.ntmps22
  by_cases h1 : t < f
  · have HM := hid (show mv a f t l st = a by unfold mv; rw [if_pos h1])
    go_wp2
    go_ret
    exact ⟨by rw [HM.out]; rfl, rfl⟩
  by_cases h2 : l < 0
  · have HM := hid (show mv a f t l st = a by unfold mv; rw [if_neg h1, if_pos h2])
    go_wp2
    go_ret
    exact ⟨by rw [HM.out]; rfl, rfl⟩
  by_cases h3 : a < f
  · have HM := hid (show mv a f t l st = a by unfold mv; rw [if_neg h1, if_neg h2, if_pos h3])
    go_wp2
    go_ret
    exact ⟨by rw [HM.out]; rfl, rfl⟩
  by_cases h4 : t < a
  · have HM := hid (show mv a f t l st = a - (t - f) + l by unfold mv; rw [if_neg h1, if_neg h2, if_neg h3, if_pos h4])
    go_wp2
    go_ret
    exact ⟨by rw [HM.out]; rfl, rfl⟩
  cases st with
  | true =>
    have HM := hid (show mv a f t l true = f by unfold mv; rw [if_neg h1, if_neg h2, if_neg h3, if_neg h4]; rfl)
    go_wp2
    go_ret
    exact ⟨by rw [HM.out]; rfl, rfl⟩
  | false =>
    have HM := hid (show mv a f t l false = f + l by unfold mv; rw [if_neg h1, if_neg h2, if_neg h3, if_neg h4]; rfl)
    go_wp2
    go_ret
    exact ⟨by rw [HM.out]; rfl, rfl⟩
set_option maxHeartbeats 1000000 in
theorem rmove_any (a f t l : Int) (st : Bool) (w : World) (ha : Sml a) (hf : Sml f) (ht : Sml t) (hl : l ≤ 1099511627776) :
    Calls Tryd.prog 23 #[.int .i64 a, .int .i64 f, .int .i64 t, .int .i64 l, .bool st] w fun e w' => e = .returned (.int .i64 (mv a f t l st)) ∧ w' = w := by
  obtain ⟨a1, a2⟩ := ha
  obtain ⟨f1, f2⟩ := hf
  obtain ⟨t1, t2⟩ := ht
  go_enter Tryd.func23, Tryd.ntmps23
  by_cases h1 : t < f
  · have HM := hid (show mv a f t l st = a by unfold mv; rw [if_pos h1])
    go_wp2
    go_ret
    exact ⟨by rw [HM.out]; rfl, rfl⟩
  by_cases h2 : l < 0
  · have HM := hid (show mv a f t l st = a by unfold mv; rw [if_neg h1, if_pos h2])
    go_wp2
    go_ret
    exact ⟨by rw [HM.out]; rfl, rfl⟩
  by_cases h3 : a < f
  · have HM := hid (show mv a f t l st = a by unfold mv; rw [if_neg h1, if_neg h2, if_pos h3])
    go_wp2
    go_ret
    exact ⟨by rw [HM.out]; rfl, rfl⟩
  by_cases h4 : t < a
  · have HM := hid (show mv a f t l st = a - (t - f) + l by unfold mv; rw [if_neg h1, if_neg h2, if_neg h3, if_pos h4])
    go_wp2
    go_ret
    exact ⟨by rw [HM.out]; rfl, rfl⟩
  cases st with
  | true =>
    have HM := hid (show mv a f t l true = f by unfold mv; rw [if_neg h1, if_neg h2, if_neg h3, if_neg h4]; rfl)
    go_wp2
    go_ret
    exact ⟨by rw [HM.out]; rfl, rfl⟩
  | false =>
    have HM := hid (show mv a f t l false = f + l by unfold mv; rw [if_neg h1, if_neg h2, if_neg h3, if_neg h4]; rfl)
    go_wp2
    go_ret
    exact ⟨by rw [HM.out]; rfl, rfl⟩
set_option maxHeartbeats 2000000 in
theorem move_main (a f t l : Int) (st : Bool) (w : World) (hw : Ev.Tbs tabs w) :
    Calls Tryd.prog 7 #[.int .i64 a, .int .i64 f, .int .i64 t, .int .i64 l, .bool st] w fun e w' => e = .returned (.bool true) ∧ Below w.heap.size w w' := by
  go_enter Tryd.func7, Tryd.ntmps7
  by_cases g1 : 1099511627776 < a
  · go_wp2_with fail
    refine (lives7 w hw).mono ?_
    rintro e w1 ⟨rfl, be⟩
    have HB := hid be
    clear be
    go_wp2
    go_ret
    exact ⟨rfl, HB.out⟩
  by_cases g2 : a < -1099511627776
  · go_wp2_with fail
    refine (lives7 w hw).mono ?_
    rintro e w1 ⟨rfl, be⟩
    have HB := hid be
    clear be
    go_wp2
    go_ret
    exact ⟨rfl, HB.out⟩
  by_cases g3 : 1099511627776 < f
  · go_wp2_with fail
    refine (lives7 w hw).mono ?_
    rintro e w1 ⟨rfl, be⟩
    have HB := hid be
    clear be
    go_wp2
    go_ret
    exact ⟨rfl, HB.out⟩
  by_cases g4 : f < -1099511627776
  · go_wp2_with fail
    refine (lives7 w hw).mono ?_
    rintro e w1 ⟨rfl, be⟩
    have HB := hid be
    clear be
    go_wp2
    go_ret
    exact ⟨rfl, HB.out⟩
  by_cases g5 : 1099511627776 < t
  · go_wp2_with fail
    refine (lives7 w hw).mono ?_
    rintro e w1 ⟨rfl, be⟩
    have HB := hid be
    clear be
    go_wp2
    go_ret
    exact ⟨rfl, HB.out⟩
  by_cases g6 : t < -1099511627776
  · go_wp2_with fail
    refine (lives7 w hw).mono ?_
    rintro e w1 ⟨rfl, be⟩
    have HB := hid be
    clear be
    go_wp2
    go_ret
    exact ⟨rfl, HB.out⟩
  by_cases g7 : 1099511627776 < l
  · go_wp2_with fail
    refine (lives7 w hw).mono ?_
    rintro e w1 ⟨rfl, be⟩
    have HB := hid be
    clear be
    go_wp2
    go_ret
    exact ⟨rfl, HB.out⟩
  have HA := hid (show Sml a by unfold Sml; omega)
  have HF := hid (show Sml f by unfold Sml; omega)
  have HT := hid (show Sml t by unfold Sml; omega)
  have hl : l ≤ 1099511627776 := by omega
  go_wp2_with fail
  refine (move_any a f t l st w HA.out HF.out HT.out hl).mono ?_
  rintro e w1 ⟨rfl, hw1⟩
  obtain rfl := hw1.symm
  clear hw1
  go_wp2_with fail
  refine (rmove_any a f t l st w HA.out HF.out HT.out hl).mono ?_
  rintro e w2 ⟨rfl, hw2⟩
  obtain rfl := hw2.symm
  clear hw2
  obtain ⟨z, hz⟩ : ∃ z, z = mv a f t l st := ⟨_, rfl⟩
  rw [← hz]
  clear hz
  go_wp2_with fail
  refine (lives7 _ hw).mono ?_
  rintro e w1 ⟨rfl, be⟩
  have HB := hid be
  clear be
  go_wp2
  go_ret
  exact ⟨rfl, HB.out⟩
end Go.Proofs.YtffbdnlfknomnaaDoor
