/- NfaChecks: the walk. -/
import Derived.Test.YtbabidhhdfakjaaDoorRCheck
import Derived.Test.YtbabidhhdfakjaaDoorWide
import Derived.Test.YtbabidhhdfakjaaDoorLiveRun
namespace Go.Proofs.YtbabidhhdfakjaaDoor
open Go.RowKit

theorem num_any (e : Int) (w : World) : Calls Tryd.prog 14 #[.int .i64 e] w fun r w' => r = .returned (.int .i64 e) ∧ w' = w := by
  go_enter Tryd.func14, Tryd.ntmps14
  go_wp2
  go_ret
  exact ⟨rfl, rfl⟩
/-- The table of package bits lies where it lay. -/
def Tb (w : World) : Prop := ∃ c : Array Value, w.heap[0]? = some (.cells c 145) ∧ c.toList = Ev.tab
theorem Tb.keep {w w' : World} {B : Nat} (h : Tb w) (hb : Below B w w') (hB : 0 < B) : Tb w' := by
  obtain ⟨c, h1, h2⟩ := h
  exact ⟨c, (hb.block 0 hB).trans h1, h2⟩
theorem Tb.pos {w : World} (h : Tb w) : 0 < w.heap.size := by
  obtain ⟨c, h1, _⟩ := h
  exact (Array.getElem?_eq_some_iff.1 h1).1
theorem live_tb {w : World} (h : Tb w) : Calls Tryd.prog 17 #[] w fun e w' => e = .returned (.bool true) ∧ Below w.heap.size w w' := by
  obtain ⟨c, h1, h2⟩ := h
  exact live_any w h1 h2
set_option maxHeartbeats 1000000 in
theorem checks_walk (so : Option Addr) (sc n : Nat) (L : List St) (s f : Int) (w : World) (hn : n = L.length) (hs : RdS w so L) (hl : n ≤ most) (ht : Tb w) :
    Calls Tryd.prog 5 #[.agg #[.slice so n sc, .int .i64 s, .int .i64 f]] w fun e w' => e = .returned (.bool true) ∧ Below w.heap.size w w' := by
  have HL := hid hl
  have HN := hid hn
  have HS := hid hs
  have HTB := hid ht
  have hp := ht.pos
  unfold most at hl
  clear hn hs ht
  rcases bool_cases (wdb L) with hW | hW
  · by_cases hm : n ≤ 4096
    · have hm' : (n : Int) ≤ 4096 := by omega
      go_enter Tryd.func5, Tryd.ntmps5
      go_wp2_with (first | (go_at_call 18; refine (wide_any _ _ _ L _ _ _ HN.out (HS.out.below below_box) HL.out).mono ?_; rintro e w1 ⟨rfl, hb1⟩; obtain ⟨c0, _, _⟩ := box3 (by simpa using hb1); have HB1 := hid (box_trans (by simpa using hb1)); clear hb1) | (go_at_call 17; refine (live_tb (HTB.out.keep HB1.out hp)).mono ?_; rintro e w2 ⟨rfl, hb2⟩))
      go_ret
      exact ⟨rfl, HB1.out.trans (hb2.mono HB1.out.size)⟩
    · have hm' : ¬ (n : Int) ≤ 4096 := by omega
      go_enter Tryd.func5, Tryd.ntmps5
      go_wp2_with (first | (go_at_call 18; refine (wide_any _ _ _ L _ _ _ HN.out (HS.out.below below_box) HL.out).mono ?_; rintro e w1 ⟨rfl, hb1⟩; obtain ⟨c0, c1, c2⟩ := box3 (by simpa using hb1); have HB1 := hid (box_trans (by simpa using hb1)); have HP1 := hid (by simpa using hb1.size : w.heap.size + 1 ≤ w1.heap.size); clear hb1) | (go_at_call 24; refine (check_any _ _ _ L _ _ _ HN.out (HS.out.below HB1.out) HL.out).mono ?_; rintro e w2 ⟨rfl, hb2⟩; have HB2 := hid (HB1.out.trans (hb2.mono HB1.out.size)); have c0' : w2.cell? ⟨w.heap.size, 0, none⟩ = some (.slice so n sc) := (hb2.cell (p := ⟨w.heap.size, 0, none⟩) HP1.out).trans c0; have c1' : w2.cell? ⟨w.heap.size, 1, none⟩ = some (.int .i64 s) := (hb2.cell (p := ⟨w.heap.size, 1, none⟩) HP1.out).trans c1; have c2' : w2.cell? ⟨w.heap.size, 2, none⟩ = some (.int .i64 f) := (hb2.cell (p := ⟨w.heap.size, 2, none⟩) HP1.out).trans c2; clear hb2) | (go_at_call 25; refine (rcheck_any _ _ _ L _ _ _ HN.out (HS.out.below HB2.out) HL.out).mono ?_; rintro e w3 ⟨rfl, hb3⟩; have HB3 := hid (HB2.out.trans (hb3.mono HB2.out.size)); clear hb3) | (go_at_call 14; refine (num_any _ _).mono ?_; rintro e w4 ⟨rfl, rfl⟩) | (go_at_call 17; refine (live_tb (HTB.out.keep HB3.out hp)).mono ?_; rintro e w5 ⟨rfl, hb5⟩))
      go_ret
      exact ⟨rfl, HB3.out.trans (hb5.mono HB3.out.size)⟩
  · go_enter Tryd.func5, Tryd.ntmps5
    go_wp2_with (first | (go_at_call 18; refine (wide_any _ _ _ L _ _ _ HN.out (HS.out.below below_box) HL.out).mono ?_; rintro e w1 ⟨rfl, hb1⟩; obtain ⟨c0, c1, c2⟩ := box3 (by simpa using hb1); have HB1 := hid (box_trans (by simpa using hb1)); have HP1 := hid (by simpa using hb1.size : w.heap.size + 1 ≤ w1.heap.size); clear hb1) | (go_at_call 24; refine (check_any _ _ _ L _ _ _ HN.out (HS.out.below HB1.out) HL.out).mono ?_; rintro e w2 ⟨rfl, hb2⟩; have HB2 := hid (HB1.out.trans (hb2.mono HB1.out.size)); have c0' : w2.cell? ⟨w.heap.size, 0, none⟩ = some (.slice so n sc) := (hb2.cell (p := ⟨w.heap.size, 0, none⟩) HP1.out).trans c0; have c1' : w2.cell? ⟨w.heap.size, 1, none⟩ = some (.int .i64 s) := (hb2.cell (p := ⟨w.heap.size, 1, none⟩) HP1.out).trans c1; have c2' : w2.cell? ⟨w.heap.size, 2, none⟩ = some (.int .i64 f) := (hb2.cell (p := ⟨w.heap.size, 2, none⟩) HP1.out).trans c2; clear hb2) | (go_at_call 25; refine (rcheck_any _ _ _ L _ _ _ HN.out (HS.out.below HB2.out) HL.out).mono ?_; rintro e w3 ⟨rfl, hb3⟩; have HB3 := hid (HB2.out.trans (hb3.mono HB2.out.size)); clear hb3) | (go_at_call 14; refine (num_any _ _).mono ?_; rintro e w4 ⟨rfl, rfl⟩) | (go_at_call 17; refine (live_tb (HTB.out.keep HB3.out hp)).mono ?_; rintro e w5 ⟨rfl, hb5⟩))
    go_ret
    exact ⟨rfl, HB3.out.trans (hb5.mono HB3.out.size)⟩
end Go.Proofs.YtbabidhhdfakjaaDoor
