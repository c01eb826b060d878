/- WidthFits at every text and every Cells. -/
import Derived.Test.YtlfegdpclappiaaDoorFtWalk2
namespace Go.Proofs.YtlfegdpclappiaaDoor
open Go.RowKit Go.Shelf

set_option maxHeartbeats 2000000 in
theorem fits_main (l : List UInt8) (z a t s : Int) (w : World) (hl : l.length ≤ 281474976710656) (htb : Ev.Tbs tabs w) (ht : TbW w) :
    Calls Tryd.prog 6 #[.string ⟨l.toArray⟩, .int .i64 z, .agg #[.int .i64 a, .int .i64 t, .int .i64 s]] w fun e w' => e = .returned (.bool true) ∧ Below w.heap.size w w' := by
  have b1 := Boxed.new (w.alloc (.cells #[.int .i64 a, .int .i64 t, .int .i64 s] 36)) 4 (.bool false)
  have hB0 : Below w.heap.size w ((w.alloc (.cells #[.int .i64 a, .int .i64 t, .int .i64 s] 36)).alloc (.cells #[.bool false] 4)) := ((Below.refl _ _).alloc (Nat.le_refl _) _).alloc (by simp) _
  have hsz0 : ((w.alloc (.cells #[.int .i64 a, .int .i64 t, .int .i64 s] 36)).alloc (.cells #[.bool false] 4)).heap.size = w.heap.size + 2 := by simp
  rw [World.size_alloc] at b1
  by_cases hbig : 100 < l.length
  · have hbi : (100 : Int) < (l.length : Int) := by omega
    have HTB := hid (tbs_below htb hB0)
    have HB0 := hid hB0
    clear htb ht hB0
    go_enter Tryd.func6, Tryd.ntmps6
    go_wp2_with fail
    refine (lives_width _ HTB.out).mono ?_
    rintro e w2 ⟨rfl, be2⟩
    have w1 : Boxed w2 (w.heap.size + 1) 4 (.bool false) := (be2.block _ (by omega)).trans b1
    have HB2 := hid (HB0.out.trans (be2.mono HB0.out.size))
    have fw := w1.frozen
    have ew := w1.cell
    clear be2 b1 hsz0
    go_wp2
    have cz := (w1.set (.bool true)).cell
    refine bodyPost_ret (v := .bool true) (by simp [results, Tryd.f6, go_sem, cz]) rfl ?_
    exact ⟨rfl, HB2.out.setCell (p := ⟨w.heap.size + 1, 0, none⟩) (by simp) (.bool true)⟩
  by_cases hk : Okc a t s
  · exact callsIn_wide.1 (fits_in l z a t s w (by omega) htb ht hk)
  · have hbi : ¬ (100 : Int) < (l.length : Int) := by omega
    have HCK := hid (show chkE a t s = 2 by unfold chkE; rw [if_neg (fun h => hk ((okc_is a t s).1 h))])
    have HTB := hid (fun W (h : Below w.heap.size w W) => tbs_below htb h)
    have HB0 := hid hB0
    clear htb ht hB0 hk
    go_enter Tryd.func6, Tryd.ntmps6
    go_wp2_with fail
    refine (wcheck_any a t s _).mono ?_
    rintro e w1 ⟨rfl, be1⟩
    rw [HCK.out]
    have b11 : Boxed w1 (w.heap.size + 1) 4 (.bool false) := (be1.block _ (by omega)).trans b1
    have HB1 := hid (HB0.out.trans (be1.mono HB0.out.size))
    clear be1 b1 hsz0
    go_wp2_with fail
    refine (wnum_any 2 w1).mono ?_
    rintro e w2 ⟨rfl, hw2⟩
    obtain rfl := hw2.symm
    clear hw2
    go_wp2_with fail
    refine (lives_width _ (HTB.out _ HB1.out)).mono ?_
    rintro e w3 ⟨rfl, be3⟩
    have w1' : Boxed w3 (w.heap.size + 1) 4 (.bool false) := (be3.block _ b11.lt).trans b11
    have HB3 := hid (HB1.out.trans (be3.mono HB1.out.size))
    have fw := w1'.frozen
    have ew := w1'.cell
    clear be3 b11
    go_wp2
    have cz := (w1'.set (.bool true)).cell
    refine bodyPost_ret (v := .bool true) (by simp [results, Tryd.f6, go_sem, cz]) rfl ?_
    exact ⟨rfl, HB3.out.setCell (p := ⟨w.heap.size + 1, 0, none⟩) (by simp) (.bool true)⟩
end Go.Proofs.YtlfegdpclappiaaDoor
