/- SentenceWhole's walk at every text. -/
import Derived.Test.YtckifhlhechdlaaDoorSnWhole
namespace Go.Proofs.YtckifhlhechdlaaDoor
open Go.RowKit Go.Shelf
attribute [local go_sem] Oper.semAt_some

set_option maxHeartbeats 4000000 in
set_option maxRecDepth 100000 in
theorem whole_main (l : List UInt8) (w : World) (hls : l.length ≤ 281474976710656) (hw : Ev.Tbs tabs w) (ht : TbW w) :
    Calls Tryd.prog 3 #[.string ⟨l.toArray⟩] w fun e W' => e = .returned (.bool true) ∧ Below w.heap.size w W' := by
  by_cases hl : l.length ≤ 100
  · exact callsIn_wide.1 (whole_in l w hw ht hl)
  · have HW := hid hw
    have hli : (100 : Int) < (l.length : Int) := by omega
    have hA0 : Below w.heap.size w ((w.alloc (.cells #[.string ⟨l.toArray⟩] 9)).alloc (.cells #[.bool false] 4)) := ((Below.refl _ w).alloc (Nat.le_refl _) _).alloc (by simp) _
    have HA0 := hid hA0
    have HE1 := hid (show Boxed ((w.alloc (.cells #[.string ⟨l.toArray⟩] 9)).alloc (.cells #[.bool false] 4)) (w.heap.size + 1) 4 (.bool false) by
      have e1 := Boxed.new (w.alloc (.cells #[.string ⟨l.toArray⟩] 9)) 4 (.bool false)
      rw [World.size_alloc] at e1
      exact e1)
    clear hw ht hA0 hl
    refine callsIn_wide.1 (show CallsIn Fence.wide 9 Tryd.prog 3 #[.string ⟨l.toArray⟩] w _ from ?_)
    refine callsIn_of_wp_marks Tryd.func3 rfl trivial ?_ rfl
    simp only [Tryd.ntmps3, List.size_toArray, List.length_cons, List.length_nil, Nat.reduceAdd, Nat.reduceSub, Array.replicate_succ, Array.replicate_zero, List.push_toArray, List.append_toArray, List.nil_append, List.cons_append]
    gi_wp2_with fail
    refine ⟨trivial, (callsIn_wide.2 (lives_sent _ (tbs_below HW.out HA0.out))).mono ?_⟩
    rintro e w1 ⟨rfl, be⟩
    have hbx := boxed_below0 HE1.out be HE1.out.lt
    have cF := hbx.cell
    have fF := hbx.frozen
    have HB1 := hid (HA0.out.trans (be.mono HA0.out.size))
    clear be
    gi_wp2
    have hc5 := (hbx.set (.bool true)).cell
    have hbf : Below w.heap.size w (w1.setCell ⟨w.heap.size + 1, 0, none⟩ (.bool true)) := HB1.out.setCell (p := ⟨w.heap.size + 1, 0, none⟩) (by simp) _
    refine ⟨.bool true, ?_, rfl, hbf⟩
    simp [results, Tryd.f3, go_sem, hc5]
end Go.Proofs.YtckifhlhechdlaaDoor
