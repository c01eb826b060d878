/- The contract of Runs (package runes). -/
import Derived.Test.YtfahbdlcokoghabGreatDoorRuns
namespace Go.Proofs.YtfahbdlcokoghabGreatDoor
open Go.RowKit

set_option maxHeartbeats 1000000 in
theorem runs_any (l : List UInt8) (ao : Option Addr) (ac : Nat) (g : List Rg) (w : World) (ha : RdR w ao g) (hg : g.length ≤ 100000) :
    Calls Tryz.prog 25 #[.string ⟨l.toArray⟩, .slice ao g.length ac] w fun e w' => ∃ (Bs Bl : Nat) (so : Option Addr) (sc : Nat), e = .returned (.func (.func 35) #[] #[.pointer (some ⟨Bs, 0, none⟩), .pointer (some ⟨Bl, 0, none⟩)]) ∧ RunsAt Bs Bl l so sc (nrm g) w' ∧ Below w.heap.size w w' := by
  have HA := hid ha
  clear ha
  go_enter Tryz.func25, Tryz.ntmps25
  have hb1 : Below w.heap.size w ((w.alloc (.cells #[.string ⟨l.toArray⟩] 9)).alloc (.cells #[.slice ao g.length ac] 22)) := ((Below.refl _ _).alloc (Nat.le_refl _) _).alloc (by simp) _
  have HN := hid (norm_any ao ac g _ (HA.out.below hb1) hg)
  have bS := (Boxed.new w 9 (.string ⟨l.toArray⟩)).alloc (.cells #[.slice ao g.length ac] 22)
  have bL := Boxed.new (w.alloc (.cells #[.string ⟨l.toArray⟩] 9)) 22 (.slice ao g.length ac)
  rw [World.size_alloc] at bL
  obtain ⟨w1, hw1⟩ : ∃ w1, w1 = (w.alloc (.cells #[.string ⟨l.toArray⟩] 9)).alloc (.cells #[.slice ao g.length ac] 22) := ⟨_, rfl⟩
  have hs1 : w1.heap.size = w.heap.size + 2 := by rw [hw1]; simp
  rw [← hw1] at hb1 HN bS bL
  go_wp2_with fail
  rw [← hw1]
  refine HN.out.mono ?_
  rintro e w2 ⟨v, rfl, o1, hB⟩
  have hsz2 := hB.size
  have hrow : ∃ (so : Option Addr) (sc : Nat), v = .slice so (nrm g).length sc ∧ RdR w2 so (nrm g) ∧ ∀ a : Addr, so = some a → w1.heap.size ≤ a.block ∧ a.block < w2.heap.size ∧ ∃ c fz, w2.heap[a.block]? = some (.cells c 33 fz) := by
    obtain ⟨so, sc, hv, hrd⟩ := rdr_row o1
    refine ⟨so, sc, hv, hrd, fun a ea => ?_⟩
    rcases o1.2 with ⟨h1, _⟩ | ⟨gg, cap, cur, h1, h2, h3, _⟩
    · rw [hv, ea] at h1; cases h1
    · rw [hv, ea] at h1
      injection h1 with h1 _ _
      injection h1 with h1
      subst h1
      exact ⟨h2, (Array.getElem?_eq_some_iff.1 h3).1, _, _, h3⟩
  obtain ⟨so, sc, rfl, hrd, hrb⟩ := hrow
  have bS2 : Boxed w2 w.heap.size 9 (.string ⟨l.toArray⟩) := (hB.block w.heap.size (by omega)).trans bS
  have bL2 : Boxed w2 (w.heap.size + 1) 22 (.slice ao g.length ac) := (hB.block (w.heap.size + 1) (by omega)).trans bL
  have bL3 := bL2.set (.slice so (nrm g).length sc)
  have bS3 := bS2.other (B' := w.heap.size + 1) (by omega) (.slice so (nrm g).length sc)
  have hf := bL2.frozen
  have hc := bL2.cell
  have hB3 : Below w.heap.size w (w2.setCell ⟨w.heap.size + 1, 0, none⟩ (.slice so (nrm g).length sc)) := (hb1.trans (hB.mono (by omega))).setCell (p := ⟨w.heap.size + 1, 0, none⟩) (by show w.heap.size ≤ w.heap.size + 1; omega) _
  have HR := hid (show RunsAt w.heap.size (w.heap.size + 1) l so sc (nrm g) (w2.setCell ⟨w.heap.size + 1, 0, none⟩ (.slice so (nrm g).length sc)) from
    have hsz3 : (w2.setCell ⟨w.heap.size + 1, 0, none⟩ (.slice so (nrm g).length sc)).heap.size = w2.heap.size := by simp
    { bs := bS3
      bl := bL3
      row := fun a ea => by
        obtain ⟨r1, _, c, fz, r3⟩ := hrb a ea
        exact ⟨c, fz, (Below.heap_setCell w2 ⟨w.heap.size + 1, 0, none⟩ _ a.block (by show a.block ≠ w.heap.size + 1; omega)).trans r3⟩
      rd := fun k x hk => by
        obtain ⟨a, h1, h2, h3, h4⟩ := hrd k x hk
        have hab := hrb a h1
        have hoth : (w2.setCell ⟨w.heap.size + 1, 0, none⟩ (.slice so (nrm g).length sc)).heap[a.block]? = w2.heap[a.block]? := Below.heap_setCell w2 ⟨w.heap.size + 1, 0, none⟩ _ a.block (by show a.block ≠ w.heap.size + 1; omega)
        exact ⟨a, h1, by omega, (World.cell?_of_block (w := w2) (a := a.add (k * 2)) (by rw [add_blk]; exact hoth)).trans h3, (World.cell?_of_block (w := w2) (a := ⟨(a.add (k * 2)).block, (a.add (k * 2)).off + 1, none⟩) (by show _[(a.add (k * 2)).block]? = _[(a.add (k * 2)).block]?; rw [add_blk]; exact hoth)).trans h4⟩ })
  have HB3 := hid hB3
  clear hB3 bL3 bS3 bS2 bL2 bS bL hrd hrb o1 hB HN
  go_wp2
  go_ret
  exact ⟨_, _, so, sc, rfl, HR.out, HB3.out⟩
end Go.Proofs.YtfahbdlcokoghabGreatDoor

