/- What the walks share: hidden facts, rows of numbers, and the contracts of Decode, Last, Count, begin and Is (package utf). -/
import Derived.Test.YtdcfflnjkjnodaaGreatDoorShelf
import Derived.Test.YtdcfflnjkjnodaaGreatDoorUMath
import Derived.Deep.AppendLies
import Derived.WalkKit
import Derived.WalkSpells
import Derived.WalkLawsBesides
import Derived.Deep.QuietTactic
import Derived.BigQuiet
import Derived.WalkSmall
namespace Go.Proofs.YtdcfflnjkjnodaaGreatDoor
open Go.RowKit

theorem hid {p : Prop} (h : p) : Hid p := h
theorem add_blk (a : Addr) (k : Nat) : (a.add k).block = a.block := by unfold Addr.add; split <;> rfl
theorem tabs_below {w w' : World} (h : Lib.Utf8Tabs 0 1 w) (hs : 2 ≤ w.heap.size) (hb : Below w.heap.size w w') : Lib.Utf8Tabs 0 1 w' :=
  ⟨fun c hc => (hb.cell (p := ⟨0, c, none⟩) (by show 0 < w.heap.size; omega)).trans (h.1 c hc), fun i hi => ⟨(hb.cell (p := ⟨1, 2 * i, none⟩) (by show 1 < w.heap.size; omega)).trans (h.2 i hi).1, (hb.cell (p := ⟨1, 2 * i + 1, none⟩) (by show 1 < w.heap.size; omega)).trans (h.2 i hi).2⟩⟩
set_option maxHeartbeats 400000 in
theorem decode_any (l : List UInt8) (w : World) (hT : Lib.Utf8Tabs 0 1 w) :
    Calls Tryz.prog 46 #[.string ⟨l.toArray⟩] w fun e w' => e = .returned (.tuple #[.int .i32 (dec l).1, .int .i64 (dec l).2]) ∧ Below w.heap.size w w' := by
  by_cases h : l = []
  · subst h
    go_enter Tryz.func46, Tryz.ntmps46
    go_wp2
    go_ret2
    exact ⟨rfl, Below.refl _ _⟩
  · have hd : dec l = Lib.decodeGo ⟨l.toArray⟩ := if_neg h
    rw [hd]
    have he : l.isEmpty = false := by simpa using h
    clear hd h
    have HT := hid hT
    clear hT
    go_enter Tryz.func46, Tryz.ntmps46
    go_wp2_with (go_at_call 64; refine (Tryz.utf8_DecodeRuneInString _ _ (by exact HT.out)).mono ?_; rintro e w1 ⟨rfl, hb⟩)
    go_ret2
    exact ⟨rfl, hb⟩
theorem decode_eq (s : ByteArray) (l : List UInt8) (w : World) (hs : s = ⟨l.toArray⟩) (hT : Lib.Utf8Tabs 0 1 w) :
    Calls Tryz.prog 46 #[.string s] w fun e w' => e = .returned (.tuple #[.int .i32 (dec l).1, .int .i64 (dec l).2]) ∧ Below w.heap.size w w' := by
  subst hs
  exact decode_any l w hT
set_option maxHeartbeats 400000 in
theorem last_any (l : List UInt8) (w : World) (hl : l.length ≤ 9223372036854775807) (hT : Lib.Utf8Tabs 0 1 w) :
    Calls Tryz.prog 73 #[.string ⟨l.toArray⟩] w fun e w' => e = .returned (.tuple #[.int .i32 (decLast l).1, .int .i64 (decLast l).2]) ∧ Below w.heap.size w w' := by
  by_cases h : l = []
  · subst h
    go_enter Tryz.func73, Tryz.ntmps73
    go_wp2
    go_ret2
    exact ⟨rfl, Below.refl _ _⟩
  · have hd : decLast l = Lib.decodeLastL l := if_neg h
    rw [hd]
    have he : l.isEmpty = false := by simpa using h
    clear hd h
    have HT := hid hT
    have hs' : (⟨l.toArray⟩ : ByteArray).size ≤ 9223372036854775807 := by show l.toArray.size ≤ _; simpa using hl
    have HS := hid hs'
    clear hT hs'
    go_enter Tryz.func73, Tryz.ntmps73
    go_wp2_with (go_at_call 92; refine (Tryz.utf8_DecodeLastRuneInString ⟨l.toArray⟩ _ HS.out (by exact HT.out)).mono ?_; rintro e w1 ⟨rfl, hb⟩)
    go_ret2
    exact ⟨rfl, hb⟩
end Go.Proofs.YtdcfflnjkjnodaaGreatDoor
