/- The contracts of fault, Fed and NewScanner (package utf). -/
import Derived.Test.YtflehkdijfhmgabDoorLead
import Derived.Test.YtflehkdijfhmgabDoorJumps
namespace Go.Proofs.YtflehkdijfhmgabDoor
open Go.RowKit

theorem hid {p : Prop} (h : p) : Hid p := h

set_option maxHeartbeats 400000 in
theorem fault_any (p : Int) (w : World) :
    Calls Tryd.prog 30 #[.int .i64 p] w fun e w' => e = .returned (.agg #[.int .i64 p, .int .i64 1, .int .i32 65533, .bool true]) ∧ w' = w.alloc (.cells #[.int .i64 p, .int .i64 1, .int .i32 65533, .bool true] 50) := by
  go_enter Tryd.func30, Tryd.ntmps30
  go_wp2
  exact bodyPost_ret (v := .agg #[.int .i64 p, .int .i64 1, .int .i32 65533, .bool true]) (by simp [results, Tryd.results30, go_sem]) rfl ⟨rfl, rfl⟩

set_option maxHeartbeats 400000 in
theorem new_any (w : World) :
    Calls Tryd.prog 10 #[] w fun e w' => e = .returned (.pointer (some ⟨w.heap.size, 0, none⟩)) ∧ w' = w.alloc (.cells #[.int .u8 0, .int .u8 0, .int .u8 0, .int .i64 0, .int .i64 0] 56) := by
  go_enter Tryd.func10, Tryd.ntmps10
  go_wp2
  go_ret
  exact ⟨rfl, rfl⟩

set_option maxHeartbeats 400000 in
theorem fed_any (x o : Nat) (n : Int) (w : World) (hc : w.cell? ⟨x, o + 4, none⟩ = some (.int .i64 n)) :
    Calls Tryd.prog 15 #[.pointer (some ⟨x, o, none⟩)] w fun e w' => e = .returned (.int .i64 n) ∧ w' = w := by
  go_enter Tryd.func15, Tryd.ntmps15
  go_wp2
  go_ret
  exact ⟨rfl, rfl⟩
end Go.Proofs.YtflehkdijfhmgabDoor
