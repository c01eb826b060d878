/- The contracts of fault, Fed and NewScanner (package utf). -/
import Derived.Test.YtflehkdijfhmgaaDoorLead
import Derived.Test.YtflehkdijfhmgaaDoorJumps
namespace Go.Proofs.YtflehkdijfhmgaaDoor
open Go.RowKit

theorem hid {p : Prop} (h : p) : Hid p := h

set_option maxHeartbeats 400000 in
theorem fault_any (p : Int) (w : World) :
    Calls Tryd.prog 68 #[.int .i64 p] w fun e w' => e = .returned (.agg #[.int .i64 p, .int .i64 1, .int .i32 65533, .bool true]) ∧ w' = w.alloc (.cells #[.int .i64 p, .int .i64 1, .int .i32 65533, .bool true] 42) := by
  go_enter Tryd.func68, Tryd.ntmps68
  go_wp2
  exact bodyPost_ret (v := .agg #[.int .i64 p, .int .i64 1, .int .i32 65533, .bool true]) (by simp [results, Tryd.results68, go_sem]) rfl ⟨rfl, rfl⟩

set_option maxHeartbeats 400000 in
theorem new_any (w : World) :
    Calls Tryd.prog 41 #[] w fun e w' => e = .returned (.pointer (some ⟨w.heap.size, 0, none⟩)) ∧ w' = w.alloc (.cells #[.int .u8 0, .int .u8 0, .int .u8 0, .int .i64 0, .int .i64 0] 72) := by
  go_enter Tryd.func41, Tryd.ntmps41
  go_wp2
  go_ret
  exact ⟨rfl, rfl⟩

set_option maxHeartbeats 400000 in
theorem fed_any (x o : Nat) (n : Int) (w : World) (hc : w.cell? ⟨x, o + 4, none⟩ = some (.int .i64 n)) :
    Calls Tryd.prog 43 #[.pointer (some ⟨x, o, none⟩)] w fun e w' => e = .returned (.int .i64 n) ∧ w' = w := by
  go_enter Tryd.func43, Tryd.ntmps43
  go_wp2
  go_ret
  exact ⟨rfl, rfl⟩
end Go.Proofs.YtflehkdijfhmgaaDoor
