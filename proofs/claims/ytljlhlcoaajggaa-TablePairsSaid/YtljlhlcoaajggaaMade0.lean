/- The zero table, the zero maker. -/
import Derived.Test.YtljlhlcoaajggaaFill
namespace Go.Proofs.Ytljlhlcoaajggaa
open Go.RowKit

def z103 : List Value := .pointer none :: .map none :: (u8n (List.replicate 128 0) ++ [.int .i64 0])
theorem zero103 (w : World) : (zeroValue 103).run Try.prog w = .ok (.agg z103.toArray) w := by kernel_rfl
/-- Whether a list of cells is a zero table's. -/
def chz : Nat → List Value → Bool
  | 0, [.slice none 0 0, .int .u8 0] => true
  | n + 1, .int .u16 0 :: r => chz n r
  | _, _ => false
theorem chz_eq : ∀ (n : Nat) (l : List Value), chz n l = true → l = tbc (List.replicate n 0) (.slice none 0 0) 0
  | 0, l, h => by
    unfold chz at h
    split at h
    · rfl
    · rename_i heq; exact absurd heq (by omega)
    · cases h
  | n + 1, l, h => by
    unfold chz at h
    split at h
    · rename_i heq; exact absurd heq (by omega)
    · rename_i m r heq
      have e : n = m := Nat.succ.inj heq
      subst e
      rw [chz_eq n r h]
      rfl
    · cases h
theorem zero79 (w : World) : (zeroValue 79).run Try.prog w = .ok (.agg Try.zeroCells79) w := by kernel_rfl
theorem chz79 : chz 8704 Try.zeroCells79.toList = true := by kernel_rfl
theorem cells79 : Try.zeroCells79.toList = tbc (List.replicate 8704 0) (.slice none 0 0) 0 := chz_eq _ _ chz79
end Go.Proofs.Ytljlhlcoaajggaa
