/- A new table and a new maker. -/
import Derived.Test.YtljlhlcoaajggaaMade0
namespace Go.Proofs.Ytljlhlcoaajggaa
open Go.RowKit

theorem size5 (w : World) : (sizeOf 5).run Try.prog w = .ok 1 w := by kernel_rfl
theorem size76 (w : World) : (sizeOf 76).run Try.prog w = .ok 8704 w := by kernel_rfl
theorem size77 (w : World) : (sizeOf 77).run Try.prog w = .ok 1 w := by kernel_rfl
theorem tbc_rest (fs : List Nat) (bv : Value) (a r : Nat) (hf : fs.length = 8704) : (tbc fs bv a).set 8705 (.int .u8 (r : Int)) = tbc fs bv r := by
  unfold tbc
  rw [List.set_append_right _ _ (by rw [u16n_len, hf]; decide), u16n_len, hf]
  rfl
/-- The cells of a new table. -/
def tb0 (r : Nat) : Array Value := (tbc (List.replicate 8704 0) (.slice none 0 0) r).toArray
theorem run_build79 (w : World) (r : Nat) : (Instr.build 79 #[(2, .int .u8 (r : Int))]).run Try.prog w = .ok (.agg (tb0 r)) w := by
  have hz : (Try.zeroCells79.setIfInBounds 8705 (.int .u8 (r : Int))) = tb0 r := by
    apply Array.toList_inj.1
    rw [Array.toList_setIfInBounds, cells79, tbc_rest _ _ _ _ List.length_replicate]
    rfl
  have hs : Try.zeroCells79.size = 8706 := by
    rw [← Array.length_toList, cells79]
    unfold tbc
    rw [List.length_append, u16n_len, List.length_replicate]
    rfl
  unfold Instr.build
  rw [Sem.run_bind, zero79 w, Result.andThen_ok]
  simp only []
  rw [Sem.run_bind, run_underlying Try.underlying79 w, Result.andThen_ok]
  dsimp only
  rw [Sem.run_bind]
  have hp : (Array.mapM (m := Sem) (fun (f : Field) => do pure (f.offset, ← sizeOf f.type)) #[{ name := "first", type := 76, offset := 0, embedded := false, tag := "", pkgPath := "kerf/table", byteOffset := 0 }, { name := "blocks", type := 77, offset := 8704, embedded := false, tag := "", pkgPath := "kerf/table", byteOffset := 17408 }, { name := "rest", type := 5, offset := 8705, embedded := false, tag := "", pkgPath := "kerf/table", byteOffset := 17432 }]).run Try.prog w = .ok #[(0, 8704), (8704, 1), (8705, 1)] w := by kernel_rfl
  rw [hp, Result.andThen_ok]
  have hfl : Instr.fill (fun x => (#[(0, 8704), (8704, 1), (8705, 1)] : Array (Nat × Nat))[x]?) (Value.agg Try.zeroCells79).cells [(2, Value.int IntKind.u8 (r : Int))] = some (tb0 r) := by
    unfold Instr.fill
    have e : (#[(0, 8704), (8704, 1), (8705, 1)] : Array (Nat × Nat))[2]? = some (8705, 1) := rfl
    rw [e]
    show (if ((Value.int IntKind.u8 (r : Int)).cells.size ≠ 1 || 8705 + (Value.int IntKind.u8 (r : Int)).cells.size > Try.zeroCells79.size) = true then none else _) = _
    have hc1 : (Value.int IntKind.u8 (r : Int)).cells = #[.int .u8 (r : Int)] := rfl
    rw [hc1, hs, if_neg (by simp)]
    rw [← hz]
    clear hz hs hp
    generalize Try.zeroCells79 = Z
    rfl
  rw [hfl]
  rfl
end Go.Proofs.Ytljlhlcoaajggaa
