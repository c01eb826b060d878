/- PtSePs: parts of the proof, joined. -/
import Derived.Test.YtdpohgoikbeplaaGreatDoorUPtRunSe1
import Derived.Test.YtdpohgoikbeplaaGreatDoorUPtRunSe2
import Derived.Test.YtdpohgoikbeplaaGreatDoorUPtRunSe3
import Derived.Test.YtdpohgoikbeplaaGreatDoorUPtRunSe4
import Derived.Test.YtdpohgoikbeplaaGreatDoorUPtRunSe5
namespace Go.Proofs.YtdpohgoikbeplaaGreatDoor
open Ev Go.RowKit
namespace Pt
def snRt : List UInt8 := [67, 82, 32, 126, 32, 76, 70, 10, 40, 67, 82, 32, 124, 32, 76, 70, 32, 124, 32, 83, 101, 112, 41, 32, 47, 10, 126, 32, 69, 120, 116, 101, 110, 100, 10, 83, 116, 111, 112, 32, 69, 120, 116, 101, 110, 100, 42, 32, 126, 32, 68, 105, 103, 105, 116, 10, 40, 85, 112, 112, 101, 114, 32, 124, 32, 76, 111, 119, 101, 114, 41, 32, 69, 120, 116, 101, 110, 100, 42, 32, 83, 116, 111, 112, 32, 69, 120, 116, 101, 110, 100, 42, 32, 126, 32, 85, 112, 112, 101, 114, 10, 83, 116, 111, 112, 32, 69, 120, 116, 101, 110, 100, 42, 32, 40, 67, 108, 111, 115, 101, 32, 69, 120, 116, 101, 110, 100, 42, 41, 42, 32, 40, 83, 112, 32, 69, 120, 116, 101, 110, 100, 42, 41, 42, 32, 126, 32, 91, 94, 32, 76, 101, 116, 116, 101, 114, 32, 85, 112, 112, 101, 114, 32, 76, 111, 119, 101, 114, 32, 83, 101, 112, 32, 67, 82, 32, 76, 70, 32, 83, 116, 111, 112, 32, 84, 101, 114, 109, 93, 42, 32, 76, 111, 119, 101, 114, 10, 40, 83, 116, 111, 112, 32, 124, 32, 84, 101, 114, 109, 41, 32, 69, 120, 116, 101, 110, 100, 42, 32, 40, 67, 108, 111, 115, 101, 32, 69, 120, 116, 101, 110, 100, 42, 41, 42, 32, 40, 83, 112, 32, 69, 120, 116, 101, 110, 100, 42, 41, 42, 32, 126, 32, 40, 79, 110, 32, 124, 32, 83, 116, 111, 112, 32, 124, 32, 84, 101, 114, 109, 41, 10, 40, 83, 116, 111, 112, 32, 124, 32, 84, 101, 114, 109, 41, 32, 69, 120, 116, 101, 110, 100, 42, 32, 40, 67, 108, 111, 115, 101, 32, 69, 120, 116, 101, 110, 100, 42, 41, 42, 32, 126, 32, 40, 67, 108, 111, 115, 101, 32, 124, 32, 83, 112, 32, 124, 32, 83, 101, 112, 32, 124, 32, 67, 82, 32, 124, 32, 76, 70, 41, 10, 40, 83, 116, 111, 112, 32, 124, 32, 84, 101, 114, 109, 41, 32, 69, 120, 116, 101, 110, 100, 42, 32, 40, 67, 108, 111, 115, 101, 32, 69, 120, 116, 101, 110, 100, 42, 41, 42, 32, 40, 83, 112, 32, 69, 120, 116, 101, 110, 100, 42, 41, 42, 32, 126, 32, 40, 83, 112, 32, 124, 32, 83, 101, 112, 32, 124, 32, 67, 82, 32, 124, 32, 76, 70, 41, 10, 40, 83, 116, 111, 112, 32, 124, 32, 84, 101, 114, 109, 41, 32, 69, 120, 116, 101, 110, 100, 42, 32, 40, 67, 108, 111, 115, 101, 32, 69, 120, 116, 101, 110, 100, 42, 41, 42, 32, 40, 83, 112, 32, 69, 120, 116, 101, 110, 100, 42, 41, 42, 32, 47, 10, 114, 101, 115, 116, 32, 126, 10]
def snB5 : List UInt8 := [83, 116, 111, 112, 32, 69, 120, 116, 101, 110, 100, 42, 32, 40, 67, 108, 111, 115, 101, 32, 69, 120, 116, 101, 110, 100, 42, 41, 42, 32, 40, 83, 112, 32, 69, 120, 116, 101, 110, 100, 42, 41, 42, 32, 126, 32, 91, 94, 32, 76, 101, 116, 116, 101, 114, 32, 85, 112, 112, 101, 114, 32, 76, 111, 119, 101, 114, 32, 83, 101, 112, 32, 67, 82, 32, 76, 70, 32, 83, 116, 111, 112, 32, 84, 101, 114, 109, 93, 42, 32, 76, 111, 119, 101, 114]
def snB8 : List UInt8 := [40, 83, 116, 111, 112, 32, 124, 32, 84, 101, 114, 109, 41, 32, 69, 120, 116, 101, 110, 100, 42, 32, 40, 67, 108, 111, 115, 101, 32, 69, 120, 116, 101, 110, 100, 42, 41, 42, 32, 40, 83, 112, 32, 69, 120, 116, 101, 110, 100, 42, 41, 42, 32, 126, 32, 40, 83, 112, 32, 124, 32, 83, 101, 112, 32, 124, 32, 67, 82, 32, 124, 32, 76, 70, 41]
def snB6 : List UInt8 := [40, 83, 116, 111, 112, 32, 124, 32, 84, 101, 114, 109, 41, 32, 69, 120, 116, 101, 110, 100, 42, 32, 40, 67, 108, 111, 115, 101, 32, 69, 120, 116, 101, 110, 100, 42, 41, 42, 32, 40, 83, 112, 32, 69, 120, 116, 101, 110, 100, 42, 41, 42, 32, 126, 32, 40, 79, 110, 32, 124, 32, 83, 116, 111, 112, 32, 124, 32, 84, 101, 114, 109, 41]
def snB7 : List UInt8 := [40, 83, 116, 111, 112, 32, 124, 32, 84, 101, 114, 109, 41, 32, 69, 120, 116, 101, 110, 100, 42, 32, 40, 67, 108, 111, 115, 101, 32, 69, 120, 116, 101, 110, 100, 42, 41, 42, 32, 126, 32, 40, 67, 108, 111, 115, 101, 32, 124, 32, 83, 112, 32, 124, 32, 83, 101, 112, 32, 124, 32, 67, 82, 32, 124, 32, 76, 70, 41]
def snB9 : List UInt8 := [40, 83, 116, 111, 112, 32, 124, 32, 84, 101, 114, 109, 41, 32, 69, 120, 116, 101, 110, 100, 42, 32, 40, 67, 108, 111, 115, 101, 32, 69, 120, 116, 101, 110, 100, 42, 41, 42, 32, 40, 83, 112, 32, 69, 120, 116, 101, 110, 100, 42, 41, 42, 32, 47]
def snB4 : List UInt8 := [40, 85, 112, 112, 101, 114, 32, 124, 32, 76, 111, 119, 101, 114, 41, 32, 69, 120, 116, 101, 110, 100, 42, 32, 83, 116, 111, 112, 32, 69, 120, 116, 101, 110, 100, 42, 32, 126, 32, 85, 112, 112, 101, 114]
def snB3 : List UInt8 := [83, 116, 111, 112, 32, 69, 120, 116, 101, 110, 100, 42, 32, 126, 32, 68, 105, 103, 105, 116]
def snB1 : List UInt8 := [40, 67, 82, 32, 124, 32, 76, 70, 32, 124, 32, 83, 101, 112, 41, 32, 47]
def snB2 : List UInt8 := [126, 32, 69, 120, 116, 101, 110, 100]
def snLs : List (List UInt8) := [
 [67, 82, 32, 126, 32, 76, 70],
 snB1,
 snB2,
 snB3,
 snB4,
 snB5,
 snB6,
 snB7,
 snB8,
 snB9,
 [114, 101, 115, 116, 32, 126],
 []]
theorem snLs_run : runC (evF Tryz.prog none7 1000000 (evDraw Tryz.prog none7) 60) [] 119 [.string ⟨snRt.toArray⟩] (chkL snLs) = true := by kernel_rfl
theorem sn_plof {f : FuncId} {a v : Value} (ha : flatL [a] = true) (h : runA Tryz.prog none7 1000000 60 [] f [a] v = true) : Pl1 f a v := fun W => closed_args mixed none7_ok rfl ha h W (fun x hx => by cases hx)
theorem snL0a : Pl1 141 (.string ⟨#[67, 82, 32, 126, 32, 76, 70]⟩) (.string ⟨#[67, 82, 32, 126, 32, 76, 70]⟩) := sn_plof rfl (by kernel_rfl)
theorem snL0b : Pl1 142 (.string ⟨#[67, 82, 32, 126, 32, 76, 70]⟩) (.int .i64 3) := sn_plof rfl (by kernel_rfl)
theorem snL0c : Pl1 143 (.string ⟨#[67, 82, 32]⟩) (.string ⟨#[67, 82]⟩) := sn_plof rfl (by kernel_rfl)
theorem snL0d : Pl1 143 (.string ⟨#[32, 76, 70]⟩) (.string ⟨#[76, 70]⟩) := sn_plof rfl (by kernel_rfl)
theorem snL1a : Pl1 141 (.string ⟨snB1.toArray⟩) (.string ⟨snB1.toArray⟩) := sn_plof rfl (by kernel_rfl)
theorem snL1b : Pl1 142 (.string ⟨snB1.toArray⟩) (.int .i64 16) := sn_plof rfl (by kernel_rfl)
theorem snL1c : Pl1 143 (.string ⟨#[40, 67, 82, 32, 124, 32, 76, 70, 32, 124, 32, 83, 101, 112, 41, 32]⟩) (.string ⟨#[40, 67, 82, 32, 124, 32, 76, 70, 32, 124, 32, 83, 101, 112, 41]⟩) := sn_plof rfl (by kernel_rfl)
theorem snL1d : Pl1 143 (.string ⟨#[]⟩) (.string ⟨#[]⟩) := sn_plof rfl (by kernel_rfl)
theorem snL2a : Pl1 141 (.string ⟨snB2.toArray⟩) (.string ⟨snB2.toArray⟩) := sn_plof rfl (by kernel_rfl)
theorem snL2b : Pl1 142 (.string ⟨snB2.toArray⟩) (.int .i64 0) := sn_plof rfl (by kernel_rfl)
theorem snL2c : Pl1 143 (.string ⟨#[]⟩) (.string ⟨#[]⟩) := sn_plof rfl (by kernel_rfl)
theorem snL2d : Pl1 143 (.string ⟨#[32, 69, 120, 116, 101, 110, 100]⟩) (.string ⟨#[69, 120, 116, 101, 110, 100]⟩) := sn_plof rfl (by kernel_rfl)
theorem snL3a : Pl1 141 (.string ⟨snB3.toArray⟩) (.string ⟨snB3.toArray⟩) := sn_plof rfl (by kernel_rfl)
theorem snL3b : Pl1 142 (.string ⟨snB3.toArray⟩) (.int .i64 13) := sn_plof rfl (by kernel_rfl)
theorem snL3c : Pl1 143 (.string ⟨#[83, 116, 111, 112, 32, 69, 120, 116, 101, 110, 100, 42, 32]⟩) (.string ⟨#[83, 116, 111, 112, 32, 69, 120, 116, 101, 110, 100, 42]⟩) := sn_plof rfl (by kernel_rfl)
theorem snL3d : Pl1 143 (.string ⟨#[32, 68, 105, 103, 105, 116]⟩) (.string ⟨#[68, 105, 103, 105, 116]⟩) := sn_plof rfl (by kernel_rfl)
theorem snL4a : Pl1 141 (.string ⟨snB4.toArray⟩) (.string ⟨snB4.toArray⟩) := sn_plof rfl (by kernel_rfl)
theorem snL4b : Pl1 142 (.string ⟨snB4.toArray⟩) (.int .i64 37) := sn_plof rfl (by kernel_rfl)
theorem snL4c : Pl1 143 (.string ⟨#[40, 85, 112, 112, 101, 114, 32, 124, 32, 76, 111, 119, 101, 114, 41, 32, 69, 120, 116, 101, 110, 100, 42, 32, 83, 116, 111, 112, 32, 69, 120, 116, 101, 110, 100, 42, 32]⟩) (.string ⟨#[40, 85, 112, 112, 101, 114, 32, 124, 32, 76, 111, 119, 101, 114, 41, 32, 69, 120, 116, 101, 110, 100, 42, 32, 83, 116, 111, 112, 32, 69, 120, 116, 101, 110, 100, 42]⟩) := sn_plof rfl (by kernel_rfl)
theorem snL4d : Pl1 143 (.string ⟨#[32, 85, 112, 112, 101, 114]⟩) (.string ⟨#[85, 112, 112, 101, 114]⟩) := sn_plof rfl (by kernel_rfl)
theorem snL5a : Pl1 141 (.string ⟨snB5.toArray⟩) (.string ⟨snB5.toArray⟩) := sn_plof rfl (by kernel_rfl)
theorem snL5b : Pl1 142 (.string ⟨snB5.toArray⟩) (.int .i64 44) := sn_plof rfl (by kernel_rfl)
theorem snL5c : Pl1 143 (.string ⟨#[83, 116, 111, 112, 32, 69, 120, 116, 101, 110, 100, 42, 32, 40, 67, 108, 111, 115, 101, 32, 69, 120, 116, 101, 110, 100, 42, 41, 42, 32, 40, 83, 112, 32, 69, 120, 116, 101, 110, 100, 42, 41, 42, 32]⟩) (.string ⟨#[83, 116, 111, 112, 32, 69, 120, 116, 101, 110, 100, 42, 32, 40, 67, 108, 111, 115, 101, 32, 69, 120, 116, 101, 110, 100, 42, 41, 42, 32, 40, 83, 112, 32, 69, 120, 116, 101, 110, 100, 42, 41, 42]⟩) := sn_plof rfl (by kernel_rfl)
theorem snL5d : Pl1 143 (.string ⟨#[32, 91, 94, 32, 76, 101, 116, 116, 101, 114, 32, 85, 112, 112, 101, 114, 32, 76, 111, 119, 101, 114, 32, 83, 101, 112, 32, 67, 82, 32, 76, 70, 32, 83, 116, 111, 112, 32, 84, 101, 114, 109, 93, 42, 32, 76, 111, 119, 101, 114]⟩) (.string ⟨#[91, 94, 32, 76, 101, 116, 116, 101, 114, 32, 85, 112, 112, 101, 114, 32, 76, 111, 119, 101, 114, 32, 83, 101, 112, 32, 67, 82, 32, 76, 70, 32, 83, 116, 111, 112, 32, 84, 101, 114, 109, 93, 42, 32, 76, 111, 119, 101, 114]⟩) := sn_plof rfl (by kernel_rfl)
theorem snL6a : Pl1 141 (.string ⟨snB6.toArray⟩) (.string ⟨snB6.toArray⟩) := sn_plof rfl (by kernel_rfl)
theorem snL6b : Pl1 142 (.string ⟨snB6.toArray⟩) (.int .i64 53) := sn_plof rfl (by kernel_rfl)
theorem snL6c : Pl1 143 (.string ⟨#[40, 83, 116, 111, 112, 32, 124, 32, 84, 101, 114, 109, 41, 32, 69, 120, 116, 101, 110, 100, 42, 32, 40, 67, 108, 111, 115, 101, 32, 69, 120, 116, 101, 110, 100, 42, 41, 42, 32, 40, 83, 112, 32, 69, 120, 116, 101, 110, 100, 42, 41, 42, 32]⟩) (.string ⟨#[40, 83, 116, 111, 112, 32, 124, 32, 84, 101, 114, 109, 41, 32, 69, 120, 116, 101, 110, 100, 42, 32, 40, 67, 108, 111, 115, 101, 32, 69, 120, 116, 101, 110, 100, 42, 41, 42, 32, 40, 83, 112, 32, 69, 120, 116, 101, 110, 100, 42, 41, 42]⟩) := sn_plof rfl (by kernel_rfl)
theorem snL6d : Pl1 143 (.string ⟨#[32, 40, 79, 110, 32, 124, 32, 83, 116, 111, 112, 32, 124, 32, 84, 101, 114, 109, 41]⟩) (.string ⟨#[40, 79, 110, 32, 124, 32, 83, 116, 111, 112, 32, 124, 32, 84, 101, 114, 109, 41]⟩) := sn_plof rfl (by kernel_rfl)
theorem snL7a : Pl1 141 (.string ⟨snB7.toArray⟩) (.string ⟨snB7.toArray⟩) := sn_plof rfl (by kernel_rfl)
theorem snL7b : Pl1 142 (.string ⟨snB7.toArray⟩) (.int .i64 39) := sn_plof rfl (by kernel_rfl)
theorem snL7c : Pl1 143 (.string ⟨#[40, 83, 116, 111, 112, 32, 124, 32, 84, 101, 114, 109, 41, 32, 69, 120, 116, 101, 110, 100, 42, 32, 40, 67, 108, 111, 115, 101, 32, 69, 120, 116, 101, 110, 100, 42, 41, 42, 32]⟩) (.string ⟨#[40, 83, 116, 111, 112, 32, 124, 32, 84, 101, 114, 109, 41, 32, 69, 120, 116, 101, 110, 100, 42, 32, 40, 67, 108, 111, 115, 101, 32, 69, 120, 116, 101, 110, 100, 42, 41, 42]⟩) := sn_plof rfl (by kernel_rfl)
theorem snL7d : Pl1 143 (.string ⟨#[32, 40, 67, 108, 111, 115, 101, 32, 124, 32, 83, 112, 32, 124, 32, 83, 101, 112, 32, 124, 32, 67, 82, 32, 124, 32, 76, 70, 41]⟩) (.string ⟨#[40, 67, 108, 111, 115, 101, 32, 124, 32, 83, 112, 32, 124, 32, 83, 101, 112, 32, 124, 32, 67, 82, 32, 124, 32, 76, 70, 41]⟩) := sn_plof rfl (by kernel_rfl)
theorem snL8a : Pl1 141 (.string ⟨snB8.toArray⟩) (.string ⟨snB8.toArray⟩) := sn_plof rfl (by kernel_rfl)
theorem snL8b : Pl1 142 (.string ⟨snB8.toArray⟩) (.int .i64 53) := sn_plof rfl (by kernel_rfl)
theorem snL8c : Pl1 143 (.string ⟨#[40, 83, 116, 111, 112, 32, 124, 32, 84, 101, 114, 109, 41, 32, 69, 120, 116, 101, 110, 100, 42, 32, 40, 67, 108, 111, 115, 101, 32, 69, 120, 116, 101, 110, 100, 42, 41, 42, 32, 40, 83, 112, 32, 69, 120, 116, 101, 110, 100, 42, 41, 42, 32]⟩) (.string ⟨#[40, 83, 116, 111, 112, 32, 124, 32, 84, 101, 114, 109, 41, 32, 69, 120, 116, 101, 110, 100, 42, 32, 40, 67, 108, 111, 115, 101, 32, 69, 120, 116, 101, 110, 100, 42, 41, 42, 32, 40, 83, 112, 32, 69, 120, 116, 101, 110, 100, 42, 41, 42]⟩) := sn_plof rfl (by kernel_rfl)
theorem snL8d : Pl1 143 (.string ⟨#[32, 40, 83, 112, 32, 124, 32, 83, 101, 112, 32, 124, 32, 67, 82, 32, 124, 32, 76, 70, 41]⟩) (.string ⟨#[40, 83, 112, 32, 124, 32, 83, 101, 112, 32, 124, 32, 67, 82, 32, 124, 32, 76, 70, 41]⟩) := sn_plof rfl (by kernel_rfl)
theorem snL9a : Pl1 141 (.string ⟨snB9.toArray⟩) (.string ⟨snB9.toArray⟩) := sn_plof rfl (by kernel_rfl)
theorem snL9b : Pl1 142 (.string ⟨snB9.toArray⟩) (.int .i64 53) := sn_plof rfl (by kernel_rfl)
theorem snL9c : Pl1 143 (.string ⟨#[40, 83, 116, 111, 112, 32, 124, 32, 84, 101, 114, 109, 41, 32, 69, 120, 116, 101, 110, 100, 42, 32, 40, 67, 108, 111, 115, 101, 32, 69, 120, 116, 101, 110, 100, 42, 41, 42, 32, 40, 83, 112, 32, 69, 120, 116, 101, 110, 100, 42, 41, 42, 32]⟩) (.string ⟨#[40, 83, 116, 111, 112, 32, 124, 32, 84, 101, 114, 109, 41, 32, 69, 120, 116, 101, 110, 100, 42, 32, 40, 67, 108, 111, 115, 101, 32, 69, 120, 116, 101, 110, 100, 42, 41, 42, 32, 40, 83, 112, 32, 69, 120, 116, 101, 110, 100, 42, 41, 42]⟩) := sn_plof rfl (by kernel_rfl)
theorem snL9d : Pl1 143 (.string ⟨#[]⟩) (.string ⟨#[]⟩) := sn_plof rfl (by kernel_rfl)
theorem snL10a : Pl1 141 (.string ⟨#[114, 101, 115, 116, 32, 126]⟩) (.string ⟨#[114, 101, 115, 116, 32, 126]⟩) := sn_plof rfl (by kernel_rfl)
theorem snL10b : Pl1 142 (.string ⟨#[114, 101, 115, 116, 32, 126]⟩) (.int .i64 5) := sn_plof rfl (by kernel_rfl)
theorem snL10c : Pl1 143 (.string ⟨#[114, 101, 115, 116, 32]⟩) (.string ⟨#[114, 101, 115, 116]⟩) := sn_plof rfl (by kernel_rfl)
theorem snL10d : Pl1 143 (.string ⟨#[]⟩) (.string ⟨#[]⟩) := sn_plof rfl (by kernel_rfl)
theorem snL11a : Pl1 141 (.string ⟨#[]⟩) (.string ⟨#[]⟩) := sn_plof rfl (by kernel_rfl)
set_option maxHeartbeats 8000000 in
set_option maxRecDepth 100000 in
theorem sn_line (g nc : Nat) : ∀ (j : Nat) (s : List UInt8), snLs[j]? = some s -> ∀ (B X : Nat) (vo : Option Addr) (n vc : Nat) (xs : List Value) (W : World), RrAt B W X g nc snNm vo n vc (snRs.take j) xs (Nat.ble j 10) (Nat.blt 10 j) -> Calls Tryz.prog 120 #[.pointer (some ⟨X, 0, none⟩), .string ⟨s.toArray⟩] W (LnQ B W X g nc snNm (snRs.take (j + 1)) (Nat.ble (j + 1) 10) (Nat.blt 10 (j + 1))) := fun j s hj => match j, hj with
 | 0, hj => by
  cases hj
  intro B X vo n vc xs W h
  have hn : n <= 60 := by rw [h.hn]; exact Nat.le_trans (List.length_take_le _ _) (by decide)
  exact line_rule B X g nc snNm vo n vc _ xs true W [67, 82, 32, 126, 32, 76, 70] [67, 82, 32, 126, 32, 76, 70] [67, 82] [76, 70] 3 false snP0 snP1 h hn snL0a snL0b (by decide) (by decide) (by decide) (by decide) (show Pl1 _ (.string ((⟨#[67, 82, 32, 126, 32, 76, 70]⟩ : ByteArray).extract 0 3)) _ from (show ((⟨#[67, 82, 32, 126, 32, 76, 70]⟩ : ByteArray).extract 0 3) = ⟨#[67, 82, 32]⟩ by rfl) ▸ snL0c) (show Pl1 _ (.string ((⟨#[67, 82, 32, 126, 32, 76, 70]⟩ : ByteArray).extract 4 7)) _ from (show ((⟨#[67, 82, 32, 126, 32, 76, 70]⟩ : ByteArray).extract 4 7) = ⟨#[32, 76, 70]⟩ by rfl) ▸ snL0d) (by decide) (by decide) (by decide) (fun W hN => snP0_parse g nc W hN) (fun W hN => snP1_parse g nc W hN)
 | 1, hj => by
  cases hj
  intro B X vo n vc xs W h
  have hn : n <= 60 := by rw [h.hn]; exact Nat.le_trans (List.length_take_le _ _) (by decide)
  exact line_rule B X g nc snNm vo n vc _ xs true W snB1 snB1 [40, 67, 82, 32, 124, 32, 76, 70, 32, 124, 32, 83, 101, 112, 41] [] 16 true snP2 snP3 h hn snL1a snL1b (by decide) (by decide) (by decide) (by decide) (show Pl1 _ (.string ((⟨snB1.toArray⟩ : ByteArray).extract 0 16)) _ from (show ((⟨snB1.toArray⟩ : ByteArray).extract 0 16) = ⟨#[40, 67, 82, 32, 124, 32, 76, 70, 32, 124, 32, 83, 101, 112, 41, 32]⟩ by rfl) ▸ snL1c) (show Pl1 _ (.string ((⟨snB1.toArray⟩ : ByteArray).extract 17 17)) _ from (show ((⟨snB1.toArray⟩ : ByteArray).extract 17 17) = ⟨#[]⟩ by rfl) ▸ snL1d) (by decide) (by decide) (by decide) (fun W hN => snP2_parse g nc W hN) (fun W hN => snP3_parse g nc W hN)
 | 2, hj => by
  cases hj
  intro B X vo n vc xs W h
  have hn : n <= 60 := by rw [h.hn]; exact Nat.le_trans (List.length_take_le _ _) (by decide)
  exact line_rule B X g nc snNm vo n vc _ xs true W snB2 snB2 [] [69, 120, 116, 101, 110, 100] 0 false snP3 snP4 h hn snL2a snL2b (by decide) (by decide) (by decide) (by decide) (show Pl1 _ (.string ((⟨snB2.toArray⟩ : ByteArray).extract 0 0)) _ from (show ((⟨snB2.toArray⟩ : ByteArray).extract 0 0) = ⟨#[]⟩ by rfl) ▸ snL2c) (show Pl1 _ (.string ((⟨snB2.toArray⟩ : ByteArray).extract 1 8)) _ from (show ((⟨snB2.toArray⟩ : ByteArray).extract 1 8) = ⟨#[32, 69, 120, 116, 101, 110, 100]⟩ by rfl) ▸ snL2d) (by decide) (by decide) (by decide) (fun W hN => snP3_parse g nc W hN) (fun W hN => snP4_parse g nc W hN)
 | 3, hj => by
  cases hj
  intro B X vo n vc xs W h
  have hn : n <= 60 := by rw [h.hn]; exact Nat.le_trans (List.length_take_le _ _) (by decide)
  exact line_rule B X g nc snNm vo n vc _ xs true W snB3 snB3 [83, 116, 111, 112, 32, 69, 120, 116, 101, 110, 100, 42] [68, 105, 103, 105, 116] 13 false snP5 snP6 h hn snL3a snL3b (by decide) (by decide) (by decide) (by decide) (show Pl1 _ (.string ((⟨snB3.toArray⟩ : ByteArray).extract 0 13)) _ from (show ((⟨snB3.toArray⟩ : ByteArray).extract 0 13) = ⟨#[83, 116, 111, 112, 32, 69, 120, 116, 101, 110, 100, 42, 32]⟩ by rfl) ▸ snL3c) (show Pl1 _ (.string ((⟨snB3.toArray⟩ : ByteArray).extract 14 20)) _ from (show ((⟨snB3.toArray⟩ : ByteArray).extract 14 20) = ⟨#[32, 68, 105, 103, 105, 116]⟩ by rfl) ▸ snL3d) (by decide) (by decide) (by decide) (fun W hN => snP5_parse g nc W hN) (fun W hN => snP6_parse g nc W hN)
 | 4, hj => by
  cases hj
  intro B X vo n vc xs W h
  have hn : n <= 60 := by rw [h.hn]; exact Nat.le_trans (List.length_take_le _ _) (by decide)
  exact line_rule B X g nc snNm vo n vc _ xs true W snB4 snB4 [40, 85, 112, 112, 101, 114, 32, 124, 32, 76, 111, 119, 101, 114, 41, 32, 69, 120, 116, 101, 110, 100, 42, 32, 83, 116, 111, 112, 32, 69, 120, 116, 101, 110, 100, 42] [85, 112, 112, 101, 114] 37 false snP7 snP8 h hn snL4a snL4b (by decide) (by decide) (by decide) (by decide) (show Pl1 _ (.string ((⟨snB4.toArray⟩ : ByteArray).extract 0 37)) _ from (show ((⟨snB4.toArray⟩ : ByteArray).extract 0 37) = ⟨#[40, 85, 112, 112, 101, 114, 32, 124, 32, 76, 111, 119, 101, 114, 41, 32, 69, 120, 116, 101, 110, 100, 42, 32, 83, 116, 111, 112, 32, 69, 120, 116, 101, 110, 100, 42, 32]⟩ by rfl) ▸ snL4c) (show Pl1 _ (.string ((⟨snB4.toArray⟩ : ByteArray).extract 38 44)) _ from (show ((⟨snB4.toArray⟩ : ByteArray).extract 38 44) = ⟨#[32, 85, 112, 112, 101, 114]⟩ by rfl) ▸ snL4d) (by decide) (by decide) (by decide) (fun W hN => snP7_parse g nc W hN) (fun W hN => snP8_parse g nc W hN)
 | 5, hj => by
  cases hj
  intro B X vo n vc xs W h
  have hn : n <= 60 := by rw [h.hn]; exact Nat.le_trans (List.length_take_le _ _) (by decide)
  exact line_rule B X g nc snNm vo n vc _ xs true W snB5 snB5 [83, 116, 111, 112, 32, 69, 120, 116, 101, 110, 100, 42, 32, 40, 67, 108, 111, 115, 101, 32, 69, 120, 116, 101, 110, 100, 42, 41, 42, 32, 40, 83, 112, 32, 69, 120, 116, 101, 110, 100, 42, 41, 42] [91, 94, 32, 76, 101, 116, 116, 101, 114, 32, 85, 112, 112, 101, 114, 32, 76, 111, 119, 101, 114, 32, 83, 101, 112, 32, 67, 82, 32, 76, 70, 32, 83, 116, 111, 112, 32, 84, 101, 114, 109, 93, 42, 32, 76, 111, 119, 101, 114] 44 false snP9 snP10 h hn snL5a snL5b (by decide) (by decide) (by decide) (by decide) (show Pl1 _ (.string ((⟨snB5.toArray⟩ : ByteArray).extract 0 44)) _ from (show ((⟨snB5.toArray⟩ : ByteArray).extract 0 44) = ⟨#[83, 116, 111, 112, 32, 69, 120, 116, 101, 110, 100, 42, 32, 40, 67, 108, 111, 115, 101, 32, 69, 120, 116, 101, 110, 100, 42, 41, 42, 32, 40, 83, 112, 32, 69, 120, 116, 101, 110, 100, 42, 41, 42, 32]⟩ by rfl) ▸ snL5c) (show Pl1 _ (.string ((⟨snB5.toArray⟩ : ByteArray).extract 45 95)) _ from (show ((⟨snB5.toArray⟩ : ByteArray).extract 45 95) = ⟨#[32, 91, 94, 32, 76, 101, 116, 116, 101, 114, 32, 85, 112, 112, 101, 114, 32, 76, 111, 119, 101, 114, 32, 83, 101, 112, 32, 67, 82, 32, 76, 70, 32, 83, 116, 111, 112, 32, 84, 101, 114, 109, 93, 42, 32, 76, 111, 119, 101, 114]⟩ by rfl) ▸ snL5d) (by decide) (by decide) (by decide) (fun W hN => snP9_parse g nc W hN) (fun W hN => snP10_parse g nc W hN)
 | 6, hj => by
  cases hj
  intro B X vo n vc xs W h
  have hn : n <= 60 := by rw [h.hn]; exact Nat.le_trans (List.length_take_le _ _) (by decide)
  exact line_rule B X g nc snNm vo n vc _ xs true W snB6 snB6 [40, 83, 116, 111, 112, 32, 124, 32, 84, 101, 114, 109, 41, 32, 69, 120, 116, 101, 110, 100, 42, 32, 40, 67, 108, 111, 115, 101, 32, 69, 120, 116, 101, 110, 100, 42, 41, 42, 32, 40, 83, 112, 32, 69, 120, 116, 101, 110, 100, 42, 41, 42] [40, 79, 110, 32, 124, 32, 83, 116, 111, 112, 32, 124, 32, 84, 101, 114, 109, 41] 53 false snP11 snP12 h hn snL6a snL6b (by decide) (by decide) (by decide) (by decide) (show Pl1 _ (.string ((⟨snB6.toArray⟩ : ByteArray).extract 0 53)) _ from (show ((⟨snB6.toArray⟩ : ByteArray).extract 0 53) = ⟨#[40, 83, 116, 111, 112, 32, 124, 32, 84, 101, 114, 109, 41, 32, 69, 120, 116, 101, 110, 100, 42, 32, 40, 67, 108, 111, 115, 101, 32, 69, 120, 116, 101, 110, 100, 42, 41, 42, 32, 40, 83, 112, 32, 69, 120, 116, 101, 110, 100, 42, 41, 42, 32]⟩ by rfl) ▸ snL6c) (show Pl1 _ (.string ((⟨snB6.toArray⟩ : ByteArray).extract 54 73)) _ from (show ((⟨snB6.toArray⟩ : ByteArray).extract 54 73) = ⟨#[32, 40, 79, 110, 32, 124, 32, 83, 116, 111, 112, 32, 124, 32, 84, 101, 114, 109, 41]⟩ by rfl) ▸ snL6d) (by decide) (by decide) (by decide) (fun W hN => snP11_parse g nc W hN) (fun W hN => snP12_parse g nc W hN)
 | 7, hj => by
  cases hj
  intro B X vo n vc xs W h
  have hn : n <= 60 := by rw [h.hn]; exact Nat.le_trans (List.length_take_le _ _) (by decide)
  exact line_rule B X g nc snNm vo n vc _ xs true W snB7 snB7 [40, 83, 116, 111, 112, 32, 124, 32, 84, 101, 114, 109, 41, 32, 69, 120, 116, 101, 110, 100, 42, 32, 40, 67, 108, 111, 115, 101, 32, 69, 120, 116, 101, 110, 100, 42, 41, 42] [40, 67, 108, 111, 115, 101, 32, 124, 32, 83, 112, 32, 124, 32, 83, 101, 112, 32, 124, 32, 67, 82, 32, 124, 32, 76, 70, 41] 39 false snP13 snP14 h hn snL7a snL7b (by decide) (by decide) (by decide) (by decide) (show Pl1 _ (.string ((⟨snB7.toArray⟩ : ByteArray).extract 0 39)) _ from (show ((⟨snB7.toArray⟩ : ByteArray).extract 0 39) = ⟨#[40, 83, 116, 111, 112, 32, 124, 32, 84, 101, 114, 109, 41, 32, 69, 120, 116, 101, 110, 100, 42, 32, 40, 67, 108, 111, 115, 101, 32, 69, 120, 116, 101, 110, 100, 42, 41, 42, 32]⟩ by rfl) ▸ snL7c) (show Pl1 _ (.string ((⟨snB7.toArray⟩ : ByteArray).extract 40 69)) _ from (show ((⟨snB7.toArray⟩ : ByteArray).extract 40 69) = ⟨#[32, 40, 67, 108, 111, 115, 101, 32, 124, 32, 83, 112, 32, 124, 32, 83, 101, 112, 32, 124, 32, 67, 82, 32, 124, 32, 76, 70, 41]⟩ by rfl) ▸ snL7d) (by decide) (by decide) (by decide) (fun W hN => snP13_parse g nc W hN) (fun W hN => snP14_parse g nc W hN)
 | 8, hj => by
  cases hj
  intro B X vo n vc xs W h
  have hn : n <= 60 := by rw [h.hn]; exact Nat.le_trans (List.length_take_le _ _) (by decide)
  exact line_rule B X g nc snNm vo n vc _ xs true W snB8 snB8 [40, 83, 116, 111, 112, 32, 124, 32, 84, 101, 114, 109, 41, 32, 69, 120, 116, 101, 110, 100, 42, 32, 40, 67, 108, 111, 115, 101, 32, 69, 120, 116, 101, 110, 100, 42, 41, 42, 32, 40, 83, 112, 32, 69, 120, 116, 101, 110, 100, 42, 41, 42] [40, 83, 112, 32, 124, 32, 83, 101, 112, 32, 124, 32, 67, 82, 32, 124, 32, 76, 70, 41] 53 false snP11 snP15 h hn snL8a snL8b (by decide) (by decide) (by decide) (by decide) (show Pl1 _ (.string ((⟨snB8.toArray⟩ : ByteArray).extract 0 53)) _ from (show ((⟨snB8.toArray⟩ : ByteArray).extract 0 53) = ⟨#[40, 83, 116, 111, 112, 32, 124, 32, 84, 101, 114, 109, 41, 32, 69, 120, 116, 101, 110, 100, 42, 32, 40, 67, 108, 111, 115, 101, 32, 69, 120, 116, 101, 110, 100, 42, 41, 42, 32, 40, 83, 112, 32, 69, 120, 116, 101, 110, 100, 42, 41, 42, 32]⟩ by rfl) ▸ snL8c) (show Pl1 _ (.string ((⟨snB8.toArray⟩ : ByteArray).extract 54 75)) _ from (show ((⟨snB8.toArray⟩ : ByteArray).extract 54 75) = ⟨#[32, 40, 83, 112, 32, 124, 32, 83, 101, 112, 32, 124, 32, 67, 82, 32, 124, 32, 76, 70, 41]⟩ by rfl) ▸ snL8d) (by decide) (by decide) (by decide) (fun W hN => snP11_parse g nc W hN) (fun W hN => snP15_parse g nc W hN)
 | 9, hj => by
  cases hj
  intro B X vo n vc xs W h
  have hn : n <= 60 := by rw [h.hn]; exact Nat.le_trans (List.length_take_le _ _) (by decide)
  exact line_rule B X g nc snNm vo n vc _ xs true W snB9 snB9 [40, 83, 116, 111, 112, 32, 124, 32, 84, 101, 114, 109, 41, 32, 69, 120, 116, 101, 110, 100, 42, 32, 40, 67, 108, 111, 115, 101, 32, 69, 120, 116, 101, 110, 100, 42, 41, 42, 32, 40, 83, 112, 32, 69, 120, 116, 101, 110, 100, 42, 41, 42] [] 53 true snP11 snP3 h hn snL9a snL9b (by decide) (by decide) (by decide) (by decide) (show Pl1 _ (.string ((⟨snB9.toArray⟩ : ByteArray).extract 0 53)) _ from (show ((⟨snB9.toArray⟩ : ByteArray).extract 0 53) = ⟨#[40, 83, 116, 111, 112, 32, 124, 32, 84, 101, 114, 109, 41, 32, 69, 120, 116, 101, 110, 100, 42, 32, 40, 67, 108, 111, 115, 101, 32, 69, 120, 116, 101, 110, 100, 42, 41, 42, 32, 40, 83, 112, 32, 69, 120, 116, 101, 110, 100, 42, 41, 42, 32]⟩ by rfl) ▸ snL9c) (show Pl1 _ (.string ((⟨snB9.toArray⟩ : ByteArray).extract 54 54)) _ from (show ((⟨snB9.toArray⟩ : ByteArray).extract 54 54) = ⟨#[]⟩ by rfl) ▸ snL9d) (by decide) (by decide) (by decide) (fun W hN => snP11_parse g nc W hN) (fun W hN => snP3_parse g nc W hN)
 | 10, hj => by
  cases hj
  intro B X vo n vc xs W h
  exact line_rest B X g nc snNm vo n vc _ xs true W [114, 101, 115, 116, 32, 126] [114, 101, 115, 116, 32, 126] 5 false h snL10a snL10b (by decide) (by decide) (by decide) (show Pl1 _ (.string ((⟨#[114, 101, 115, 116, 32, 126]⟩ : ByteArray).extract 0 5)) _ from (show ((⟨#[114, 101, 115, 116, 32, 126]⟩ : ByteArray).extract 0 5) = ⟨#[114, 101, 115, 116, 32]⟩ by rfl) ▸ snL10c) (show Pl1 _ (.string ((⟨#[114, 101, 115, 116, 32, 126]⟩ : ByteArray).extract 6 6)) _ from (show ((⟨#[114, 101, 115, 116, 32, 126]⟩ : ByteArray).extract 6 6) = ⟨#[]⟩ by rfl) ▸ snL10d)
 | 11, hj => by
  cases hj
  exact fun B X vo n vc xs W h => line_blank B X g nc snNm vo n vc _ xs _ _ W [] h snL11a
 | j + 12, hj => by
  have := (List.getElem?_eq_some_iff.1 hj).1
  exact absurd this (by simp [snLs])
theorem sn_parse (g nc : Nat) (w : World) (hN : NmAt w g nc snNm) : Calls Tryz.prog 100 #[.string ⟨snRt.toArray⟩, .slice (some ⟨g, 0, none⟩) 14 nc] w (PrQ g w snRs false) := by
 have h := parse8_any snRt (Nat.le_of_ble_eq_true (by kernel_rfl)) snNm g nc snLs (fun j => snRs.take j) (fun j => (Nat.ble j 10)) (fun j => (Nat.blt 10 j)) w hN (by decide) rfl rfl rfl (fun W hW => names_of (evF_ok none7_ok (fun _ hc => evDraw_ok mixed none7_ok hc) 60) snNm_flat snNm_run g nc W hW) (fun W => lines_of (evF_ok none7_ok (fun _ hc => evDraw_ok mixed none7_ok hc) 60) snLs_run W) (sn_line g nc)
 exact h
end Pt
end Go.Proofs.YtdpohgoikbeplaaGreatDoor
