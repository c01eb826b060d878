/- readForms at the lines of the table, worked out by the evaluator. -/
import Derived.Test.YtdcfflnjkjnodaaGreatDoorFoTab
import Derived.Test.YtdcfflnjkjnodaaGreatDoorLiveX
namespace Go.Proofs.YtdcfflnjkjnodaaGreatDoor
open Ev Go.RowKit
namespace Fo
def fT12 : Pl := ⟨58, [.string ⟨#[32, 100, 102, 32, 59, 32, 49, 101, 57, 101, 32, 59, 32, 49, 101, 57, 101, 32, 59, 32, 55, 51, 32, 55, 51, 10]⟩], fv ([223], [7838], [7838], [115, 115])⟩
theorem form12 : runA Tryz.prog same7 1000000 60 tabs fT12.f fT12.args fT12.v = true := by kernel_rfl
theorem form12_ok : PlOK Tryz.prog tabs fT12 := ⟨rfl, by kernel_rfl, fun w hw => closed_args mixed same7_ok tabs_ok rfl form12 w hw⟩
def fT13 : Pl := ⟨58, [.string ⟨#[32, 102, 98, 48, 48, 32, 59, 32, 52, 54, 32, 52, 54, 32, 59, 32, 52, 54, 32, 54, 54, 32, 59, 32, 54, 54, 32, 54, 54, 10]⟩], fv ([64256], [70, 70], [70, 102], [102, 102])⟩
theorem form13 : runA Tryz.prog same7 1000000 60 tabs fT13.f fT13.args fT13.v = true := by kernel_rfl
theorem form13_ok : PlOK Tryz.prog tabs fT13 := ⟨rfl, by kernel_rfl, fun w hw => closed_args mixed same7_ok tabs_ok rfl form13 w hw⟩
def fT14 : Pl := ⟨58, [.string ⟨#[32, 102, 98, 48, 49, 32, 59, 32, 52, 54, 32, 52, 57, 32, 59, 32, 52, 54, 32, 54, 57, 32, 59, 32, 54, 54, 32, 54, 57, 10]⟩], fv ([64257], [70, 73], [70, 105], [102, 105])⟩
theorem form14 : runA Tryz.prog same7 1000000 60 tabs fT14.f fT14.args fT14.v = true := by kernel_rfl
theorem form14_ok : PlOK Tryz.prog tabs fT14 := ⟨rfl, by kernel_rfl, fun w hw => closed_args mixed same7_ok tabs_ok rfl form14 w hw⟩
def fT15 : Pl := ⟨58, [.string ⟨#[32, 102, 98, 48, 50, 32, 59, 32, 52, 54, 32, 52, 99, 32, 59, 32, 52, 54, 32, 54, 99, 32, 59, 32, 54, 54, 32, 54, 99, 10]⟩], fv ([64258], [70, 76], [70, 108], [102, 108])⟩
theorem form15 : runA Tryz.prog same7 1000000 60 tabs fT15.f fT15.args fT15.v = true := by kernel_rfl
theorem form15_ok : PlOK Tryz.prog tabs fT15 := ⟨rfl, by kernel_rfl, fun w hw => closed_args mixed same7_ok tabs_ok rfl form15 w hw⟩
def fT16 : Pl := ⟨58, [.string ⟨#[32, 102, 98, 48, 51, 32, 59, 32, 52, 54, 32, 52, 54, 32, 52, 57, 32, 59, 32, 52, 54, 32, 54, 54, 32, 54, 57, 32, 59, 32, 54, 54, 32, 54, 54, 32, 54, 57, 10]⟩], fv ([64259], [70, 70, 73], [70, 102, 105], [102, 102, 105])⟩
theorem form16 : runA Tryz.prog same7 1000000 60 tabs fT16.f fT16.args fT16.v = true := by kernel_rfl
theorem form16_ok : PlOK Tryz.prog tabs fT16 := ⟨rfl, by kernel_rfl, fun w hw => closed_args mixed same7_ok tabs_ok rfl form16 w hw⟩
end Fo
end Go.Proofs.YtdcfflnjkjnodaaGreatDoor
