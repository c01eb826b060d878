/- readForms at the lines of the table, worked out by the evaluator. -/
import Derived.Test.YtdcfflnjkjnodaaGreatDoorFoTab
import Derived.Test.YtdcfflnjkjnodaaGreatDoorLiveX
namespace Go.Proofs.YtdcfflnjkjnodaaGreatDoor
open Ev Go.RowKit
namespace Fo
def fT6 : Pl := ⟨58, [.string ⟨#[32, 49, 99, 54, 32, 59, 32, 49, 99, 52, 32, 59, 32, 49, 99, 53, 32, 59, 32, 49, 99, 54, 10]⟩], fv ([454], [452], [453], [454])⟩
theorem form6 : runA Tryz.prog same7 1000000 60 tabs fT6.f fT6.args fT6.v = true := by kernel_rfl
theorem form6_ok : PlOK Tryz.prog tabs fT6 := ⟨rfl, by kernel_rfl, fun w hw => closed_args mixed same7_ok tabs_ok rfl form6 w hw⟩
def fT7 : Pl := ⟨58, [.string ⟨#[32, 49, 99, 54, 32, 59, 32, 49, 99, 52, 32, 59, 32, 49, 99, 53, 32, 59, 32, 49, 99, 54, 10]⟩], fv ([454], [452], [453], [454])⟩
theorem form7 : runA Tryz.prog same7 1000000 60 tabs fT7.f fT7.args fT7.v = true := by kernel_rfl
theorem form7_ok : PlOK Tryz.prog tabs fT7 := ⟨rfl, by kernel_rfl, fun w hw => closed_args mixed same7_ok tabs_ok rfl form7 w hw⟩
def fT8 : Pl := ⟨58, [.string ⟨#[32, 49, 102, 48, 32, 59, 32, 52, 97, 32, 51, 48, 99, 32, 59, 32, 52, 97, 32, 51, 48, 99, 32, 59, 32, 54, 97, 32, 51, 48, 99, 10]⟩], fv ([496], [74, 780], [74, 780], [106, 780])⟩
theorem form8 : runA Tryz.prog same7 1000000 60 tabs fT8.f fT8.args fT8.v = true := by kernel_rfl
theorem form8_ok : PlOK Tryz.prog tabs fT8 := ⟨rfl, by kernel_rfl, fun w hw => closed_args mixed same7_ok tabs_ok rfl form8 w hw⟩
def fT9 : Pl := ⟨58, [.string ⟨#[32, 51, 57, 48, 32, 59, 32, 51, 57, 57, 32, 51, 48, 56, 32, 51, 48, 49, 32, 59, 32, 51, 57, 57, 32, 51, 48, 56, 32, 51, 48, 49, 32, 59, 32, 51, 98, 57, 32, 51, 48, 56, 32, 51, 48, 49, 10]⟩], fv ([912], [921, 776, 769], [921, 776, 769], [953, 776, 769])⟩
theorem form9 : runA Tryz.prog same7 1000000 60 tabs fT9.f fT9.args fT9.v = true := by kernel_rfl
theorem form9_ok : PlOK Tryz.prog tabs fT9 := ⟨rfl, by kernel_rfl, fun w hw => closed_args mixed same7_ok tabs_ok rfl form9 w hw⟩
def fT10 : Pl := ⟨58, [.string ⟨#[32, 51, 99, 50, 32, 59, 32, 51, 97, 51, 32, 59, 32, 51, 97, 51, 32, 59, 32, 51, 99, 51, 10]⟩], fv ([962], [931], [931], [963])⟩
theorem form10 : runA Tryz.prog same7 1000000 60 tabs fT10.f fT10.args fT10.v = true := by kernel_rfl
theorem form10_ok : PlOK Tryz.prog tabs fT10 := ⟨rfl, by kernel_rfl, fun w hw => closed_args mixed same7_ok tabs_ok rfl form10 w hw⟩
def fT11 : Pl := ⟨58, [.string ⟨#[32, 53, 56, 55, 32, 59, 32, 53, 51, 53, 32, 53, 53, 50, 32, 59, 32, 53, 51, 53, 32, 53, 56, 50, 32, 59, 32, 53, 54, 53, 32, 53, 56, 50, 10]⟩], fv ([1415], [1333, 1362], [1333, 1410], [1381, 1410])⟩
theorem form11 : runA Tryz.prog same7 1000000 60 tabs fT11.f fT11.args fT11.v = true := by kernel_rfl
theorem form11_ok : PlOK Tryz.prog tabs fT11 := ⟨rfl, by kernel_rfl, fun w hw => closed_args mixed same7_ok tabs_ok rfl form11 w hw⟩
end Fo
end Go.Proofs.YtdcfflnjkjnodaaGreatDoor
