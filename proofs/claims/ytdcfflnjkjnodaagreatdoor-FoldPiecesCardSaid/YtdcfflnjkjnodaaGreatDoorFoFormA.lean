/- readForms at the lines of the table, worked out by the evaluator. -/
import Derived.Test.YtdcfflnjkjnodaaGreatDoorFoTab
import Derived.Test.YtdcfflnjkjnodaaGreatDoorLiveX
namespace Go.Proofs.YtdcfflnjkjnodaaGreatDoor
open Ev Go.RowKit
namespace Fo
def fT0 : Pl := ⟨58, [.string ⟨#[32, 100, 102, 32, 59, 32, 53, 51, 32, 53, 51, 32, 59, 32, 53, 51, 32, 55, 51, 32, 59, 32, 55, 51, 32, 55, 51, 10]⟩], fv ([223], [83, 83], [83, 115], [115, 115])⟩
theorem form0 : runA Tryz.prog same7 1000000 60 tabs fT0.f fT0.args fT0.v = true := by kernel_rfl
theorem form0_ok : PlOK Tryz.prog tabs fT0 := ⟨rfl, by kernel_rfl, fun w hw => closed_args mixed same7_ok tabs_ok rfl form0 w hw⟩
def fT1 : Pl := ⟨58, [.string ⟨#[32, 54, 57, 32, 51, 48, 55, 32, 59, 32, 49, 51, 48, 32, 59, 32, 49, 51, 48, 32, 59, 32, 54, 57, 32, 51, 48, 55, 10]⟩], fv ([105, 775], [304], [304], [105, 775])⟩
theorem form1 : runA Tryz.prog same7 1000000 60 tabs fT1.f fT1.args fT1.v = true := by kernel_rfl
theorem form1_ok : PlOK Tryz.prog tabs fT1 := ⟨rfl, by kernel_rfl, fun w hw => closed_args mixed same7_ok tabs_ok rfl form1 w hw⟩
def fT2 : Pl := ⟨58, [.string ⟨#[32, 49, 51, 49, 32, 59, 32, 52, 57, 32, 59, 32, 52, 57, 32, 59, 32, 49, 51, 49, 10]⟩], fv ([305], [73], [73], [305])⟩
theorem form2 : runA Tryz.prog same7 1000000 60 tabs fT2.f fT2.args fT2.v = true := by kernel_rfl
theorem form2_ok : PlOK Tryz.prog tabs fT2 := ⟨rfl, by kernel_rfl, fun w hw => closed_args mixed same7_ok tabs_ok rfl form2 w hw⟩
def fT3 : Pl := ⟨58, [.string ⟨#[32, 49, 52, 57, 32, 59, 32, 50, 98, 99, 32, 52, 101, 32, 59, 32, 50, 98, 99, 32, 52, 101, 32, 59, 32, 50, 98, 99, 32, 54, 101, 10]⟩], fv ([329], [700, 78], [700, 78], [700, 110])⟩
theorem form3 : runA Tryz.prog same7 1000000 60 tabs fT3.f fT3.args fT3.v = true := by kernel_rfl
theorem form3_ok : PlOK Tryz.prog tabs fT3 := ⟨rfl, by kernel_rfl, fun w hw => closed_args mixed same7_ok tabs_ok rfl form3 w hw⟩
def fT4 : Pl := ⟨58, [.string ⟨#[32, 49, 55, 102, 32, 59, 32, 53, 51, 32, 59, 32, 53, 51, 32, 59, 32, 55, 51, 10]⟩], fv ([383], [83], [83], [115])⟩
theorem form4 : runA Tryz.prog same7 1000000 60 tabs fT4.f fT4.args fT4.v = true := by kernel_rfl
theorem form4_ok : PlOK Tryz.prog tabs fT4 := ⟨rfl, by kernel_rfl, fun w hw => closed_args mixed same7_ok tabs_ok rfl form4 w hw⟩
def fT5 : Pl := ⟨58, [.string ⟨#[32, 49, 99, 54, 32, 59, 32, 49, 99, 52, 32, 59, 32, 49, 99, 53, 32, 59, 32, 49, 99, 54, 10]⟩], fv ([454], [452], [453], [454])⟩
theorem form5 : runA Tryz.prog same7 1000000 60 tabs fT5.f fT5.args fT5.v = true := by kernel_rfl
theorem form5_ok : PlOK Tryz.prog tabs fT5 := ⟨rfl, by kernel_rfl, fun w hw => closed_args mixed same7_ok tabs_ok rfl form5 w hw⟩
end Fo
end Go.Proofs.YtdcfflnjkjnodaaGreatDoor
