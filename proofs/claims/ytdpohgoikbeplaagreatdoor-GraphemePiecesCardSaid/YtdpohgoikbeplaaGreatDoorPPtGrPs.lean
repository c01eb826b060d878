/- PtGrPs: parts of the proof, joined. -/
import Derived.Test.YtdpohgoikbeplaaGreatDoorPPtRunGr1
import Derived.Test.YtdpohgoikbeplaaGreatDoorPPtRunGr2
import Derived.Test.YtdpohgoikbeplaaGreatDoorPPtRunGr3
import Derived.Test.YtdpohgoikbeplaaGreatDoorPPtRunGr4
namespace Go.Proofs.YtdpohgoikbeplaaGreatDoor
open Ev Go.RowKit
namespace Pt
def grRs : List Rl := [
 ⟨false, false, false, grP0, grP1⟩,
 ⟨true, false, false, grP2, grP3⟩,
 ⟨true, false, false, grP3, grP2⟩,
 ⟨false, false, false, grP4, grP5⟩,
 ⟨false, false, false, grP6, grP7⟩,
 ⟨false, false, false, grP8, grP8⟩,
 ⟨false, false, false, grP3, grP9⟩,
 ⟨false, false, false, grP10, grP3⟩,
 ⟨false, false, false, grP11, grP12⟩,
 ⟨false, true, false, grP13, grP14⟩,
 ⟨false, false, false, grP15, grP14⟩]
def grRt : List UInt8 := [67, 82, 32, 126, 32, 76, 70, 10, 40, 67, 82, 32, 124, 32, 76, 70, 32, 124, 32, 67, 111, 110, 116, 114, 111, 108, 41, 32, 47, 10, 47, 32, 40, 67, 82, 32, 124, 32, 76, 70, 32, 124, 32, 67, 111, 110, 116, 114, 111, 108, 41, 10, 76, 32, 126, 32, 40, 76, 32, 124, 32, 86, 32, 124, 32, 72, 41, 10, 40, 86, 32, 124, 32, 72, 41, 32, 126, 32, 40, 86, 32, 124, 32, 84, 41, 10, 84, 32, 126, 32, 84, 10, 126, 32, 40, 69, 120, 116, 101, 110, 100, 32, 124, 32, 90, 87, 74, 32, 124, 32, 77, 97, 114, 107, 41, 10, 80, 114, 101, 112, 101, 110, 100, 32, 126, 10, 80, 105, 99, 116, 32, 69, 120, 116, 101, 110, 100, 42, 32, 90, 87, 74, 32, 126, 32, 80, 105, 99, 116, 10, 94, 32, 40, 70, 108, 97, 103, 32, 70, 108, 97, 103, 41, 42, 32, 70, 108, 97, 103, 32, 126, 32, 70, 108, 97, 103, 10, 91, 94, 32, 70, 108, 97, 103, 93, 32, 40, 70, 108, 97, 103, 32, 70, 108, 97, 103, 41, 42, 32, 70, 108, 97, 103, 32, 126, 32, 70, 108, 97, 103, 10]
def grB10 : List UInt8 := [91, 94, 32, 70, 108, 97, 103, 93, 32, 40, 70, 108, 97, 103, 32, 70, 108, 97, 103, 41, 42, 32, 70, 108, 97, 103, 32, 126, 32, 70, 108, 97, 103]
def grB9 : List UInt8 := [94, 32, 40, 70, 108, 97, 103, 32, 70, 108, 97, 103, 41, 42, 32, 70, 108, 97, 103, 32, 126, 32, 70, 108, 97, 103]
def grB6 : List UInt8 := [126, 32, 40, 69, 120, 116, 101, 110, 100, 32, 124, 32, 90, 87, 74, 32, 124, 32, 77, 97, 114, 107, 41]
def grB8 : List UInt8 := [80, 105, 99, 116, 32, 69, 120, 116, 101, 110, 100, 42, 32, 90, 87, 74, 32, 126, 32, 80, 105, 99, 116]
def grB1 : List UInt8 := [40, 67, 82, 32, 124, 32, 76, 70, 32, 124, 32, 67, 111, 110, 116, 114, 111, 108, 41, 32, 47]
def grB2 : List UInt8 := [47, 32, 40, 67, 82, 32, 124, 32, 76, 70, 32, 124, 32, 67, 111, 110, 116, 114, 111, 108, 41]
def grB4 : List UInt8 := [40, 86, 32, 124, 32, 72, 41, 32, 126, 32, 40, 86, 32, 124, 32, 84, 41]
def grB3 : List UInt8 := [76, 32, 126, 32, 40, 76, 32, 124, 32, 86, 32, 124, 32, 72, 41]
def grB7 : List UInt8 := [80, 114, 101, 112, 101, 110, 100, 32, 126]
def grLs : List (List UInt8) := [
 [67, 82, 32, 126, 32, 76, 70],
 grB1,
 grB2,
 grB3,
 grB4,
 [84, 32, 126, 32, 84],
 grB6,
 grB7,
 grB8,
 grB9,
 grB10,
 []]
theorem grLs_run : runC (evF Tryz.prog none7 1000000 (evDraw Tryz.prog none7) 60) [] 119 [.string ⟨grRt.toArray⟩] (chkL grLs) = true := by kernel_rfl
theorem pl_of {f : FuncId} {a v : Value} (ha : flatL [a] = true) (h : runA Tryz.prog none7 1000000 60 [] f [a] v = true) : Pl1 f a v := fun W => closed_args mixed none7_ok rfl ha h W (fun x hx => by cases hx)
theorem grL0a : Pl1 141 (.string ⟨#[67, 82, 32, 126, 32, 76, 70]⟩) (.string ⟨#[67, 82, 32, 126, 32, 76, 70]⟩) := pl_of rfl (by kernel_rfl)
theorem grL0b : Pl1 142 (.string ⟨#[67, 82, 32, 126, 32, 76, 70]⟩) (.int .i64 3) := pl_of rfl (by kernel_rfl)
theorem grL0c : Pl1 143 (.string ⟨#[67, 82, 32]⟩) (.string ⟨#[67, 82]⟩) := pl_of rfl (by kernel_rfl)
theorem grL0d : Pl1 143 (.string ⟨#[32, 76, 70]⟩) (.string ⟨#[76, 70]⟩) := pl_of rfl (by kernel_rfl)
theorem grL1a : Pl1 141 (.string ⟨grB1.toArray⟩) (.string ⟨grB1.toArray⟩) := pl_of rfl (by kernel_rfl)
theorem grL1b : Pl1 142 (.string ⟨grB1.toArray⟩) (.int .i64 20) := pl_of rfl (by kernel_rfl)
theorem grL1c : Pl1 143 (.string ⟨#[40, 67, 82, 32, 124, 32, 76, 70, 32, 124, 32, 67, 111, 110, 116, 114, 111, 108, 41, 32]⟩) (.string ⟨#[40, 67, 82, 32, 124, 32, 76, 70, 32, 124, 32, 67, 111, 110, 116, 114, 111, 108, 41]⟩) := pl_of rfl (by kernel_rfl)
theorem grL1d : Pl1 143 (.string ⟨#[]⟩) (.string ⟨#[]⟩) := pl_of rfl (by kernel_rfl)
theorem grL2a : Pl1 141 (.string ⟨grB2.toArray⟩) (.string ⟨grB2.toArray⟩) := pl_of rfl (by kernel_rfl)
theorem grL2b : Pl1 142 (.string ⟨grB2.toArray⟩) (.int .i64 0) := pl_of rfl (by kernel_rfl)
theorem grL2c : Pl1 143 (.string ⟨#[]⟩) (.string ⟨#[]⟩) := pl_of rfl (by kernel_rfl)
theorem grL2d : Pl1 143 (.string ⟨#[32, 40, 67, 82, 32, 124, 32, 76, 70, 32, 124, 32, 67, 111, 110, 116, 114, 111, 108, 41]⟩) (.string ⟨#[40, 67, 82, 32, 124, 32, 76, 70, 32, 124, 32, 67, 111, 110, 116, 114, 111, 108, 41]⟩) := pl_of rfl (by kernel_rfl)
theorem grL3a : Pl1 141 (.string ⟨grB3.toArray⟩) (.string ⟨grB3.toArray⟩) := pl_of rfl (by kernel_rfl)
theorem grL3b : Pl1 142 (.string ⟨grB3.toArray⟩) (.int .i64 2) := pl_of rfl (by kernel_rfl)
theorem grL3c : Pl1 143 (.string ⟨#[76, 32]⟩) (.string ⟨#[76]⟩) := pl_of rfl (by kernel_rfl)
theorem grL3d : Pl1 143 (.string ⟨#[32, 40, 76, 32, 124, 32, 86, 32, 124, 32, 72, 41]⟩) (.string ⟨#[40, 76, 32, 124, 32, 86, 32, 124, 32, 72, 41]⟩) := pl_of rfl (by kernel_rfl)
theorem grL4a : Pl1 141 (.string ⟨grB4.toArray⟩) (.string ⟨grB4.toArray⟩) := pl_of rfl (by kernel_rfl)
theorem grL4b : Pl1 142 (.string ⟨grB4.toArray⟩) (.int .i64 8) := pl_of rfl (by kernel_rfl)
theorem grL4c : Pl1 143 (.string ⟨#[40, 86, 32, 124, 32, 72, 41, 32]⟩) (.string ⟨#[40, 86, 32, 124, 32, 72, 41]⟩) := pl_of rfl (by kernel_rfl)
theorem grL4d : Pl1 143 (.string ⟨#[32, 40, 86, 32, 124, 32, 84, 41]⟩) (.string ⟨#[40, 86, 32, 124, 32, 84, 41]⟩) := pl_of rfl (by kernel_rfl)
theorem grL5a : Pl1 141 (.string ⟨#[84, 32, 126, 32, 84]⟩) (.string ⟨#[84, 32, 126, 32, 84]⟩) := pl_of rfl (by kernel_rfl)
theorem grL5b : Pl1 142 (.string ⟨#[84, 32, 126, 32, 84]⟩) (.int .i64 2) := pl_of rfl (by kernel_rfl)
theorem grL5c : Pl1 143 (.string ⟨#[84, 32]⟩) (.string ⟨#[84]⟩) := pl_of rfl (by kernel_rfl)
theorem grL5d : Pl1 143 (.string ⟨#[32, 84]⟩) (.string ⟨#[84]⟩) := pl_of rfl (by kernel_rfl)
theorem grL6a : Pl1 141 (.string ⟨grB6.toArray⟩) (.string ⟨grB6.toArray⟩) := pl_of rfl (by kernel_rfl)
theorem grL6b : Pl1 142 (.string ⟨grB6.toArray⟩) (.int .i64 0) := pl_of rfl (by kernel_rfl)
theorem grL6c : Pl1 143 (.string ⟨#[]⟩) (.string ⟨#[]⟩) := pl_of rfl (by kernel_rfl)
theorem grL6d : Pl1 143 (.string ⟨#[32, 40, 69, 120, 116, 101, 110, 100, 32, 124, 32, 90, 87, 74, 32, 124, 32, 77, 97, 114, 107, 41]⟩) (.string ⟨#[40, 69, 120, 116, 101, 110, 100, 32, 124, 32, 90, 87, 74, 32, 124, 32, 77, 97, 114, 107, 41]⟩) := pl_of rfl (by kernel_rfl)
theorem grL7a : Pl1 141 (.string ⟨grB7.toArray⟩) (.string ⟨grB7.toArray⟩) := pl_of rfl (by kernel_rfl)
theorem grL7b : Pl1 142 (.string ⟨grB7.toArray⟩) (.int .i64 8) := pl_of rfl (by kernel_rfl)
theorem grL7c : Pl1 143 (.string ⟨#[80, 114, 101, 112, 101, 110, 100, 32]⟩) (.string ⟨#[80, 114, 101, 112, 101, 110, 100]⟩) := pl_of rfl (by kernel_rfl)
theorem grL7d : Pl1 143 (.string ⟨#[]⟩) (.string ⟨#[]⟩) := pl_of rfl (by kernel_rfl)
theorem grL8a : Pl1 141 (.string ⟨grB8.toArray⟩) (.string ⟨grB8.toArray⟩) := pl_of rfl (by kernel_rfl)
theorem grL8b : Pl1 142 (.string ⟨grB8.toArray⟩) (.int .i64 17) := pl_of rfl (by kernel_rfl)
theorem grL8c : Pl1 143 (.string ⟨#[80, 105, 99, 116, 32, 69, 120, 116, 101, 110, 100, 42, 32, 90, 87, 74, 32]⟩) (.string ⟨#[80, 105, 99, 116, 32, 69, 120, 116, 101, 110, 100, 42, 32, 90, 87, 74]⟩) := pl_of rfl (by kernel_rfl)
theorem grL8d : Pl1 143 (.string ⟨#[32, 80, 105, 99, 116]⟩) (.string ⟨#[80, 105, 99, 116]⟩) := pl_of rfl (by kernel_rfl)
theorem grL9a : Pl1 141 (.string ⟨grB9.toArray⟩) (.string ⟨grB9.toArray⟩) := pl_of rfl (by kernel_rfl)
theorem grL9b : Pl1 142 (.string ⟨grB9.toArray⟩) (.int .i64 20) := pl_of rfl (by kernel_rfl)
theorem grL9c : Pl1 143 (.string ⟨#[94, 32, 40, 70, 108, 97, 103, 32, 70, 108, 97, 103, 41, 42, 32, 70, 108, 97, 103, 32]⟩) (.string ⟨#[94, 32, 40, 70, 108, 97, 103, 32, 70, 108, 97, 103, 41, 42, 32, 70, 108, 97, 103]⟩) := pl_of rfl (by kernel_rfl)
theorem grL9d : Pl1 143 (.string ⟨#[32, 70, 108, 97, 103]⟩) (.string ⟨#[70, 108, 97, 103]⟩) := pl_of rfl (by kernel_rfl)
theorem grL10a : Pl1 141 (.string ⟨grB10.toArray⟩) (.string ⟨grB10.toArray⟩) := pl_of rfl (by kernel_rfl)
theorem grL10b : Pl1 142 (.string ⟨grB10.toArray⟩) (.int .i64 27) := pl_of rfl (by kernel_rfl)
theorem grL10c : Pl1 143 (.string ⟨#[91, 94, 32, 70, 108, 97, 103, 93, 32, 40, 70, 108, 97, 103, 32, 70, 108, 97, 103, 41, 42, 32, 70, 108, 97, 103, 32]⟩) (.string ⟨#[91, 94, 32, 70, 108, 97, 103, 93, 32, 40, 70, 108, 97, 103, 32, 70, 108, 97, 103, 41, 42, 32, 70, 108, 97, 103]⟩) := pl_of rfl (by kernel_rfl)
theorem grL10d : Pl1 143 (.string ⟨#[32, 70, 108, 97, 103]⟩) (.string ⟨#[70, 108, 97, 103]⟩) := pl_of rfl (by kernel_rfl)
theorem grL11a : Pl1 141 (.string ⟨#[]⟩) (.string ⟨#[]⟩) := pl_of rfl (by kernel_rfl)
theorem gr_line (g nc : Nat) : ∀ (j : Nat) (s : List UInt8), grLs[j]? = some s -> ∀ (B X : Nat) (vo : Option Addr) (n vc : Nat) (xs : List Value) (W : World), RrAt B W X g nc grNm vo n vc (grRs.take j) xs true false -> Calls Tryz.prog 120 #[.pointer (some ⟨X, 0, none⟩), .string ⟨s.toArray⟩] W (LnQ B W X g nc grNm (grRs.take (j + 1)) true false) := fun j s hj => match j, hj with
 | 0, hj => by
  cases hj
  intro B X vo n vc xs W h
  have hn : n <= 60 := by rw [h.hn]; exact Nat.le_trans (List.length_take_le _ _) (by decide)
  exact line_rule B X g nc grNm vo n vc _ xs true W [67, 82, 32, 126, 32, 76, 70] [67, 82, 32, 126, 32, 76, 70] [67, 82] [76, 70] 3 false grP0 grP1 h hn grL0a grL0b (by decide) (by decide) (by decide) (by decide) (show Pl1 _ (.string ((⟨#[67, 82, 32, 126, 32, 76, 70]⟩ : ByteArray).extract 0 3)) _ from (show ((⟨#[67, 82, 32, 126, 32, 76, 70]⟩ : ByteArray).extract 0 3) = ⟨#[67, 82, 32]⟩ by rfl) ▸ grL0c) (show Pl1 _ (.string ((⟨#[67, 82, 32, 126, 32, 76, 70]⟩ : ByteArray).extract 4 7)) _ from (show ((⟨#[67, 82, 32, 126, 32, 76, 70]⟩ : ByteArray).extract 4 7) = ⟨#[32, 76, 70]⟩ by rfl) ▸ grL0d) (by decide) (by decide) (by decide) (fun W hN => grP0_parse g nc W hN) (fun W hN => grP1_parse g nc W hN)
 | 1, hj => by
  cases hj
  intro B X vo n vc xs W h
  have hn : n <= 60 := by rw [h.hn]; exact Nat.le_trans (List.length_take_le _ _) (by decide)
  exact line_rule B X g nc grNm vo n vc _ xs true W grB1 grB1 [40, 67, 82, 32, 124, 32, 76, 70, 32, 124, 32, 67, 111, 110, 116, 114, 111, 108, 41] [] 20 true grP2 grP3 h hn grL1a grL1b (by decide) (by decide) (by decide) (by decide) (show Pl1 _ (.string ((⟨grB1.toArray⟩ : ByteArray).extract 0 20)) _ from (show ((⟨grB1.toArray⟩ : ByteArray).extract 0 20) = ⟨#[40, 67, 82, 32, 124, 32, 76, 70, 32, 124, 32, 67, 111, 110, 116, 114, 111, 108, 41, 32]⟩ by rfl) ▸ grL1c) (show Pl1 _ (.string ((⟨grB1.toArray⟩ : ByteArray).extract 21 21)) _ from (show ((⟨grB1.toArray⟩ : ByteArray).extract 21 21) = ⟨#[]⟩ by rfl) ▸ grL1d) (by decide) (by decide) (by decide) (fun W hN => grP2_parse g nc W hN) (fun W hN => grP3_parse g nc W hN)
 | 2, hj => by
  cases hj
  intro B X vo n vc xs W h
  have hn : n <= 60 := by rw [h.hn]; exact Nat.le_trans (List.length_take_le _ _) (by decide)
  exact line_rule B X g nc grNm vo n vc _ xs true W grB2 grB2 [] [40, 67, 82, 32, 124, 32, 76, 70, 32, 124, 32, 67, 111, 110, 116, 114, 111, 108, 41] 0 true grP3 grP2 h hn grL2a grL2b (by decide) (by decide) (by decide) (by decide) (show Pl1 _ (.string ((⟨grB2.toArray⟩ : ByteArray).extract 0 0)) _ from (show ((⟨grB2.toArray⟩ : ByteArray).extract 0 0) = ⟨#[]⟩ by rfl) ▸ grL2c) (show Pl1 _ (.string ((⟨grB2.toArray⟩ : ByteArray).extract 1 21)) _ from (show ((⟨grB2.toArray⟩ : ByteArray).extract 1 21) = ⟨#[32, 40, 67, 82, 32, 124, 32, 76, 70, 32, 124, 32, 67, 111, 110, 116, 114, 111, 108, 41]⟩ by rfl) ▸ grL2d) (by decide) (by decide) (by decide) (fun W hN => grP3_parse g nc W hN) (fun W hN => grP2_parse g nc W hN)
 | 3, hj => by
  cases hj
  intro B X vo n vc xs W h
  have hn : n <= 60 := by rw [h.hn]; exact Nat.le_trans (List.length_take_le _ _) (by decide)
  exact line_rule B X g nc grNm vo n vc _ xs true W grB3 grB3 [76] [40, 76, 32, 124, 32, 86, 32, 124, 32, 72, 41] 2 false grP4 grP5 h hn grL3a grL3b (by decide) (by decide) (by decide) (by decide) (show Pl1 _ (.string ((⟨grB3.toArray⟩ : ByteArray).extract 0 2)) _ from (show ((⟨grB3.toArray⟩ : ByteArray).extract 0 2) = ⟨#[76, 32]⟩ by rfl) ▸ grL3c) (show Pl1 _ (.string ((⟨grB3.toArray⟩ : ByteArray).extract 3 15)) _ from (show ((⟨grB3.toArray⟩ : ByteArray).extract 3 15) = ⟨#[32, 40, 76, 32, 124, 32, 86, 32, 124, 32, 72, 41]⟩ by rfl) ▸ grL3d) (by decide) (by decide) (by decide) (fun W hN => grP4_parse g nc W hN) (fun W hN => grP5_parse g nc W hN)
 | 4, hj => by
  cases hj
  intro B X vo n vc xs W h
  have hn : n <= 60 := by rw [h.hn]; exact Nat.le_trans (List.length_take_le _ _) (by decide)
  exact line_rule B X g nc grNm vo n vc _ xs true W grB4 grB4 [40, 86, 32, 124, 32, 72, 41] [40, 86, 32, 124, 32, 84, 41] 8 false grP6 grP7 h hn grL4a grL4b (by decide) (by decide) (by decide) (by decide) (show Pl1 _ (.string ((⟨grB4.toArray⟩ : ByteArray).extract 0 8)) _ from (show ((⟨grB4.toArray⟩ : ByteArray).extract 0 8) = ⟨#[40, 86, 32, 124, 32, 72, 41, 32]⟩ by rfl) ▸ grL4c) (show Pl1 _ (.string ((⟨grB4.toArray⟩ : ByteArray).extract 9 17)) _ from (show ((⟨grB4.toArray⟩ : ByteArray).extract 9 17) = ⟨#[32, 40, 86, 32, 124, 32, 84, 41]⟩ by rfl) ▸ grL4d) (by decide) (by decide) (by decide) (fun W hN => grP6_parse g nc W hN) (fun W hN => grP7_parse g nc W hN)
 | 5, hj => by
  cases hj
  intro B X vo n vc xs W h
  have hn : n <= 60 := by rw [h.hn]; exact Nat.le_trans (List.length_take_le _ _) (by decide)
  exact line_rule B X g nc grNm vo n vc _ xs true W [84, 32, 126, 32, 84] [84, 32, 126, 32, 84] [84] [84] 2 false grP8 grP8 h hn grL5a grL5b (by decide) (by decide) (by decide) (by decide) (show Pl1 _ (.string ((⟨#[84, 32, 126, 32, 84]⟩ : ByteArray).extract 0 2)) _ from (show ((⟨#[84, 32, 126, 32, 84]⟩ : ByteArray).extract 0 2) = ⟨#[84, 32]⟩ by rfl) ▸ grL5c) (show Pl1 _ (.string ((⟨#[84, 32, 126, 32, 84]⟩ : ByteArray).extract 3 5)) _ from (show ((⟨#[84, 32, 126, 32, 84]⟩ : ByteArray).extract 3 5) = ⟨#[32, 84]⟩ by rfl) ▸ grL5d) (by decide) (by decide) (by decide) (fun W hN => grP8_parse g nc W hN) (fun W hN => grP8_parse g nc W hN)
 | 6, hj => by
  cases hj
  intro B X vo n vc xs W h
  have hn : n <= 60 := by rw [h.hn]; exact Nat.le_trans (List.length_take_le _ _) (by decide)
  exact line_rule B X g nc grNm vo n vc _ xs true W grB6 grB6 [] [40, 69, 120, 116, 101, 110, 100, 32, 124, 32, 90, 87, 74, 32, 124, 32, 77, 97, 114, 107, 41] 0 false grP3 grP9 h hn grL6a grL6b (by decide) (by decide) (by decide) (by decide) (show Pl1 _ (.string ((⟨grB6.toArray⟩ : ByteArray).extract 0 0)) _ from (show ((⟨grB6.toArray⟩ : ByteArray).extract 0 0) = ⟨#[]⟩ by rfl) ▸ grL6c) (show Pl1 _ (.string ((⟨grB6.toArray⟩ : ByteArray).extract 1 23)) _ from (show ((⟨grB6.toArray⟩ : ByteArray).extract 1 23) = ⟨#[32, 40, 69, 120, 116, 101, 110, 100, 32, 124, 32, 90, 87, 74, 32, 124, 32, 77, 97, 114, 107, 41]⟩ by rfl) ▸ grL6d) (by decide) (by decide) (by decide) (fun W hN => grP3_parse g nc W hN) (fun W hN => grP9_parse g nc W hN)
 | 7, hj => by
  cases hj
  intro B X vo n vc xs W h
  have hn : n <= 60 := by rw [h.hn]; exact Nat.le_trans (List.length_take_le _ _) (by decide)
  exact line_rule B X g nc grNm vo n vc _ xs true W grB7 grB7 [80, 114, 101, 112, 101, 110, 100] [] 8 false grP10 grP3 h hn grL7a grL7b (by decide) (by decide) (by decide) (by decide) (show Pl1 _ (.string ((⟨grB7.toArray⟩ : ByteArray).extract 0 8)) _ from (show ((⟨grB7.toArray⟩ : ByteArray).extract 0 8) = ⟨#[80, 114, 101, 112, 101, 110, 100, 32]⟩ by rfl) ▸ grL7c) (show Pl1 _ (.string ((⟨grB7.toArray⟩ : ByteArray).extract 9 9)) _ from (show ((⟨grB7.toArray⟩ : ByteArray).extract 9 9) = ⟨#[]⟩ by rfl) ▸ grL7d) (by decide) (by decide) (by decide) (fun W hN => grP10_parse g nc W hN) (fun W hN => grP3_parse g nc W hN)
 | 8, hj => by
  cases hj
  intro B X vo n vc xs W h
  have hn : n <= 60 := by rw [h.hn]; exact Nat.le_trans (List.length_take_le _ _) (by decide)
  exact line_rule B X g nc grNm vo n vc _ xs true W grB8 grB8 [80, 105, 99, 116, 32, 69, 120, 116, 101, 110, 100, 42, 32, 90, 87, 74] [80, 105, 99, 116] 17 false grP11 grP12 h hn grL8a grL8b (by decide) (by decide) (by decide) (by decide) (show Pl1 _ (.string ((⟨grB8.toArray⟩ : ByteArray).extract 0 17)) _ from (show ((⟨grB8.toArray⟩ : ByteArray).extract 0 17) = ⟨#[80, 105, 99, 116, 32, 69, 120, 116, 101, 110, 100, 42, 32, 90, 87, 74, 32]⟩ by rfl) ▸ grL8c) (show Pl1 _ (.string ((⟨grB8.toArray⟩ : ByteArray).extract 18 23)) _ from (show ((⟨grB8.toArray⟩ : ByteArray).extract 18 23) = ⟨#[32, 80, 105, 99, 116]⟩ by rfl) ▸ grL8d) (by decide) (by decide) (by decide) (fun W hN => grP11_parse g nc W hN) (fun W hN => grP12_parse g nc W hN)
 | 9, hj => by
  cases hj
  intro B X vo n vc xs W h
  have hn : n <= 60 := by rw [h.hn]; exact Nat.le_trans (List.length_take_le _ _) (by decide)
  exact line_start B X g nc grNm vo n vc _ xs true W grB9 grB9 [94, 32, 40, 70, 108, 97, 103, 32, 70, 108, 97, 103, 41, 42, 32, 70, 108, 97, 103] [70, 108, 97, 103] 20 false grP13 grP14 h hn grL9a grL9b (by decide) (by decide) (by decide) (by decide) (show Pl1 _ (.string ((⟨grB9.toArray⟩ : ByteArray).extract 0 20)) _ from (show ((⟨grB9.toArray⟩ : ByteArray).extract 0 20) = ⟨#[94, 32, 40, 70, 108, 97, 103, 32, 70, 108, 97, 103, 41, 42, 32, 70, 108, 97, 103, 32]⟩ by rfl) ▸ grL9c) (show Pl1 _ (.string ((⟨grB9.toArray⟩ : ByteArray).extract 21 26)) _ from (show ((⟨grB9.toArray⟩ : ByteArray).extract 21 26) = ⟨#[32, 70, 108, 97, 103]⟩ by rfl) ▸ grL9d) (by decide) (by decide) (by decide) (by decide) (fun W hN => grP13_parse g nc W hN) (fun W hN => grP14_parse g nc W hN)
 | 10, hj => by
  cases hj
  intro B X vo n vc xs W h
  have hn : n <= 60 := by rw [h.hn]; exact Nat.le_trans (List.length_take_le _ _) (by decide)
  exact line_rule B X g nc grNm vo n vc _ xs true W grB10 grB10 [91, 94, 32, 70, 108, 97, 103, 93, 32, 40, 70, 108, 97, 103, 32, 70, 108, 97, 103, 41, 42, 32, 70, 108, 97, 103] [70, 108, 97, 103] 27 false grP15 grP14 h hn grL10a grL10b (by decide) (by decide) (by decide) (by decide) (show Pl1 _ (.string ((⟨grB10.toArray⟩ : ByteArray).extract 0 27)) _ from (show ((⟨grB10.toArray⟩ : ByteArray).extract 0 27) = ⟨#[91, 94, 32, 70, 108, 97, 103, 93, 32, 40, 70, 108, 97, 103, 32, 70, 108, 97, 103, 41, 42, 32, 70, 108, 97, 103, 32]⟩ by rfl) ▸ grL10c) (show Pl1 _ (.string ((⟨grB10.toArray⟩ : ByteArray).extract 28 33)) _ from (show ((⟨grB10.toArray⟩ : ByteArray).extract 28 33) = ⟨#[32, 70, 108, 97, 103]⟩ by rfl) ▸ grL10d) (by decide) (by decide) (by decide) (fun W hN => grP15_parse g nc W hN) (fun W hN => grP14_parse g nc W hN)
 | 11, hj => by
  cases hj
  exact fun B X vo n vc xs W h => line_blank B X g nc grNm vo n vc _ xs _ _ W [] h grL11a
 | j + 12, hj => by
  have := (List.getElem?_eq_some_iff.1 hj).1
  exact absurd this (by simp [grLs])
theorem gr_parse (g nc : Nat) (w : World) (hN : NmAt w g nc grNm) : Calls Tryz.prog 100 #[.string ⟨grRt.toArray⟩, .slice (some ⟨g, 0, none⟩) 14 nc] w (PrQ g w grRs true) := by
 have h := parse8_any grRt (Nat.le_of_ble_eq_true (by kernel_rfl)) grNm g nc grLs (fun j => grRs.take j) (fun _ => true) (fun _ => false) w hN (by decide) rfl rfl rfl (fun W hW => names_of (evF_ok none7_ok (fun _ hc => evDraw_ok mixed none7_ok hc) 60) grNm_flat grNm_run g nc W hW) (fun W => lines_of (evF_ok none7_ok (fun _ hc => evDraw_ok mixed none7_ok hc) 60) grLs_run W) (gr_line g nc)
 exact h
end Pt
end Go.Proofs.YtdpohgoikbeplaaGreatDoor
