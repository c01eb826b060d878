/- What New makes of the two texts of live. -/
import Derived.Test.YtohhokjlgihbgaaGreatDoorCNewMath
import Derived.Test.YtohhokjlgihbgaaGreatDoorCText
import Derived.Test.YtohhokjlgihbgaaGreatDoorCEach4
namespace Go.Proofs.YtohhokjlgihbgaaGreatDoor

def sml : List UInt8 := [85, 43, 48, 51, 48, 48, 45, 85, 43, 48, 51, 54, 70, 32, 59, 32, 69, 120, 116, 101, 110, 100, 10, 85, 43, 48, 48, 54, 49, 45, 85, 43, 48, 48, 55, 65, 32, 85, 43, 48, 48, 69, 57, 32, 59, 32, 76, 101, 116, 116, 101, 114, 10]
def sm2 : List UInt8 := [39, 97, 39, 32, 59, 32, 65, 10, 39, 97, 39, 45, 39, 98, 39, 32, 59, 32, 66]
def ext : List UInt8 := [69, 120, 116, 101, 110, 100]
def lett : List UInt8 := [76, 101, 116, 116, 101, 114]
def smS : List Tr := [(97, 122, 2), (233, 233, 2), (768, 879, 1)]
def smA : List Tr := [(0, 96, 0), (97, 122, 2), (123, 232, 0), (233, 233, 2), (234, 767, 0), (768, 879, 1), (880, 1114111, 0)]
def smt : List UInt8 := [101, 204, 129, 255]
theorem lns_sml : lns sml = [sml.take 22, (sml.drop 23).take 29, []] := by kernel_rfl
theorem whl_sml : whl smS = smA := by kernel_rfl
theorem rd_1 : rdS [oth] [] (sml.take 22) = (0, [oth, ext], [(768, 879, 1)]) := by kernel_rfl
theorem rd_2 : rdS [oth, ext] [(768, 879, 1)] ((sml.drop 23).take 29) = (0, [oth, ext, lett], smS) := by kernel_rfl
theorem rd_3 : rdS [oth, ext, lett] smS [] = (0, [oth, ext, lett], smS) := by kernel_rfl
theorem nw_sml : nw sml = ((0, 0), [oth, ext, lett], smS) := by kernel_rfl
theorem nw_sm2 : (nw sm2).1 = (41, 2) := by kernel_rfl
theorem evs_sml : evs smA smt 0 = [(0, 2), (1, 1), (3, 0)] := by kernel_rfl
theorem tx_sml : tx4 smA [oth, ext, lett] 3 = sml := by kernel_rfl
theorem rgd_sml : (rgd smA).length = 3 := by kernel_rfl
theorem st_sml : (smA.Pairwise fun x y => x.2.1 < y.2.1) ∧ ∃ g ∈ smA, g.2.1 = 1114111 := by decide
end Go.Proofs.YtohhokjlgihbgaaGreatDoor
