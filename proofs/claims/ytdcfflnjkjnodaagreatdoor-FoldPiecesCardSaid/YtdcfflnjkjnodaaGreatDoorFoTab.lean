/- The tables of great and small letters as the program's text has them, and as they lie in memory. -/
import Derived.Test.YtdcfflnjkjnodaaGreatDoorEvR
namespace Go.Proofs.YtdcfflnjkjnodaaGreatDoor
open Ev
namespace Fo
/-- The lines of pairs: the first and the last great letter, how much more the small one is, how far the next great one is. -/
def prT : List (Int × Int × Int × Int) := [(65, 90, 32, 1), (192, 214, 32, 1), (216, 222, 32, 1), (256, 302, 1, 2), (306, 310, 1, 2), (313, 327, 1, 2), (330, 374, 1, 2), (376, 376, -121, 1), (377, 381, 1, 2), (902, 902, 38, 1), (904, 906, 37, 1), (908, 908, 64, 1), (910, 911, 63, 1), (913, 929, 32, 1), (931, 939, 32, 1), (1024, 1039, 80, 1), (1040, 1071, 32, 1), (1120, 1152, 1, 2), (1329, 1366, 48, 1), (7680, 7828, 1, 2), (8544, 8559, 16, 1), (65313, 65338, 32, 1), (66560, 66599, 40, 1)]
def prV : List Value := prT.flatMap fun x => [.int .i32 x.1, .int .i32 x.2.1, .int .i32 x.2.2.1, .int .i32 x.2.2.2]
/-- The runes with forms of their own: small, great, title, folded. -/
def spT : List (Int × List Int × List Int × List Int × List Int) := [(223, [223], [83, 83], [83, 115], [115, 115]), (304, [105, 775], [304], [304], [105, 775]), (305, [305], [73], [73], [305]), (329, [329], [700, 78], [700, 78], [700, 110]), (383, [383], [83], [83], [115]), (452, [454], [452], [453], [454]), (453, [454], [452], [453], [454]), (454, [454], [452], [453], [454]), (496, [496], [74, 780], [74, 780], [106, 780]), (912, [912], [921, 776, 769], [921, 776, 769], [953, 776, 769]), (962, [962], [931], [931], [963]), (1415, [1415], [1333, 1362], [1333, 1410], [1381, 1410]), (7838, [223], [7838], [7838], [115, 115]), (64256, [64256], [70, 70], [70, 102], [102, 102]), (64257, [64257], [70, 73], [70, 105], [102, 105]), (64258, [64258], [70, 76], [70, 108], [102, 108]), (64259, [64259], [70, 70, 73], [70, 102, 105], [102, 102, 105])]
def fc (l : List Int) : List Value := [.int .i32 (l.getD 0 0), .int .i32 (l.getD 1 0), .int .i32 (l.getD 2 0), .int .i64 (l.length : Int)]
def fv (x : List Int × List Int × List Int × List Int) : Value := .agg ⟨fc x.1 ++ fc x.2.1 ++ fc x.2.2.1 ++ fc x.2.2.2⟩
def spN : Nat → List (Int × List Int × List Int × List Int × List Int) → List MapEntry
  | _, [] => []
  | i, x :: r => ⟨.int .i32 x.1, fv x.2, i⟩ :: spN (i + 1) r
def spE : List MapEntry := spN 0 spT
def mEq : List MapEntry → List MapEntry → Bool
  | [], [] => true
  | e :: es, f :: fs => veq0 e.key f.key && veq e.val f.val && Nat.beq e.born f.born && mEq es fs
  | _, _ => false
theorem mEq_eq : ∀ {es fs : List MapEntry}, mEq es fs = true → es = fs
  | [], [], _ => rfl
  | e :: es, f :: fs, h => by
    simp only [mEq, Bool.and_eq_true] at h
    obtain ⟨⟨⟨h1, h2⟩, h3⟩, h4⟩ := h
    obtain ⟨a, b, c⟩ := e
    obtain ⟨a', b', c'⟩ := f
    have e1 : a = a' := veq0_eq h1
    have e2 : b = b' := veq_eq h2
    have e3 : c = c' := beqN h3
    subst e1 e2 e3
    rw [mEq_eq h4]
  | [], _ :: _, h => by cases h
  | _ :: _, [], h => by cases h
def mFlat : List MapEntry → Bool
  | [] => true
  | e :: es => flat e.val && mFlat es
theorem MR_flat {μ : Mu} : ∀ {es l : List MapEntry}, mFlat es = true → MR μ es l → l = es
  | [], l, _, h => by simpa [MR] using h
  | e :: es, l, hf, h => by
    simp only [MR] at h
    simp only [mFlat, Bool.and_eq_true] at hf
    obtain ⟨e', es', rfl, h2, h3, h4, h5, h6⟩ := h
    have h7 := flat_eq hf.1 h5
    rw [MR_flat hf.2 h6]
    obtain ⟨a, b, c⟩ := e
    obtain ⟨a', b', c'⟩ := e'
    simp only at h3 h4 h7
    subst h3 h4 h7
    rfl
theorem spE_flat : mFlat spE = true := by kernel_rfl
theorem prV_flat : flatL prV = true := by kernel_rfl
/-- The pairs in memory. -/
def PrAt (w : World) (v : Value) (g : Nat) : Prop := v = .slice (some ⟨g, 0, none⟩) 23 23 ∧ w.heap[g]? = some (.cells ⟨prV⟩ 68 (0, 0))
/-- The forms in memory. -/
def SpAt (w : World) (v : Value) (K : Nat) : Prop := v = .map (some K) ∧ w.heap[K]? = some (.map ⟨spE⟩ 17)
noncomputable def chkP (u : Value) (A : AW) : Bool := match u with
  | .slice (some ⟨i, 0, none⟩) n c => Nat.beq n 23 && Nat.beq c 23 && Nat.ble 4 i && (match A.get i with
    | some obj => objEq obj (.cells prV 68 false none 4)
    | none => false)
  | _ => false
noncomputable def chkS (u : Value) (A : AW) : Bool := match u with
  | .map (some i) => Nat.ble 4 i && (match A.get i with
    | some (.map es c) => mEq es spE && Nat.beq c 17
    | _ => false)
  | _ => false
end Fo
end Go.Proofs.YtdcfflnjkjnodaaGreatDoor
