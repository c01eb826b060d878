/-
  No cell of these rows narrows 'for every input' (looked for: loops, veiled, ifaces, maps, wideKeys, modest, calm, conditions, laid).
  DERIVED. THE GIVEN ROWS OF THIS SEAT. 6 by the template 'for every input the law returns true; each argument reads behind the call as it read before'; 0 by the template 'total and deterministic' (their statements: YtkjnaamlhkldmaaTotals.lean).
  GIVEN WITH THE SEED: the statements are not yours to turn. If you find one false, say at which input.
  Laid BY PROGRAM, IN A SANDBOX (cutbox-rows.mjs): the forced cells as the released guide's own fill.sh prints them over the translation 5aa6f8a140edec92… (all of the seat's roots in one cut). By AI agents, Wed Nov 11 2026. No macro, syntax, notation, axiom, sorry.
-/
import Derived.Test.YtkjnaamlhkldmaaChecked
import GoSem.Claim
import GoSem.ClaimJoined
import GoSem.ClaimMapViews
import Derived.JoinedTies
import Derived.KernelRfl
namespace Go.Proofs.Ytkjnaamlhkldmaa
/- THE CELL 'sum', in the pinned program and in every row, IS THE sha256 OF THE DUMP (.gsa) THAT YtkjnaamlhkldmaaProg.lean LOADS. Nothing in Lean hashes anything: it is a label: what it is worth is what the hold of that sum in a sandbox is worth. -/
noncomputable def Try.pinned : Pinned := { name := "ytkjnaamlhkldmaa", sum := "5aa6f8a140edec92585717bbc5796028f5913007c05e936a275cff77e7ee72ac", checked := Try.checked }
namespace Rows
def none {H : Type} : Left H := { results := [], args := [] }

/-- 'kerflaw23.EditNames': WHATEVER THE INPUT: true; the input reads as it did. -/
def editNamesSpec : ChangeSpec := { name := "editNames", fn := fun _ => fun
  | [] => { results := [.lit (.bool true)], args := [] }
  | _ => none }
def editNamesRow : OpenClaim := { program := "ytkjnaamlhkldmaa", sum := "5aa6f8a140edec92585717bbc5796028f5913007c05e936a275cff77e7ee72ac", func := "kerf/kerflaw23.EditNames", spec := "editNames", inPlace := ["internal/abi.NoEscape", "internal/bytealg.MakeNoZero"], unfollowed := true, recurses := true, apart := false }
def EditNamesSaid : Prop := editNamesRow.holds Try.pinned (OpenSpec.ofChange editNamesSpec)

/-- ITS FALSE NEIGHBOUR: 'it returns false'. Refute it at one input. -/
def editNamesWrong : ChangeSpec := { name := "editNames", fn := fun _ => fun
  | [] => { results := [.lit (.bool false)], args := [] }
  | _ => none }
def EditNamesWrongFalsely : Prop := editNamesRow.holds Try.pinned (OpenSpec.ofChange editNamesWrong)

/-- 'kerflaw23.EditMakes': WHATEVER THE INPUT: true; the input reads as it did. -/
def editMakesSpec : ChangeSpec := { name := "editMakes", fn := fun _ => fun
  | [d1, d2, d3, d4] => { results := [.lit (.bool true)], args := [d1, d2, d3, d4] }
  | _ => none }
def editMakesRow : OpenClaim := { program := "ytkjnaamlhkldmaa", sum := "5aa6f8a140edec92585717bbc5796028f5913007c05e936a275cff77e7ee72ac", func := "kerf/kerflaw23.EditMakes", spec := "editMakes", inPlace := ["internal/abi.NoEscape", "internal/bytealg.MakeNoZero"], unfollowed := true, recurses := true, apart := false }
def EditMakesSaid : Prop := editMakesRow.holds Try.pinned (OpenSpec.ofChange editMakesSpec)

/-- ITS FALSE NEIGHBOUR: 'it returns false'. Refute it at one input. -/
def editMakesWrong : ChangeSpec := { name := "editMakes", fn := fun _ => fun
  | [d1, d2, d3, d4] => { results := [.lit (.bool false)], args := [d1, d2, d3, d4] }
  | _ => none }
def EditMakesWrongFalsely : Prop := editMakesRow.holds Try.pinned (OpenSpec.ofChange editMakesWrong)

/-- 'kerflaw23.EditTwo': WHATEVER THE INPUT: true; the input reads as it did. -/
def editTwoSpec : ChangeSpec := { name := "editTwo", fn := fun _ => fun
  | [d1, d2, d3] => { results := [.lit (.bool true)], args := [d1, d2, d3] }
  | _ => none }
def editTwoRow : OpenClaim := { program := "ytkjnaamlhkldmaa", sum := "5aa6f8a140edec92585717bbc5796028f5913007c05e936a275cff77e7ee72ac", func := "kerf/kerflaw23.EditTwo", spec := "editTwo", inPlace := ["internal/abi.NoEscape", "internal/bytealg.MakeNoZero"], unfollowed := true, recurses := true, apart := false }
def EditTwoSaid : Prop := editTwoRow.holds Try.pinned (OpenSpec.ofChange editTwoSpec)

/-- ITS FALSE NEIGHBOUR: 'it returns false'. Refute it at one input. -/
def editTwoWrong : ChangeSpec := { name := "editTwo", fn := fun _ => fun
  | [d1, d2, d3] => { results := [.lit (.bool false)], args := [d1, d2, d3] }
  | _ => none }
def EditTwoWrongFalsely : Prop := editTwoRow.holds Try.pinned (OpenSpec.ofChange editTwoWrong)

/-- 'kerflaw23.EditBack': WHATEVER THE INPUT: true; the input reads as it did. -/
def editBackSpec : ChangeSpec := { name := "editBack", fn := fun _ => fun
  | [d1, d2] => { results := [.lit (.bool true)], args := [d1, d2] }
  | _ => none }
def editBackRow : OpenClaim := { program := "ytkjnaamlhkldmaa", sum := "5aa6f8a140edec92585717bbc5796028f5913007c05e936a275cff77e7ee72ac", func := "kerf/kerflaw23.EditBack", spec := "editBack", inPlace := ["internal/abi.NoEscape", "internal/bytealg.MakeNoZero"], unfollowed := true, recurses := true, apart := false }
def EditBackSaid : Prop := editBackRow.holds Try.pinned (OpenSpec.ofChange editBackSpec)

/-- ITS FALSE NEIGHBOUR: 'it returns false'. Refute it at one input. -/
def editBackWrong : ChangeSpec := { name := "editBack", fn := fun _ => fun
  | [d1, d2] => { results := [.lit (.bool false)], args := [d1, d2] }
  | _ => none }
def EditBackWrongFalsely : Prop := editBackRow.holds Try.pinned (OpenSpec.ofChange editBackWrong)

/-- 'kerflaw23.EditChain': WHATEVER THE INPUT: true; the input reads as it did. -/
def editChainSpec : ChangeSpec := { name := "editChain", fn := fun _ => fun
  | [d1, d2, d3, d4] => { results := [.lit (.bool true)], args := [d1, d2, d3, d4] }
  | _ => none }
def editChainRow : OpenClaim := { program := "ytkjnaamlhkldmaa", sum := "5aa6f8a140edec92585717bbc5796028f5913007c05e936a275cff77e7ee72ac", func := "kerf/kerflaw23.EditChain", spec := "editChain", inPlace := ["internal/abi.NoEscape", "internal/bytealg.MakeNoZero"], unfollowed := true, recurses := true, apart := false }
def EditChainSaid : Prop := editChainRow.holds Try.pinned (OpenSpec.ofChange editChainSpec)

/-- ITS FALSE NEIGHBOUR: 'it returns false'. Refute it at one input. -/
def editChainWrong : ChangeSpec := { name := "editChain", fn := fun _ => fun
  | [d1, d2, d3, d4] => { results := [.lit (.bool false)], args := [d1, d2, d3, d4] }
  | _ => none }
def EditChainWrongFalsely : Prop := editChainRow.holds Try.pinned (OpenSpec.ofChange editChainWrong)

/-- 'kerflaw23.EditBoth': WHATEVER THE INPUT: true; the input reads as it did. -/
def editBothSpec : ChangeSpec := { name := "editBoth", fn := fun _ => fun
  | [d1, d2, d3] => { results := [.lit (.bool true)], args := [d1, d2, d3] }
  | _ => none }
def editBothRow : OpenClaim := { program := "ytkjnaamlhkldmaa", sum := "5aa6f8a140edec92585717bbc5796028f5913007c05e936a275cff77e7ee72ac", func := "kerf/kerflaw23.EditBoth", spec := "editBoth", inPlace := ["internal/abi.NoEscape", "internal/bytealg.MakeNoZero"], unfollowed := true, recurses := true, apart := false }
def EditBothSaid : Prop := editBothRow.holds Try.pinned (OpenSpec.ofChange editBothSpec)

/-- ITS FALSE NEIGHBOUR: 'it returns false'. Refute it at one input. -/
def editBothWrong : ChangeSpec := { name := "editBoth", fn := fun _ => fun
  | [d1, d2, d3] => { results := [.lit (.bool false)], args := [d1, d2, d3] }
  | _ => none }
def EditBothWrongFalsely : Prop := editBothRow.holds Try.pinned (OpenSpec.ofChange editBothWrong)

/- THE SECOND FORM. 'bulk': how many values and letters a reading holds, each counted each time it is reached (what is shared counts as often as it is met; a slice's spare places count too). A statement '..UptoSaid' is the law's where the arguments, and the package variables that the reading takes, are together of bulk at most 1048576: NARROWER than '..Said'. Prove '..Said' where nothing that the law and all that it calls make is longer than what came in: it says more and counts as full. Else prove '..UptoSaid'. A law counts once. -/
mutual
def uptoBulk {H : Type} : DataW H → Nat
  | .lit (.string bytes) => bytes.length + 1
  | .lit _ => 1
  | .nil => 1
  | .ptr d => uptoBulk d + 1
  | .slice elems spare => uptoBulkAll elems + uptoBulkAll spare + 1
  | .agg parts => uptoBulkAll parts + 1
  | .iface _ d => uptoBulk d + 1
  | .map entries => uptoBulkEntries entries + 1
  | .held _ => 1
def uptoBulkAll {H : Type} : List (DataW H) → Nat
  | [] => 0
  | d :: r => uptoBulk d + uptoBulkAll r
def uptoBulkEntries {H : Type} : List (Lit × DataW H) → Nat
  | [] => 0
  | x :: r => uptoBulkEntry x + uptoBulkEntries r
def uptoBulkEntry {H : Type} : Lit × DataW H → Nat
  | (.string bytes, d) => bytes.length + uptoBulk d + 1
  | (_, d) => uptoBulk d + 1
 end
def uptoSmall : (H : Type) → List (DataW H) → Bool := fun _ ds => decide (uptoBulkAll ds ≤ 1048576)
def OpenSpec.upto (s : _root_.Go.ChangeSpec) : _root_.Go.OpenSpec := { _root_.Go.OpenSpec.ofChange s with cond := some uptoSmall }

/-- 'kerflaw23.EditNames', WHERE WHAT IT READS IS OF BULK AT MOST 1048576: true; the input reads as it did. -/
def editNamesUptoRow : OpenClaim := { program := "ytkjnaamlhkldmaa", sum := "5aa6f8a140edec92585717bbc5796028f5913007c05e936a275cff77e7ee72ac", func := "kerf/kerflaw23.EditNames", spec := "editNames", inPlace := ["internal/abi.NoEscape", "internal/bytealg.MakeNoZero"], unfollowed := true, recurses := true, apart := false, narrowed := true }
def EditNamesUptoSaid : Prop := editNamesUptoRow.holds Try.pinned (OpenSpec.upto editNamesSpec)

/-- 'kerflaw23.EditMakes', WHERE WHAT IT READS IS OF BULK AT MOST 1048576: true; the input reads as it did. -/
def editMakesUptoRow : OpenClaim := { program := "ytkjnaamlhkldmaa", sum := "5aa6f8a140edec92585717bbc5796028f5913007c05e936a275cff77e7ee72ac", func := "kerf/kerflaw23.EditMakes", spec := "editMakes", inPlace := ["internal/abi.NoEscape", "internal/bytealg.MakeNoZero"], unfollowed := true, recurses := true, apart := false, narrowed := true }
def EditMakesUptoSaid : Prop := editMakesUptoRow.holds Try.pinned (OpenSpec.upto editMakesSpec)

/-- 'kerflaw23.EditTwo', WHERE WHAT IT READS IS OF BULK AT MOST 1048576: true; the input reads as it did. -/
def editTwoUptoRow : OpenClaim := { program := "ytkjnaamlhkldmaa", sum := "5aa6f8a140edec92585717bbc5796028f5913007c05e936a275cff77e7ee72ac", func := "kerf/kerflaw23.EditTwo", spec := "editTwo", inPlace := ["internal/abi.NoEscape", "internal/bytealg.MakeNoZero"], unfollowed := true, recurses := true, apart := false, narrowed := true }
def EditTwoUptoSaid : Prop := editTwoUptoRow.holds Try.pinned (OpenSpec.upto editTwoSpec)

/-- 'kerflaw23.EditBack', WHERE WHAT IT READS IS OF BULK AT MOST 1048576: true; the input reads as it did. -/
def editBackUptoRow : OpenClaim := { program := "ytkjnaamlhkldmaa", sum := "5aa6f8a140edec92585717bbc5796028f5913007c05e936a275cff77e7ee72ac", func := "kerf/kerflaw23.EditBack", spec := "editBack", inPlace := ["internal/abi.NoEscape", "internal/bytealg.MakeNoZero"], unfollowed := true, recurses := true, apart := false, narrowed := true }
def EditBackUptoSaid : Prop := editBackUptoRow.holds Try.pinned (OpenSpec.upto editBackSpec)

/-- 'kerflaw23.EditChain', WHERE WHAT IT READS IS OF BULK AT MOST 1048576: true; the input reads as it did. -/
def editChainUptoRow : OpenClaim := { program := "ytkjnaamlhkldmaa", sum := "5aa6f8a140edec92585717bbc5796028f5913007c05e936a275cff77e7ee72ac", func := "kerf/kerflaw23.EditChain", spec := "editChain", inPlace := ["internal/abi.NoEscape", "internal/bytealg.MakeNoZero"], unfollowed := true, recurses := true, apart := false, narrowed := true }
def EditChainUptoSaid : Prop := editChainUptoRow.holds Try.pinned (OpenSpec.upto editChainSpec)

/-- 'kerflaw23.EditBoth', WHERE WHAT IT READS IS OF BULK AT MOST 1048576: true; the input reads as it did. -/
def editBothUptoRow : OpenClaim := { program := "ytkjnaamlhkldmaa", sum := "5aa6f8a140edec92585717bbc5796028f5913007c05e936a275cff77e7ee72ac", func := "kerf/kerflaw23.EditBoth", spec := "editBoth", inPlace := ["internal/abi.NoEscape", "internal/bytealg.MakeNoZero"], unfollowed := true, recurses := true, apart := false, narrowed := true }
def EditBothUptoSaid : Prop := editBothUptoRow.holds Try.pinned (OpenSpec.upto editBothSpec)

end Rows
end Go.Proofs.Ytkjnaamlhkldmaa
