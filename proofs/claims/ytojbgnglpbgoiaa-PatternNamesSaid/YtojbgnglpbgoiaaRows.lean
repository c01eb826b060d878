/-
  NARROWER THAN 'FOR EVERY INPUT', by the rows' own cells (each row's printed sentence says how): PatternChecks: loops · PatternTurns: loops · PatternLaws: loops.
  DERIVED. THE GIVEN ROWS OF THIS SEAT. 6 by the template 'for every input the law returns true; each argument reads behind the call as it read before'; 0 by the template 'total and deterministic' (their statements: YtojbgnglpbgoiaaTotals.lean).
  GIVEN WITH THE SEED: the statements are not yours to turn. If you find one false, say at which input.
  Laid BY PROGRAM, IN A SANDBOX (cutbox-rows.mjs): the forced cells as the released guide's own fill.sh prints them over the translation 3e6ec019cb2fe09c… (all of the seat's roots in one cut). By AI agents, Wed Nov 11 2026. No macro, syntax, notation, axiom, sorry.
-/
import Derived.Test.YtojbgnglpbgoiaaChecked
import GoSem.Claim
import GoSem.ClaimJoined
import GoSem.ClaimMapViews
import Derived.JoinedTies
import Derived.KernelRfl
namespace Go.Proofs.Ytojbgnglpbgoiaa
/- THE CELL 'sum', in the pinned program and in every row, IS THE sha256 OF THE DUMP (.gsa) THAT YtojbgnglpbgoiaaProg.lean LOADS. Nothing in Lean hashes anything: it is a label: what it is worth is what the hold of that sum in a sandbox is worth. -/
noncomputable def Try.pinned : Pinned := { name := "ytojbgnglpbgoiaa", sum := "3e6ec019cb2fe09c2dcacf745bf0d76af2e651d2f4395e9105c99492b68a036e", checked := Try.checked }
namespace Rows
def none {H : Type} : Left H := { results := [], args := [] }

/-- 'kerflaw05.PatternNames': WHATEVER THE INPUT: true; the input reads as it did. -/
def patternNamesSpec : ChangeSpec := { name := "patternNames", fn := fun _ => fun
  | [] => { results := [.lit (.bool true)], args := [] }
  | _ => none }
def patternNamesRow : OpenClaim := { program := "ytojbgnglpbgoiaa", sum := "3e6ec019cb2fe09c2dcacf745bf0d76af2e651d2f4395e9105c99492b68a036e", func := "kerf/kerflaw05.PatternNames", spec := "patternNames", inPlace := ["internal/abi.NoEscape"], unfollowed := true, recurses := true, apart := false }
def PatternNamesSaid : Prop := patternNamesRow.holds Try.pinned (OpenSpec.ofChange patternNamesSpec)

/-- ITS FALSE NEIGHBOUR: 'it returns false'. Refute it at one input. -/
def patternNamesWrong : ChangeSpec := { name := "patternNames", fn := fun _ => fun
  | [] => { results := [.lit (.bool false)], args := [] }
  | _ => none }
def PatternNamesWrongFalsely : Prop := patternNamesRow.holds Try.pinned (OpenSpec.ofChange patternNamesWrong)

/-- 'kerflaw05.PatternParses': WHATEVER THE INPUT: true; the input reads as it did. -/
def patternParsesSpec : ChangeSpec := { name := "patternParses", fn := fun _ => fun
  | [d1, d2] => { results := [.lit (.bool true)], args := [d1, d2] }
  | _ => none }
def patternParsesRow : OpenClaim := { program := "ytojbgnglpbgoiaa", sum := "3e6ec019cb2fe09c2dcacf745bf0d76af2e651d2f4395e9105c99492b68a036e", func := "kerf/kerflaw05.PatternParses", spec := "patternParses", inPlace := ["internal/abi.NoEscape"], unfollowed := true, recurses := true, apart := false }
def PatternParsesSaid : Prop := patternParsesRow.holds Try.pinned (OpenSpec.ofChange patternParsesSpec)

/-- ITS FALSE NEIGHBOUR: 'it returns false'. Refute it at one input. -/
def patternParsesWrong : ChangeSpec := { name := "patternParses", fn := fun _ => fun
  | [d1, d2] => { results := [.lit (.bool false)], args := [d1, d2] }
  | _ => none }
def PatternParsesWrongFalsely : Prop := patternParsesRow.holds Try.pinned (OpenSpec.ofChange patternParsesWrong)

/-- 'kerflaw05.PatternChecks': WHATEVER THE INPUT: true; the input reads as it did. -/
def patternChecksSpec : ChangeSpec := { name := "patternChecks", fn := fun _ => fun
  | [d1, d2, d3, d4] => { results := [.lit (.bool true)], args := [d1, d2, d3, d4] }
  | _ => none }
def patternChecksRow : OpenClaim := { program := "ytojbgnglpbgoiaa", sum := "3e6ec019cb2fe09c2dcacf745bf0d76af2e651d2f4395e9105c99492b68a036e", func := "kerf/kerflaw05.PatternChecks", spec := "patternChecks", inPlace := ["internal/abi.NoEscape"], unfollowed := true, recurses := true, loops := true, apart := false }
def PatternChecksSaid : Prop := patternChecksRow.holds Try.pinned (OpenSpec.ofChange patternChecksSpec)

/-- ITS FALSE NEIGHBOUR: 'it returns false'. Refute it at one input. -/
def patternChecksWrong : ChangeSpec := { name := "patternChecks", fn := fun _ => fun
  | [d1, d2, d3, d4] => { results := [.lit (.bool false)], args := [d1, d2, d3, d4] }
  | _ => none }
def PatternChecksWrongFalsely : Prop := patternChecksRow.holds Try.pinned (OpenSpec.ofChange patternChecksWrong)

/-- 'kerflaw05.PatternTurns': WHATEVER THE INPUT: true; the input reads as it did. -/
def patternTurnsSpec : ChangeSpec := { name := "patternTurns", fn := fun _ => fun
  | [d1, d2] => { results := [.lit (.bool true)], args := [d1, d2] }
  | _ => none }
def patternTurnsRow : OpenClaim := { program := "ytojbgnglpbgoiaa", sum := "3e6ec019cb2fe09c2dcacf745bf0d76af2e651d2f4395e9105c99492b68a036e", func := "kerf/kerflaw05.PatternTurns", spec := "patternTurns", inPlace := ["internal/abi.NoEscape"], unfollowed := true, recurses := true, loops := true, apart := false }
def PatternTurnsSaid : Prop := patternTurnsRow.holds Try.pinned (OpenSpec.ofChange patternTurnsSpec)

/-- ITS FALSE NEIGHBOUR: 'it returns false'. Refute it at one input. -/
def patternTurnsWrong : ChangeSpec := { name := "patternTurns", fn := fun _ => fun
  | [d1, d2] => { results := [.lit (.bool false)], args := [d1, d2] }
  | _ => none }
def PatternTurnsWrongFalsely : Prop := patternTurnsRow.holds Try.pinned (OpenSpec.ofChange patternTurnsWrong)

/-- 'kerflaw05.PatternLaws': WHATEVER THE INPUT: true; the input reads as it did. -/
def patternLawsSpec : ChangeSpec := { name := "patternLaws", fn := fun _ => fun
  | [d1, d2, d3] => { results := [.lit (.bool true)], args := [d1, d2, d3] }
  | _ => none }
def patternLawsRow : OpenClaim := { program := "ytojbgnglpbgoiaa", sum := "3e6ec019cb2fe09c2dcacf745bf0d76af2e651d2f4395e9105c99492b68a036e", func := "kerf/kerflaw05.PatternLaws", spec := "patternLaws", inPlace := ["internal/abi.NoEscape"], unfollowed := true, recurses := true, loops := true, apart := false }
def PatternLawsSaid : Prop := patternLawsRow.holds Try.pinned (OpenSpec.ofChange patternLawsSpec)

/-- ITS FALSE NEIGHBOUR: 'it returns false'. Refute it at one input. -/
def patternLawsWrong : ChangeSpec := { name := "patternLaws", fn := fun _ => fun
  | [d1, d2, d3] => { results := [.lit (.bool false)], args := [d1, d2, d3] }
  | _ => none }
def PatternLawsWrongFalsely : Prop := patternLawsRow.holds Try.pinned (OpenSpec.ofChange patternLawsWrong)

/-- 'kerflaw05.PatternBack': WHATEVER THE INPUT: true; the input reads as it did. -/
def patternBackSpec : ChangeSpec := { name := "patternBack", fn := fun _ => fun
  | [d] => { results := [.lit (.bool true)], args := [d] }
  | _ => none }
def patternBackRow : OpenClaim := { program := "ytojbgnglpbgoiaa", sum := "3e6ec019cb2fe09c2dcacf745bf0d76af2e651d2f4395e9105c99492b68a036e", func := "kerf/kerflaw05.PatternBack", spec := "patternBack", inPlace := ["internal/abi.NoEscape"], unfollowed := true, recurses := true, apart := false }
def PatternBackSaid : Prop := patternBackRow.holds Try.pinned (OpenSpec.ofChange patternBackSpec)

/-- ITS FALSE NEIGHBOUR: 'it returns false'. Refute it at one input. -/
def patternBackWrong : ChangeSpec := { name := "patternBack", fn := fun _ => fun
  | [d] => { results := [.lit (.bool false)], args := [d] }
  | _ => none }
def PatternBackWrongFalsely : Prop := patternBackRow.holds Try.pinned (OpenSpec.ofChange patternBackWrong)

/- THE SECOND FORM. 'bulk': how many values and letters a reading holds, each counted each time it is reached (what is shared counts as often as it is met; a slice's spare places count too). A statement '..UptoSaid' is the law's where the arguments, and the package variables that the reading takes, are together of bulk at most 1048576: NARROWER than '..Said'. Prove '..Said' where nothing that the law and all that it calls make is longer than what came in: it says more and counts as full. Else prove '..UptoSaid'. A law counts once. -/
mutual
def uptoBulk {H : Type} : DataW H → Nat
  | .lit (.string bytes) => bytes.length + 1
  | .lit _ => 1
  | .nil => 1
  | .ptr d => uptoBulk d + 1
  | .slice elems spare => uptoBulkAll elems + uptoBulkAll spare + 1
  | .agg parts => uptoBulkAll parts + 1
  | .iface _ d => uptoBulk d + 1
  | .map entries => uptoBulkEntries entries + 1
  | .held _ => 1
def uptoBulkAll {H : Type} : List (DataW H) → Nat
  | [] => 0
  | d :: r => uptoBulk d + uptoBulkAll r
def uptoBulkEntries {H : Type} : List (Lit × DataW H) → Nat
  | [] => 0
  | x :: r => uptoBulkEntry x + uptoBulkEntries r
def uptoBulkEntry {H : Type} : Lit × DataW H → Nat
  | (.string bytes, d) => bytes.length + uptoBulk d + 1
  | (_, d) => uptoBulk d + 1
 end
def uptoSmall : (H : Type) → List (DataW H) → Bool := fun _ ds => decide (uptoBulkAll ds ≤ 1048576)
def OpenSpec.upto (s : _root_.Go.ChangeSpec) : _root_.Go.OpenSpec := { _root_.Go.OpenSpec.ofChange s with cond := some uptoSmall }

/-- 'kerflaw05.PatternNames', WHERE WHAT IT READS IS OF BULK AT MOST 1048576: true; the input reads as it did. -/
def patternNamesUptoRow : OpenClaim := { program := "ytojbgnglpbgoiaa", sum := "3e6ec019cb2fe09c2dcacf745bf0d76af2e651d2f4395e9105c99492b68a036e", func := "kerf/kerflaw05.PatternNames", spec := "patternNames", inPlace := ["internal/abi.NoEscape"], unfollowed := true, recurses := true, apart := false, narrowed := true }
def PatternNamesUptoSaid : Prop := patternNamesUptoRow.holds Try.pinned (OpenSpec.upto patternNamesSpec)

/-- 'kerflaw05.PatternParses', WHERE WHAT IT READS IS OF BULK AT MOST 1048576: true; the input reads as it did. -/
def patternParsesUptoRow : OpenClaim := { program := "ytojbgnglpbgoiaa", sum := "3e6ec019cb2fe09c2dcacf745bf0d76af2e651d2f4395e9105c99492b68a036e", func := "kerf/kerflaw05.PatternParses", spec := "patternParses", inPlace := ["internal/abi.NoEscape"], unfollowed := true, recurses := true, apart := false, narrowed := true }
def PatternParsesUptoSaid : Prop := patternParsesUptoRow.holds Try.pinned (OpenSpec.upto patternParsesSpec)

/-- 'kerflaw05.PatternChecks', WHERE WHAT IT READS IS OF BULK AT MOST 1048576: true; the input reads as it did. -/
def patternChecksUptoRow : OpenClaim := { program := "ytojbgnglpbgoiaa", sum := "3e6ec019cb2fe09c2dcacf745bf0d76af2e651d2f4395e9105c99492b68a036e", func := "kerf/kerflaw05.PatternChecks", spec := "patternChecks", inPlace := ["internal/abi.NoEscape"], unfollowed := true, recurses := true, loops := true, apart := false, narrowed := true }
def PatternChecksUptoSaid : Prop := patternChecksUptoRow.holds Try.pinned (OpenSpec.upto patternChecksSpec)

/-- 'kerflaw05.PatternTurns', WHERE WHAT IT READS IS OF BULK AT MOST 1048576: true; the input reads as it did. -/
def patternTurnsUptoRow : OpenClaim := { program := "ytojbgnglpbgoiaa", sum := "3e6ec019cb2fe09c2dcacf745bf0d76af2e651d2f4395e9105c99492b68a036e", func := "kerf/kerflaw05.PatternTurns", spec := "patternTurns", inPlace := ["internal/abi.NoEscape"], unfollowed := true, recurses := true, loops := true, apart := false, narrowed := true }
def PatternTurnsUptoSaid : Prop := patternTurnsUptoRow.holds Try.pinned (OpenSpec.upto patternTurnsSpec)

/-- 'kerflaw05.PatternLaws', WHERE WHAT IT READS IS OF BULK AT MOST 1048576: true; the input reads as it did. -/
def patternLawsUptoRow : OpenClaim := { program := "ytojbgnglpbgoiaa", sum := "3e6ec019cb2fe09c2dcacf745bf0d76af2e651d2f4395e9105c99492b68a036e", func := "kerf/kerflaw05.PatternLaws", spec := "patternLaws", inPlace := ["internal/abi.NoEscape"], unfollowed := true, recurses := true, loops := true, apart := false, narrowed := true }
def PatternLawsUptoSaid : Prop := patternLawsUptoRow.holds Try.pinned (OpenSpec.upto patternLawsSpec)

/-- 'kerflaw05.PatternBack', WHERE WHAT IT READS IS OF BULK AT MOST 1048576: true; the input reads as it did. -/
def patternBackUptoRow : OpenClaim := { program := "ytojbgnglpbgoiaa", sum := "3e6ec019cb2fe09c2dcacf745bf0d76af2e651d2f4395e9105c99492b68a036e", func := "kerf/kerflaw05.PatternBack", spec := "patternBack", inPlace := ["internal/abi.NoEscape"], unfollowed := true, recurses := true, apart := false, narrowed := true }
def PatternBackUptoSaid : Prop := patternBackUptoRow.holds Try.pinned (OpenSpec.upto patternBackSpec)

end Rows
end Go.Proofs.Ytojbgnglpbgoiaa
