/-
  NARROWER THAN 'FOR EVERY INPUT', by the rows' own cells (each row's printed sentence says how): CursorNames: laid · CursorSteps: laid · CursorFar: laid · CursorRows: laid · CursorPaths: laid · CursorErases: laid.
  DERIVED. THE GIVEN ROWS OF THIS SEAT. 6 by the template 'for every input the law returns true; each argument reads behind the call as it read before'; 0 by the template 'total and deterministic' (their statements: YtpphpkbdanbmcaaGreatDoorTotals.lean).
  GIVEN WITH THE SEED: the statements are not yours to turn. If you find one false, say at which input.
  Laid BY PROGRAM, IN A SANDBOX (cutbox-rows.mjs): the forced cells as the released guide's own fill.sh prints them over the translation 56db0d444a5949b1… (all of the seat's roots in one cut). By AI agents, Wed Nov 11 2026. No macro, syntax, notation, axiom, sorry.
-/
import Derived.Test.YtpphpkbdanbmcaaGreatDoorChecked
import GoSem.PinnedTables
import GoSem.Claim
import GoSem.ClaimJoined
import GoSem.ClaimMapViews
import Derived.JoinedTies
import Derived.KernelRfl
namespace Go.Proofs.YtpphpkbdanbmcaaGreatDoor
/- THE CELL 'sum', in the pinned program and in every row, IS THE sha256 OF THE DUMP (.gsa) THAT YtpphpkbdanbmcaaGreatDoorProg.lean LOADS. Nothing in Lean hashes anything: it is a label: what it is worth is what the hold of that sum in a sandbox is worth. -/
noncomputable def Tryz.pinned : Pinned := { name := "ytpphpkbdanbmcaagreatdoor", sum := "56db0d444a5949b115ae0f7cf7642e298e867c086ff4e3faa1dafbc27506f09e", checked := Tryz.checked }
namespace Rows
def none {H : Type} : Left H := { results := [], args := [] }

/- WHAT THE LISTED PACKAGE-LEVEL VARIABLES READ AS WHEN THE CALL BEGINS. Each datum BY PROGRAM (the guide's laid-datum.mjs) off the statement by which the dump's own 'gosem.cut.vars' lays the variable. In a bare row this is a premise. The card (YtpphpkbdanbmcaaGreatDoorCards.lean) ties it to the program's text. -/
def laid_unicode_utf8_acceptRanges {H : Type} : DataW H := .agg [.agg [.lit (.int .u8 128), .lit (.int .u8 191)], .agg [.lit (.int .u8 160), .lit (.int .u8 191)], .agg [.lit (.int .u8 128), .lit (.int .u8 159)], .agg [.lit (.int .u8 144), .lit (.int .u8 191)], .agg [.lit (.int .u8 128), .lit (.int .u8 143)], .agg [.lit (.int .u8 0), .lit (.int .u8 0)], .agg [.lit (.int .u8 0), .lit (.int .u8 0)], .agg [.lit (.int .u8 0), .lit (.int .u8 0)], .agg [.lit (.int .u8 0), .lit (.int .u8 0)], .agg [.lit (.int .u8 0), .lit (.int .u8 0)], .agg [.lit (.int .u8 0), .lit (.int .u8 0)], .agg [.lit (.int .u8 0), .lit (.int .u8 0)], .agg [.lit (.int .u8 0), .lit (.int .u8 0)], .agg [.lit (.int .u8 0), .lit (.int .u8 0)], .agg [.lit (.int .u8 0), .lit (.int .u8 0)], .agg [.lit (.int .u8 0), .lit (.int .u8 0)]]
/-- One of Go's own tables, pinned by name: the form's constant. -/
def laid_unicode_utf8_first : DataW Unit := Go.Pinned.utf8First

/-- 'kerflaw21.CursorNames': WHATEVER THE INPUT: true; the input reads as it did. -/
def cursorNamesSpec : ChangeSpec := { name := "cursorNames", fn := fun _ => fun
  | [] => { results := [.lit (.bool true)], args := [] }
  | _ => none }
def cursorNamesRow : OpenClaim := { program := "ytpphpkbdanbmcaagreatdoor", sum := "56db0d444a5949b115ae0f7cf7642e298e867c086ff4e3faa1dafbc27506f09e", func := "kerf/kerflaw21.CursorNames", spec := "cursorNames", inPlace := ["internal/bytealg.IndexByteString", "internal/bytealg.IndexString"], unfollowed := true, recurses := true, named := ["unicode/utf8.first", "unicode/utf8.acceptRanges", "internal/bytealg.MaxLen"], apart := false, laid := [("unicode/utf8.acceptRanges", laid_unicode_utf8_acceptRanges), ("unicode/utf8.first", laid_unicode_utf8_first)] }
def CursorNamesSaid : Prop := cursorNamesRow.holds Tryz.pinned (OpenSpec.ofChange cursorNamesSpec)

/-- ITS FALSE NEIGHBOUR: 'it returns false'. Refute it at one input. -/
def cursorNamesWrong : ChangeSpec := { name := "cursorNames", fn := fun _ => fun
  | [] => { results := [.lit (.bool false)], args := [] }
  | _ => none }
def CursorNamesWrongFalsely : Prop := cursorNamesRow.holds Tryz.pinned (OpenSpec.ofChange cursorNamesWrong)

/-- 'kerflaw21.CursorSteps': WHATEVER THE INPUT: true; the input reads as it did. -/
def cursorStepsSpec : ChangeSpec := { name := "cursorSteps", fn := fun _ => fun
  | [d1, d2, d3, d4] => { results := [.lit (.bool true)], args := [d1, d2, d3, d4] }
  | _ => none }
def cursorStepsRow : OpenClaim := { program := "ytpphpkbdanbmcaagreatdoor", sum := "56db0d444a5949b115ae0f7cf7642e298e867c086ff4e3faa1dafbc27506f09e", func := "kerf/kerflaw21.CursorSteps", spec := "cursorSteps", inPlace := ["internal/bytealg.IndexByteString", "internal/bytealg.IndexString"], unfollowed := true, recurses := true, named := ["unicode/utf8.first", "unicode/utf8.acceptRanges", "internal/bytealg.MaxLen"], apart := false, laid := [("unicode/utf8.acceptRanges", laid_unicode_utf8_acceptRanges), ("unicode/utf8.first", laid_unicode_utf8_first)] }
def CursorStepsSaid : Prop := cursorStepsRow.holds Tryz.pinned (OpenSpec.ofChange cursorStepsSpec)

/-- ITS FALSE NEIGHBOUR: 'it returns false'. Refute it at one input. -/
def cursorStepsWrong : ChangeSpec := { name := "cursorSteps", fn := fun _ => fun
  | [d1, d2, d3, d4] => { results := [.lit (.bool false)], args := [d1, d2, d3, d4] }
  | _ => none }
def CursorStepsWrongFalsely : Prop := cursorStepsRow.holds Tryz.pinned (OpenSpec.ofChange cursorStepsWrong)

/-- 'kerflaw21.CursorFar': WHATEVER THE INPUT: true; the input reads as it did. -/
def cursorFarSpec : ChangeSpec := { name := "cursorFar", fn := fun _ => fun
  | [d1, d2, d3, d4] => { results := [.lit (.bool true)], args := [d1, d2, d3, d4] }
  | _ => none }
def cursorFarRow : OpenClaim := { program := "ytpphpkbdanbmcaagreatdoor", sum := "56db0d444a5949b115ae0f7cf7642e298e867c086ff4e3faa1dafbc27506f09e", func := "kerf/kerflaw21.CursorFar", spec := "cursorFar", inPlace := ["internal/bytealg.IndexByteString", "internal/bytealg.IndexString"], unfollowed := true, recurses := true, named := ["unicode/utf8.first", "unicode/utf8.acceptRanges", "internal/bytealg.MaxLen"], apart := false, laid := [("unicode/utf8.acceptRanges", laid_unicode_utf8_acceptRanges), ("unicode/utf8.first", laid_unicode_utf8_first)] }
def CursorFarSaid : Prop := cursorFarRow.holds Tryz.pinned (OpenSpec.ofChange cursorFarSpec)

/-- ITS FALSE NEIGHBOUR: 'it returns false'. Refute it at one input. -/
def cursorFarWrong : ChangeSpec := { name := "cursorFar", fn := fun _ => fun
  | [d1, d2, d3, d4] => { results := [.lit (.bool false)], args := [d1, d2, d3, d4] }
  | _ => none }
def CursorFarWrongFalsely : Prop := cursorFarRow.holds Tryz.pinned (OpenSpec.ofChange cursorFarWrong)

/-- 'kerflaw21.CursorRows': WHATEVER THE INPUT: true; the input reads as it did. -/
def cursorRowsSpec : ChangeSpec := { name := "cursorRows", fn := fun _ => fun
  | [d1, d2, d3, d4] => { results := [.lit (.bool true)], args := [d1, d2, d3, d4] }
  | _ => none }
def cursorRowsRow : OpenClaim := { program := "ytpphpkbdanbmcaagreatdoor", sum := "56db0d444a5949b115ae0f7cf7642e298e867c086ff4e3faa1dafbc27506f09e", func := "kerf/kerflaw21.CursorRows", spec := "cursorRows", inPlace := ["internal/bytealg.IndexByteString", "internal/bytealg.IndexString"], unfollowed := true, recurses := true, named := ["unicode/utf8.first", "unicode/utf8.acceptRanges", "internal/bytealg.MaxLen"], apart := false, laid := [("unicode/utf8.acceptRanges", laid_unicode_utf8_acceptRanges), ("unicode/utf8.first", laid_unicode_utf8_first)] }
def CursorRowsSaid : Prop := cursorRowsRow.holds Tryz.pinned (OpenSpec.ofChange cursorRowsSpec)

/-- ITS FALSE NEIGHBOUR: 'it returns false'. Refute it at one input. -/
def cursorRowsWrong : ChangeSpec := { name := "cursorRows", fn := fun _ => fun
  | [d1, d2, d3, d4] => { results := [.lit (.bool false)], args := [d1, d2, d3, d4] }
  | _ => none }
def CursorRowsWrongFalsely : Prop := cursorRowsRow.holds Tryz.pinned (OpenSpec.ofChange cursorRowsWrong)

/-- 'kerflaw21.CursorPaths': WHATEVER THE INPUT: true; the input reads as it did. -/
def cursorPathsSpec : ChangeSpec := { name := "cursorPaths", fn := fun _ => fun
  | [d1, d2, d3, d4] => { results := [.lit (.bool true)], args := [d1, d2, d3, d4] }
  | _ => none }
def cursorPathsRow : OpenClaim := { program := "ytpphpkbdanbmcaagreatdoor", sum := "56db0d444a5949b115ae0f7cf7642e298e867c086ff4e3faa1dafbc27506f09e", func := "kerf/kerflaw21.CursorPaths", spec := "cursorPaths", inPlace := ["internal/bytealg.IndexByteString", "internal/bytealg.IndexString"], unfollowed := true, recurses := true, named := ["unicode/utf8.first", "unicode/utf8.acceptRanges", "internal/bytealg.MaxLen"], apart := false, laid := [("unicode/utf8.acceptRanges", laid_unicode_utf8_acceptRanges), ("unicode/utf8.first", laid_unicode_utf8_first)] }
def CursorPathsSaid : Prop := cursorPathsRow.holds Tryz.pinned (OpenSpec.ofChange cursorPathsSpec)

/-- ITS FALSE NEIGHBOUR: 'it returns false'. Refute it at one input. -/
def cursorPathsWrong : ChangeSpec := { name := "cursorPaths", fn := fun _ => fun
  | [d1, d2, d3, d4] => { results := [.lit (.bool false)], args := [d1, d2, d3, d4] }
  | _ => none }
def CursorPathsWrongFalsely : Prop := cursorPathsRow.holds Tryz.pinned (OpenSpec.ofChange cursorPathsWrong)

/-- 'kerflaw21.CursorErases': WHATEVER THE INPUT: true; the input reads as it did. -/
def cursorErasesSpec : ChangeSpec := { name := "cursorErases", fn := fun _ => fun
  | [d1, d2, d3, d4, d5] => { results := [.lit (.bool true)], args := [d1, d2, d3, d4, d5] }
  | _ => none }
def cursorErasesRow : OpenClaim := { program := "ytpphpkbdanbmcaagreatdoor", sum := "56db0d444a5949b115ae0f7cf7642e298e867c086ff4e3faa1dafbc27506f09e", func := "kerf/kerflaw21.CursorErases", spec := "cursorErases", inPlace := ["internal/bytealg.IndexByteString", "internal/bytealg.IndexString"], unfollowed := true, recurses := true, named := ["unicode/utf8.first", "unicode/utf8.acceptRanges", "internal/bytealg.MaxLen"], apart := false, laid := [("unicode/utf8.acceptRanges", laid_unicode_utf8_acceptRanges), ("unicode/utf8.first", laid_unicode_utf8_first)] }
def CursorErasesSaid : Prop := cursorErasesRow.holds Tryz.pinned (OpenSpec.ofChange cursorErasesSpec)

/-- ITS FALSE NEIGHBOUR: 'it returns false'. Refute it at one input. -/
def cursorErasesWrong : ChangeSpec := { name := "cursorErases", fn := fun _ => fun
  | [d1, d2, d3, d4, d5] => { results := [.lit (.bool false)], args := [d1, d2, d3, d4, d5] }
  | _ => none }
def CursorErasesWrongFalsely : Prop := cursorErasesRow.holds Tryz.pinned (OpenSpec.ofChange cursorErasesWrong)

/- THE SECOND FORM. 'bulk': how many values and letters a reading holds, each counted each time it is reached (what is shared counts as often as it is met; a slice's spare places count too). A statement '..UptoSaid' is the law's where the arguments, and the package variables that the reading takes, are together of bulk at most 1048576: NARROWER than '..Said'. Prove '..Said' where nothing that the law and all that it calls make is longer than what came in: it says more and counts as full. Else prove '..UptoSaid'. A law counts once. -/
mutual
def uptoBulk {H : Type} : DataW H → Nat
  | .lit (.string bytes) => bytes.length + 1
  | .lit _ => 1
  | .nil => 1
  | .ptr d => uptoBulk d + 1
  | .slice elems spare => uptoBulkAll elems + uptoBulkAll spare + 1
  | .agg parts => uptoBulkAll parts + 1
  | .iface _ d => uptoBulk d + 1
  | .map entries => uptoBulkEntries entries + 1
  | .held _ => 1
def uptoBulkAll {H : Type} : List (DataW H) → Nat
  | [] => 0
  | d :: r => uptoBulk d + uptoBulkAll r
def uptoBulkEntries {H : Type} : List (Lit × DataW H) → Nat
  | [] => 0
  | x :: r => uptoBulkEntry x + uptoBulkEntries r
def uptoBulkEntry {H : Type} : Lit × DataW H → Nat
  | (.string bytes, d) => bytes.length + uptoBulk d + 1
  | (_, d) => uptoBulk d + 1
 end
def uptoSmall : (H : Type) → List (DataW H) → Bool := fun _ ds => decide (uptoBulkAll ds ≤ 1048576)
def OpenSpec.upto (s : _root_.Go.ChangeSpec) : _root_.Go.OpenSpec := { _root_.Go.OpenSpec.ofChange s with cond := some uptoSmall }

/-- 'kerflaw21.CursorNames', WHERE WHAT IT READS IS OF BULK AT MOST 1048576: true; the input reads as it did. -/
def cursorNamesUptoRow : OpenClaim := { program := "ytpphpkbdanbmcaagreatdoor", sum := "56db0d444a5949b115ae0f7cf7642e298e867c086ff4e3faa1dafbc27506f09e", func := "kerf/kerflaw21.CursorNames", spec := "cursorNames", inPlace := ["internal/bytealg.IndexByteString", "internal/bytealg.IndexString"], unfollowed := true, recurses := true, named := ["unicode/utf8.first", "unicode/utf8.acceptRanges", "internal/bytealg.MaxLen"], apart := false, laid := [("unicode/utf8.acceptRanges", laid_unicode_utf8_acceptRanges), ("unicode/utf8.first", laid_unicode_utf8_first)], narrowed := true }
def CursorNamesUptoSaid : Prop := cursorNamesUptoRow.holds Tryz.pinned (OpenSpec.upto cursorNamesSpec)

/-- 'kerflaw21.CursorSteps', WHERE WHAT IT READS IS OF BULK AT MOST 1048576: true; the input reads as it did. -/
def cursorStepsUptoRow : OpenClaim := { program := "ytpphpkbdanbmcaagreatdoor", sum := "56db0d444a5949b115ae0f7cf7642e298e867c086ff4e3faa1dafbc27506f09e", func := "kerf/kerflaw21.CursorSteps", spec := "cursorSteps", inPlace := ["internal/bytealg.IndexByteString", "internal/bytealg.IndexString"], unfollowed := true, recurses := true, named := ["unicode/utf8.first", "unicode/utf8.acceptRanges", "internal/bytealg.MaxLen"], apart := false, laid := [("unicode/utf8.acceptRanges", laid_unicode_utf8_acceptRanges), ("unicode/utf8.first", laid_unicode_utf8_first)], narrowed := true }
def CursorStepsUptoSaid : Prop := cursorStepsUptoRow.holds Tryz.pinned (OpenSpec.upto cursorStepsSpec)

/-- 'kerflaw21.CursorFar', WHERE WHAT IT READS IS OF BULK AT MOST 1048576: true; the input reads as it did. -/
def cursorFarUptoRow : OpenClaim := { program := "ytpphpkbdanbmcaagreatdoor", sum := "56db0d444a5949b115ae0f7cf7642e298e867c086ff4e3faa1dafbc27506f09e", func := "kerf/kerflaw21.CursorFar", spec := "cursorFar", inPlace := ["internal/bytealg.IndexByteString", "internal/bytealg.IndexString"], unfollowed := true, recurses := true, named := ["unicode/utf8.first", "unicode/utf8.acceptRanges", "internal/bytealg.MaxLen"], apart := false, laid := [("unicode/utf8.acceptRanges", laid_unicode_utf8_acceptRanges), ("unicode/utf8.first", laid_unicode_utf8_first)], narrowed := true }
def CursorFarUptoSaid : Prop := cursorFarUptoRow.holds Tryz.pinned (OpenSpec.upto cursorFarSpec)

/-- 'kerflaw21.CursorRows', WHERE WHAT IT READS IS OF BULK AT MOST 1048576: true; the input reads as it did. -/
def cursorRowsUptoRow : OpenClaim := { program := "ytpphpkbdanbmcaagreatdoor", sum := "56db0d444a5949b115ae0f7cf7642e298e867c086ff4e3faa1dafbc27506f09e", func := "kerf/kerflaw21.CursorRows", spec := "cursorRows", inPlace := ["internal/bytealg.IndexByteString", "internal/bytealg.IndexString"], unfollowed := true, recurses := true, named := ["unicode/utf8.first", "unicode/utf8.acceptRanges", "internal/bytealg.MaxLen"], apart := false, laid := [("unicode/utf8.acceptRanges", laid_unicode_utf8_acceptRanges), ("unicode/utf8.first", laid_unicode_utf8_first)], narrowed := true }
def CursorRowsUptoSaid : Prop := cursorRowsUptoRow.holds Tryz.pinned (OpenSpec.upto cursorRowsSpec)

/-- 'kerflaw21.CursorPaths', WHERE WHAT IT READS IS OF BULK AT MOST 1048576: true; the input reads as it did. -/
def cursorPathsUptoRow : OpenClaim := { program := "ytpphpkbdanbmcaagreatdoor", sum := "56db0d444a5949b115ae0f7cf7642e298e867c086ff4e3faa1dafbc27506f09e", func := "kerf/kerflaw21.CursorPaths", spec := "cursorPaths", inPlace := ["internal/bytealg.IndexByteString", "internal/bytealg.IndexString"], unfollowed := true, recurses := true, named := ["unicode/utf8.first", "unicode/utf8.acceptRanges", "internal/bytealg.MaxLen"], apart := false, laid := [("unicode/utf8.acceptRanges", laid_unicode_utf8_acceptRanges), ("unicode/utf8.first", laid_unicode_utf8_first)], narrowed := true }
def CursorPathsUptoSaid : Prop := cursorPathsUptoRow.holds Tryz.pinned (OpenSpec.upto cursorPathsSpec)

/-- 'kerflaw21.CursorErases', WHERE WHAT IT READS IS OF BULK AT MOST 1048576: true; the input reads as it did. -/
def cursorErasesUptoRow : OpenClaim := { program := "ytpphpkbdanbmcaagreatdoor", sum := "56db0d444a5949b115ae0f7cf7642e298e867c086ff4e3faa1dafbc27506f09e", func := "kerf/kerflaw21.CursorErases", spec := "cursorErases", inPlace := ["internal/bytealg.IndexByteString", "internal/bytealg.IndexString"], unfollowed := true, recurses := true, named := ["unicode/utf8.first", "unicode/utf8.acceptRanges", "internal/bytealg.MaxLen"], apart := false, laid := [("unicode/utf8.acceptRanges", laid_unicode_utf8_acceptRanges), ("unicode/utf8.first", laid_unicode_utf8_first)], narrowed := true }
def CursorErasesUptoSaid : Prop := cursorErasesUptoRow.holds Tryz.pinned (OpenSpec.upto cursorErasesSpec)

end Rows
end Go.Proofs.YtpphpkbdanbmcaaGreatDoor
