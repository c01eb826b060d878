/-
  NARROWER THAN 'FOR EVERY INPUT', by the rows' own cells (each row's printed sentence says how): WrapWhole: laid · PlacesNames: laid · PlacesEach: laid · PlacesBack: laid · PlacesMove: laid.
  DERIVED. THE GIVEN ROWS OF THIS SEAT. 5 by the template 'for every input the law returns true; each argument reads behind the call as it read before'; 0 by the template 'total and deterministic' (their statements: YtffbdnlfknomnaaDoorTotals.lean).
  GIVEN WITH THE SEED: the statements are not yours to turn. If you find one false, say at which input.
  Laid BY PROGRAM, IN A SANDBOX (cutbox-rows.mjs): the forced cells as the released guide's own fill.sh prints them over the translation d6bfd03fcbc60d22… (all of the seat's roots in one cut). By AI agents, Wed Nov 11 2026. No macro, syntax, notation, axiom, sorry.
-/
import Derived.Test.YtffbdnlfknomnaaDoorChecked
import GoSem.PinnedTables
import GoSem.Claim
import GoSem.ClaimJoined
import GoSem.ClaimMapViews
import Derived.JoinedTies
import Derived.KernelRfl
namespace Go.Proofs.YtffbdnlfknomnaaDoor
/- THE CELL 'sum', in the pinned program and in every row, IS THE sha256 OF THE DUMP (.gsa) THAT YtffbdnlfknomnaaDoorProg.lean LOADS. Nothing in Lean hashes anything: it is a label: what it is worth is what the hold of that sum in a sandbox is worth. -/
noncomputable def Tryd.pinned : Pinned := { name := "ytffbdnlfknomnaadoor", sum := "d6bfd03fcbc60d222319b0111b9e2eb7961daf764fc15aa67380db02d04ea5ff", checked := Tryd.checked }
namespace Rows
def none {H : Type} : Left H := { results := [], args := [] }

/- WHAT THE LISTED PACKAGE-LEVEL VARIABLES READ AS WHEN THE CALL BEGINS. Each datum BY PROGRAM (the guide's laid-datum.mjs) off the statement by which the dump's own 'gosem.cut.vars' lays the variable. In a bare row this is a premise. The card (YtffbdnlfknomnaaDoorCards.lean) ties it to the program's text. -/
def laid_unicode_utf8_acceptRanges {H : Type} : DataW H := .agg [.agg [.lit (.int .u8 128), .lit (.int .u8 191)], .agg [.lit (.int .u8 160), .lit (.int .u8 191)], .agg [.lit (.int .u8 128), .lit (.int .u8 159)], .agg [.lit (.int .u8 144), .lit (.int .u8 191)], .agg [.lit (.int .u8 128), .lit (.int .u8 143)], .agg [.lit (.int .u8 0), .lit (.int .u8 0)], .agg [.lit (.int .u8 0), .lit (.int .u8 0)], .agg [.lit (.int .u8 0), .lit (.int .u8 0)], .agg [.lit (.int .u8 0), .lit (.int .u8 0)], .agg [.lit (.int .u8 0), .lit (.int .u8 0)], .agg [.lit (.int .u8 0), .lit (.int .u8 0)], .agg [.lit (.int .u8 0), .lit (.int .u8 0)], .agg [.lit (.int .u8 0), .lit (.int .u8 0)], .agg [.lit (.int .u8 0), .lit (.int .u8 0)], .agg [.lit (.int .u8 0), .lit (.int .u8 0)], .agg [.lit (.int .u8 0), .lit (.int .u8 0)]]
/-- One of Go's own tables, pinned by name: the form's constant. -/
def laid_unicode_utf8_first : DataW Unit := Go.Pinned.utf8First

/-- 'kerflaw16.WrapWhole': WHATEVER THE INPUT: true; the input reads as it did. -/
def wrapWholeSpec : ChangeSpec := { name := "wrapWhole", fn := fun _ => fun
  | [d1, d2, d3] => { results := [.lit (.bool true)], args := [d1, d2, d3] }
  | _ => none }
def wrapWholeRow : OpenClaim := { program := "ytffbdnlfknomnaadoor", sum := "d6bfd03fcbc60d222319b0111b9e2eb7961daf764fc15aa67380db02d04ea5ff", func := "kerf/kerflaw16.WrapWhole", spec := "wrapWhole", inPlace := ["internal/bytealg.IndexByteString", "internal/bytealg.IndexString"], unfollowed := true, recurses := true, named := ["unicode/utf8.first", "unicode/utf8.acceptRanges", "internal/bytealg.MaxLen"], apart := false, laid := [("unicode/utf8.acceptRanges", laid_unicode_utf8_acceptRanges), ("unicode/utf8.first", laid_unicode_utf8_first)] }
def WrapWholeSaid : Prop := wrapWholeRow.holds Tryd.pinned (OpenSpec.ofChange wrapWholeSpec)

/-- ITS FALSE NEIGHBOUR: 'it returns false'. Refute it at one input. -/
def wrapWholeWrong : ChangeSpec := { name := "wrapWhole", fn := fun _ => fun
  | [d1, d2, d3] => { results := [.lit (.bool false)], args := [d1, d2, d3] }
  | _ => none }
def WrapWholeWrongFalsely : Prop := wrapWholeRow.holds Tryd.pinned (OpenSpec.ofChange wrapWholeWrong)

/-- 'kerflaw17.PlacesNames': WHATEVER THE INPUT: true; the input reads as it did. -/
def placesNamesSpec : ChangeSpec := { name := "placesNames", fn := fun _ => fun
  | [] => { results := [.lit (.bool true)], args := [] }
  | _ => none }
def placesNamesRow : OpenClaim := { program := "ytffbdnlfknomnaadoor", sum := "d6bfd03fcbc60d222319b0111b9e2eb7961daf764fc15aa67380db02d04ea5ff", func := "kerf/kerflaw17.PlacesNames", spec := "placesNames", unfollowed := true, recurses := true, named := ["unicode/utf8.first", "unicode/utf8.acceptRanges"], apart := false, laid := [("unicode/utf8.acceptRanges", laid_unicode_utf8_acceptRanges), ("unicode/utf8.first", laid_unicode_utf8_first)] }
def PlacesNamesSaid : Prop := placesNamesRow.holds Tryd.pinned (OpenSpec.ofChange placesNamesSpec)

/-- ITS FALSE NEIGHBOUR: 'it returns false'. Refute it at one input. -/
def placesNamesWrong : ChangeSpec := { name := "placesNames", fn := fun _ => fun
  | [] => { results := [.lit (.bool false)], args := [] }
  | _ => none }
def PlacesNamesWrongFalsely : Prop := placesNamesRow.holds Tryd.pinned (OpenSpec.ofChange placesNamesWrong)

/-- 'kerflaw17.PlacesEach': WHATEVER THE INPUT: true; the input reads as it did. -/
def placesEachSpec : ChangeSpec := { name := "placesEach", fn := fun _ => fun
  | [d1, d2] => { results := [.lit (.bool true)], args := [d1, d2] }
  | _ => none }
def placesEachRow : OpenClaim := { program := "ytffbdnlfknomnaadoor", sum := "d6bfd03fcbc60d222319b0111b9e2eb7961daf764fc15aa67380db02d04ea5ff", func := "kerf/kerflaw17.PlacesEach", spec := "placesEach", unfollowed := true, recurses := true, named := ["unicode/utf8.first", "unicode/utf8.acceptRanges"], apart := false, laid := [("unicode/utf8.acceptRanges", laid_unicode_utf8_acceptRanges), ("unicode/utf8.first", laid_unicode_utf8_first)] }
def PlacesEachSaid : Prop := placesEachRow.holds Tryd.pinned (OpenSpec.ofChange placesEachSpec)

/-- ITS FALSE NEIGHBOUR: 'it returns false'. Refute it at one input. -/
def placesEachWrong : ChangeSpec := { name := "placesEach", fn := fun _ => fun
  | [d1, d2] => { results := [.lit (.bool false)], args := [d1, d2] }
  | _ => none }
def PlacesEachWrongFalsely : Prop := placesEachRow.holds Tryd.pinned (OpenSpec.ofChange placesEachWrong)

/-- 'kerflaw17.PlacesBack': WHATEVER THE INPUT: true; the input reads as it did. -/
def placesBackSpec : ChangeSpec := { name := "placesBack", fn := fun _ => fun
  | [d] => { results := [.lit (.bool true)], args := [d] }
  | _ => none }
def placesBackRow : OpenClaim := { program := "ytffbdnlfknomnaadoor", sum := "d6bfd03fcbc60d222319b0111b9e2eb7961daf764fc15aa67380db02d04ea5ff", func := "kerf/kerflaw17.PlacesBack", spec := "placesBack", unfollowed := true, recurses := true, named := ["unicode/utf8.first", "unicode/utf8.acceptRanges"], apart := false, laid := [("unicode/utf8.acceptRanges", laid_unicode_utf8_acceptRanges), ("unicode/utf8.first", laid_unicode_utf8_first)] }
def PlacesBackSaid : Prop := placesBackRow.holds Tryd.pinned (OpenSpec.ofChange placesBackSpec)

/-- ITS FALSE NEIGHBOUR: 'it returns false'. Refute it at one input. -/
def placesBackWrong : ChangeSpec := { name := "placesBack", fn := fun _ => fun
  | [d] => { results := [.lit (.bool false)], args := [d] }
  | _ => none }
def PlacesBackWrongFalsely : Prop := placesBackRow.holds Tryd.pinned (OpenSpec.ofChange placesBackWrong)

/-- 'kerflaw17.PlacesMove': WHATEVER THE INPUT: true; the input reads as it did. -/
def placesMoveSpec : ChangeSpec := { name := "placesMove", fn := fun _ => fun
  | [d1, d2, d3, d4, d5] => { results := [.lit (.bool true)], args := [d1, d2, d3, d4, d5] }
  | _ => none }
def placesMoveRow : OpenClaim := { program := "ytffbdnlfknomnaadoor", sum := "d6bfd03fcbc60d222319b0111b9e2eb7961daf764fc15aa67380db02d04ea5ff", func := "kerf/kerflaw17.PlacesMove", spec := "placesMove", unfollowed := true, recurses := true, named := ["unicode/utf8.first", "unicode/utf8.acceptRanges"], apart := false, laid := [("unicode/utf8.acceptRanges", laid_unicode_utf8_acceptRanges), ("unicode/utf8.first", laid_unicode_utf8_first)] }
def PlacesMoveSaid : Prop := placesMoveRow.holds Tryd.pinned (OpenSpec.ofChange placesMoveSpec)

/-- ITS FALSE NEIGHBOUR: 'it returns false'. Refute it at one input. -/
def placesMoveWrong : ChangeSpec := { name := "placesMove", fn := fun _ => fun
  | [d1, d2, d3, d4, d5] => { results := [.lit (.bool false)], args := [d1, d2, d3, d4, d5] }
  | _ => none }
def PlacesMoveWrongFalsely : Prop := placesMoveRow.holds Tryd.pinned (OpenSpec.ofChange placesMoveWrong)

/- THE SECOND FORM. 'bulk': how many values and letters a reading holds, each counted each time it is reached (what is shared counts as often as it is met; a slice's spare places count too). A statement '..UptoSaid' is the law's where the arguments, and the package variables that the reading takes, are together of bulk at most 1048576: NARROWER than '..Said'. Prove '..Said' where nothing that the law and all that it calls make is longer than what came in: it says more and counts as full. Else prove '..UptoSaid'. A law counts once. -/
mutual
def uptoBulk {H : Type} : DataW H → Nat
  | .lit (.string bytes) => bytes.length + 1
  | .lit _ => 1
  | .nil => 1
  | .ptr d => uptoBulk d + 1
  | .slice elems spare => uptoBulkAll elems + uptoBulkAll spare + 1
  | .agg parts => uptoBulkAll parts + 1
  | .iface _ d => uptoBulk d + 1
  | .map entries => uptoBulkEntries entries + 1
  | .held _ => 1
def uptoBulkAll {H : Type} : List (DataW H) → Nat
  | [] => 0
  | d :: r => uptoBulk d + uptoBulkAll r
def uptoBulkEntries {H : Type} : List (Lit × DataW H) → Nat
  | [] => 0
  | x :: r => uptoBulkEntry x + uptoBulkEntries r
def uptoBulkEntry {H : Type} : Lit × DataW H → Nat
  | (.string bytes, d) => bytes.length + uptoBulk d + 1
  | (_, d) => uptoBulk d + 1
 end
def uptoSmall : (H : Type) → List (DataW H) → Bool := fun _ ds => decide (uptoBulkAll ds ≤ 1048576)
def OpenSpec.upto (s : _root_.Go.ChangeSpec) : _root_.Go.OpenSpec := { _root_.Go.OpenSpec.ofChange s with cond := some uptoSmall }

/-- 'kerflaw16.WrapWhole', WHERE WHAT IT READS IS OF BULK AT MOST 1048576: true; the input reads as it did. -/
def wrapWholeUptoRow : OpenClaim := { program := "ytffbdnlfknomnaadoor", sum := "d6bfd03fcbc60d222319b0111b9e2eb7961daf764fc15aa67380db02d04ea5ff", func := "kerf/kerflaw16.WrapWhole", spec := "wrapWhole", inPlace := ["internal/bytealg.IndexByteString", "internal/bytealg.IndexString"], unfollowed := true, recurses := true, named := ["unicode/utf8.first", "unicode/utf8.acceptRanges", "internal/bytealg.MaxLen"], apart := false, laid := [("unicode/utf8.acceptRanges", laid_unicode_utf8_acceptRanges), ("unicode/utf8.first", laid_unicode_utf8_first)], narrowed := true }
def WrapWholeUptoSaid : Prop := wrapWholeUptoRow.holds Tryd.pinned (OpenSpec.upto wrapWholeSpec)

/-- 'kerflaw17.PlacesNames', WHERE WHAT IT READS IS OF BULK AT MOST 1048576: true; the input reads as it did. -/
def placesNamesUptoRow : OpenClaim := { program := "ytffbdnlfknomnaadoor", sum := "d6bfd03fcbc60d222319b0111b9e2eb7961daf764fc15aa67380db02d04ea5ff", func := "kerf/kerflaw17.PlacesNames", spec := "placesNames", unfollowed := true, recurses := true, named := ["unicode/utf8.first", "unicode/utf8.acceptRanges"], apart := false, laid := [("unicode/utf8.acceptRanges", laid_unicode_utf8_acceptRanges), ("unicode/utf8.first", laid_unicode_utf8_first)], narrowed := true }
def PlacesNamesUptoSaid : Prop := placesNamesUptoRow.holds Tryd.pinned (OpenSpec.upto placesNamesSpec)

/-- 'kerflaw17.PlacesEach', WHERE WHAT IT READS IS OF BULK AT MOST 1048576: true; the input reads as it did. -/
def placesEachUptoRow : OpenClaim := { program := "ytffbdnlfknomnaadoor", sum := "d6bfd03fcbc60d222319b0111b9e2eb7961daf764fc15aa67380db02d04ea5ff", func := "kerf/kerflaw17.PlacesEach", spec := "placesEach", unfollowed := true, recurses := true, named := ["unicode/utf8.first", "unicode/utf8.acceptRanges"], apart := false, laid := [("unicode/utf8.acceptRanges", laid_unicode_utf8_acceptRanges), ("unicode/utf8.first", laid_unicode_utf8_first)], narrowed := true }
def PlacesEachUptoSaid : Prop := placesEachUptoRow.holds Tryd.pinned (OpenSpec.upto placesEachSpec)

/-- 'kerflaw17.PlacesBack', WHERE WHAT IT READS IS OF BULK AT MOST 1048576: true; the input reads as it did. -/
def placesBackUptoRow : OpenClaim := { program := "ytffbdnlfknomnaadoor", sum := "d6bfd03fcbc60d222319b0111b9e2eb7961daf764fc15aa67380db02d04ea5ff", func := "kerf/kerflaw17.PlacesBack", spec := "placesBack", unfollowed := true, recurses := true, named := ["unicode/utf8.first", "unicode/utf8.acceptRanges"], apart := false, laid := [("unicode/utf8.acceptRanges", laid_unicode_utf8_acceptRanges), ("unicode/utf8.first", laid_unicode_utf8_first)], narrowed := true }
def PlacesBackUptoSaid : Prop := placesBackUptoRow.holds Tryd.pinned (OpenSpec.upto placesBackSpec)

/-- 'kerflaw17.PlacesMove', WHERE WHAT IT READS IS OF BULK AT MOST 1048576: true; the input reads as it did. -/
def placesMoveUptoRow : OpenClaim := { program := "ytffbdnlfknomnaadoor", sum := "d6bfd03fcbc60d222319b0111b9e2eb7961daf764fc15aa67380db02d04ea5ff", func := "kerf/kerflaw17.PlacesMove", spec := "placesMove", unfollowed := true, recurses := true, named := ["unicode/utf8.first", "unicode/utf8.acceptRanges"], apart := false, laid := [("unicode/utf8.acceptRanges", laid_unicode_utf8_acceptRanges), ("unicode/utf8.first", laid_unicode_utf8_first)], narrowed := true }
def PlacesMoveUptoSaid : Prop := placesMoveUptoRow.holds Tryd.pinned (OpenSpec.upto placesMoveSpec)

end Rows
end Go.Proofs.YtffbdnlfknomnaaDoor
