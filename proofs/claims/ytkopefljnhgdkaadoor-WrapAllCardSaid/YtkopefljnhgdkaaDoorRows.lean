/-
  NARROWER THAN 'FOR EVERY INPUT', by the rows' own cells (each row's printed sentence says how): WrapFewest: laid · WrapLeast: laid · WrapAll: laid · WrapWider: laid · WrapWhole: laid.
  DERIVED. THE GIVEN ROWS OF THIS SEAT. 5 by the template 'for every input the law returns true; each argument reads behind the call as it read before'; 0 by the template 'total and deterministic' (their statements: YtkopefljnhgdkaaDoorTotals.lean).
  GIVEN WITH THE SEED: the statements are not yours to turn. If you find one false, say at which input.
  Laid BY PROGRAM, IN A SANDBOX (cutbox-rows.mjs): the forced cells as the released guide's own fill.sh prints them over the translation 0d718603d4854c66… (all of the seat's roots in one cut). By AI agents, Wed Nov 11 2026. No macro, syntax, notation, axiom, sorry.
-/
import Derived.Test.YtkopefljnhgdkaaDoorChecked
import GoSem.PinnedTables
import GoSem.Claim
import GoSem.ClaimJoined
import GoSem.ClaimMapViews
import Derived.JoinedTies
import Derived.KernelRfl
namespace Go.Proofs.YtkopefljnhgdkaaDoor
/- THE CELL 'sum', in the pinned program and in every row, IS THE sha256 OF THE DUMP (.gsa) THAT YtkopefljnhgdkaaDoorProg.lean LOADS. Nothing in Lean hashes anything: it is a label: what it is worth is what the hold of that sum in a sandbox is worth. -/
noncomputable def Tryd.pinned : Pinned := { name := "ytkopefljnhgdkaadoor", sum := "0d718603d4854c66cc868f8b343c317ad21532667c93574679535258987b848a", checked := Tryd.checked }
namespace Rows
def none {H : Type} : Left H := { results := [], args := [] }

/- WHAT THE LISTED PACKAGE-LEVEL VARIABLES READ AS WHEN THE CALL BEGINS. Each datum BY PROGRAM (the guide's laid-datum.mjs) off the statement by which the dump's own 'gosem.cut.vars' lays the variable. In a bare row this is a premise. The card (YtkopefljnhgdkaaDoorCards.lean) ties it to the program's text. -/
def laid_unicode_utf8_acceptRanges {H : Type} : DataW H := .agg [.agg [.lit (.int .u8 128), .lit (.int .u8 191)], .agg [.lit (.int .u8 160), .lit (.int .u8 191)], .agg [.lit (.int .u8 128), .lit (.int .u8 159)], .agg [.lit (.int .u8 144), .lit (.int .u8 191)], .agg [.lit (.int .u8 128), .lit (.int .u8 143)], .agg [.lit (.int .u8 0), .lit (.int .u8 0)], .agg [.lit (.int .u8 0), .lit (.int .u8 0)], .agg [.lit (.int .u8 0), .lit (.int .u8 0)], .agg [.lit (.int .u8 0), .lit (.int .u8 0)], .agg [.lit (.int .u8 0), .lit (.int .u8 0)], .agg [.lit (.int .u8 0), .lit (.int .u8 0)], .agg [.lit (.int .u8 0), .lit (.int .u8 0)], .agg [.lit (.int .u8 0), .lit (.int .u8 0)], .agg [.lit (.int .u8 0), .lit (.int .u8 0)], .agg [.lit (.int .u8 0), .lit (.int .u8 0)], .agg [.lit (.int .u8 0), .lit (.int .u8 0)]]
/-- One of Go's own tables, pinned by name: the form's constant. -/
def laid_unicode_utf8_first : DataW Unit := Go.Pinned.utf8First

/-- 'kerflaw16.WrapFewest': WHATEVER THE INPUT: true; the input reads as it did. -/
def wrapFewestSpec : ChangeSpec := { name := "wrapFewest", fn := fun _ => fun
  | [d1, d2, d3] => { results := [.lit (.bool true)], args := [d1, d2, d3] }
  | _ => none }
def wrapFewestRow : OpenClaim := { program := "ytkopefljnhgdkaadoor", sum := "0d718603d4854c66cc868f8b343c317ad21532667c93574679535258987b848a", func := "kerf/kerflaw16.WrapFewest", spec := "wrapFewest", inPlace := ["internal/bytealg.IndexByteString", "internal/bytealg.IndexString"], unfollowed := true, recurses := true, named := ["unicode/utf8.first", "unicode/utf8.acceptRanges", "internal/bytealg.MaxLen"], apart := false, laid := [("unicode/utf8.acceptRanges", laid_unicode_utf8_acceptRanges), ("unicode/utf8.first", laid_unicode_utf8_first)] }
def WrapFewestSaid : Prop := wrapFewestRow.holds Tryd.pinned (OpenSpec.ofChange wrapFewestSpec)

/-- ITS FALSE NEIGHBOUR: 'it returns false'. Refute it at one input. -/
def wrapFewestWrong : ChangeSpec := { name := "wrapFewest", fn := fun _ => fun
  | [d1, d2, d3] => { results := [.lit (.bool false)], args := [d1, d2, d3] }
  | _ => none }
def WrapFewestWrongFalsely : Prop := wrapFewestRow.holds Tryd.pinned (OpenSpec.ofChange wrapFewestWrong)

/-- 'kerflaw16.WrapLeast': WHATEVER THE INPUT: true; the input reads as it did. -/
def wrapLeastSpec : ChangeSpec := { name := "wrapLeast", fn := fun _ => fun
  | [d1, d2, d3] => { results := [.lit (.bool true)], args := [d1, d2, d3] }
  | _ => none }
def wrapLeastRow : OpenClaim := { program := "ytkopefljnhgdkaadoor", sum := "0d718603d4854c66cc868f8b343c317ad21532667c93574679535258987b848a", func := "kerf/kerflaw16.WrapLeast", spec := "wrapLeast", inPlace := ["internal/bytealg.IndexByteString", "internal/bytealg.IndexString"], unfollowed := true, recurses := true, named := ["unicode/utf8.first", "unicode/utf8.acceptRanges", "internal/bytealg.MaxLen"], apart := false, laid := [("unicode/utf8.acceptRanges", laid_unicode_utf8_acceptRanges), ("unicode/utf8.first", laid_unicode_utf8_first)] }
def WrapLeastSaid : Prop := wrapLeastRow.holds Tryd.pinned (OpenSpec.ofChange wrapLeastSpec)

/-- ITS FALSE NEIGHBOUR: 'it returns false'. Refute it at one input. -/
def wrapLeastWrong : ChangeSpec := { name := "wrapLeast", fn := fun _ => fun
  | [d1, d2, d3] => { results := [.lit (.bool false)], args := [d1, d2, d3] }
  | _ => none }
def WrapLeastWrongFalsely : Prop := wrapLeastRow.holds Tryd.pinned (OpenSpec.ofChange wrapLeastWrong)

/-- 'kerflaw16.WrapAll': WHATEVER THE INPUT: true; the input reads as it did. -/
def wrapAllSpec : ChangeSpec := { name := "wrapAll", fn := fun _ => fun
  | [d1, d2] => { results := [.lit (.bool true)], args := [d1, d2] }
  | _ => none }
def wrapAllRow : OpenClaim := { program := "ytkopefljnhgdkaadoor", sum := "0d718603d4854c66cc868f8b343c317ad21532667c93574679535258987b848a", func := "kerf/kerflaw16.WrapAll", spec := "wrapAll", inPlace := ["internal/bytealg.IndexByteString", "internal/bytealg.IndexString"], unfollowed := true, recurses := true, named := ["unicode/utf8.first", "unicode/utf8.acceptRanges", "internal/bytealg.MaxLen"], apart := false, laid := [("unicode/utf8.acceptRanges", laid_unicode_utf8_acceptRanges), ("unicode/utf8.first", laid_unicode_utf8_first)] }
def WrapAllSaid : Prop := wrapAllRow.holds Tryd.pinned (OpenSpec.ofChange wrapAllSpec)

/-- ITS FALSE NEIGHBOUR: 'it returns false'. Refute it at one input. -/
def wrapAllWrong : ChangeSpec := { name := "wrapAll", fn := fun _ => fun
  | [d1, d2] => { results := [.lit (.bool false)], args := [d1, d2] }
  | _ => none }
def WrapAllWrongFalsely : Prop := wrapAllRow.holds Tryd.pinned (OpenSpec.ofChange wrapAllWrong)

/-- 'kerflaw16.WrapWider': WHATEVER THE INPUT: true; the input reads as it did. -/
def wrapWiderSpec : ChangeSpec := { name := "wrapWider", fn := fun _ => fun
  | [d1, d2, d3] => { results := [.lit (.bool true)], args := [d1, d2, d3] }
  | _ => none }
def wrapWiderRow : OpenClaim := { program := "ytkopefljnhgdkaadoor", sum := "0d718603d4854c66cc868f8b343c317ad21532667c93574679535258987b848a", func := "kerf/kerflaw16.WrapWider", spec := "wrapWider", inPlace := ["internal/bytealg.IndexByteString", "internal/bytealg.IndexString"], unfollowed := true, recurses := true, named := ["unicode/utf8.first", "unicode/utf8.acceptRanges", "internal/bytealg.MaxLen"], apart := false, laid := [("unicode/utf8.acceptRanges", laid_unicode_utf8_acceptRanges), ("unicode/utf8.first", laid_unicode_utf8_first)] }
def WrapWiderSaid : Prop := wrapWiderRow.holds Tryd.pinned (OpenSpec.ofChange wrapWiderSpec)

/-- ITS FALSE NEIGHBOUR: 'it returns false'. Refute it at one input. -/
def wrapWiderWrong : ChangeSpec := { name := "wrapWider", fn := fun _ => fun
  | [d1, d2, d3] => { results := [.lit (.bool false)], args := [d1, d2, d3] }
  | _ => none }
def WrapWiderWrongFalsely : Prop := wrapWiderRow.holds Tryd.pinned (OpenSpec.ofChange wrapWiderWrong)

/-- 'kerflaw16.WrapWhole': WHATEVER THE INPUT: true; the input reads as it did. -/
def wrapWholeSpec : ChangeSpec := { name := "wrapWhole", fn := fun _ => fun
  | [d1, d2, d3] => { results := [.lit (.bool true)], args := [d1, d2, d3] }
  | _ => none }
def wrapWholeRow : OpenClaim := { program := "ytkopefljnhgdkaadoor", sum := "0d718603d4854c66cc868f8b343c317ad21532667c93574679535258987b848a", func := "kerf/kerflaw16.WrapWhole", spec := "wrapWhole", inPlace := ["internal/bytealg.IndexByteString", "internal/bytealg.IndexString"], unfollowed := true, recurses := true, named := ["unicode/utf8.first", "unicode/utf8.acceptRanges", "internal/bytealg.MaxLen"], apart := false, laid := [("unicode/utf8.acceptRanges", laid_unicode_utf8_acceptRanges), ("unicode/utf8.first", laid_unicode_utf8_first)] }
def WrapWholeSaid : Prop := wrapWholeRow.holds Tryd.pinned (OpenSpec.ofChange wrapWholeSpec)

/-- ITS FALSE NEIGHBOUR: 'it returns false'. Refute it at one input. -/
def wrapWholeWrong : ChangeSpec := { name := "wrapWhole", fn := fun _ => fun
  | [d1, d2, d3] => { results := [.lit (.bool false)], args := [d1, d2, d3] }
  | _ => none }
def WrapWholeWrongFalsely : Prop := wrapWholeRow.holds Tryd.pinned (OpenSpec.ofChange wrapWholeWrong)

/- THE SECOND FORM. 'bulk': how many values and letters a reading holds, each counted each time it is reached (what is shared counts as often as it is met; a slice's spare places count too). A statement '..UptoSaid' is the law's where the arguments, and the package variables that the reading takes, are together of bulk at most 1048576: NARROWER than '..Said'. Prove '..Said' where nothing that the law and all that it calls make is longer than what came in: it says more and counts as full. Else prove '..UptoSaid'. A law counts once. -/
mutual
def uptoBulk {H : Type} : DataW H → Nat
  | .lit (.string bytes) => bytes.length + 1
  | .lit _ => 1
  | .nil => 1
  | .ptr d => uptoBulk d + 1
  | .slice elems spare => uptoBulkAll elems + uptoBulkAll spare + 1
  | .agg parts => uptoBulkAll parts + 1
  | .iface _ d => uptoBulk d + 1
  | .map entries => uptoBulkEntries entries + 1
  | .held _ => 1
def uptoBulkAll {H : Type} : List (DataW H) → Nat
  | [] => 0
  | d :: r => uptoBulk d + uptoBulkAll r
def uptoBulkEntries {H : Type} : List (Lit × DataW H) → Nat
  | [] => 0
  | x :: r => uptoBulkEntry x + uptoBulkEntries r
def uptoBulkEntry {H : Type} : Lit × DataW H → Nat
  | (.string bytes, d) => bytes.length + uptoBulk d + 1
  | (_, d) => uptoBulk d + 1
 end
def uptoSmall : (H : Type) → List (DataW H) → Bool := fun _ ds => decide (uptoBulkAll ds ≤ 1048576)
def OpenSpec.upto (s : _root_.Go.ChangeSpec) : _root_.Go.OpenSpec := { _root_.Go.OpenSpec.ofChange s with cond := some uptoSmall }

/-- 'kerflaw16.WrapFewest', WHERE WHAT IT READS IS OF BULK AT MOST 1048576: true; the input reads as it did. -/
def wrapFewestUptoRow : OpenClaim := { program := "ytkopefljnhgdkaadoor", sum := "0d718603d4854c66cc868f8b343c317ad21532667c93574679535258987b848a", func := "kerf/kerflaw16.WrapFewest", spec := "wrapFewest", inPlace := ["internal/bytealg.IndexByteString", "internal/bytealg.IndexString"], unfollowed := true, recurses := true, named := ["unicode/utf8.first", "unicode/utf8.acceptRanges", "internal/bytealg.MaxLen"], apart := false, laid := [("unicode/utf8.acceptRanges", laid_unicode_utf8_acceptRanges), ("unicode/utf8.first", laid_unicode_utf8_first)], narrowed := true }
def WrapFewestUptoSaid : Prop := wrapFewestUptoRow.holds Tryd.pinned (OpenSpec.upto wrapFewestSpec)

/-- 'kerflaw16.WrapLeast', WHERE WHAT IT READS IS OF BULK AT MOST 1048576: true; the input reads as it did. -/
def wrapLeastUptoRow : OpenClaim := { program := "ytkopefljnhgdkaadoor", sum := "0d718603d4854c66cc868f8b343c317ad21532667c93574679535258987b848a", func := "kerf/kerflaw16.WrapLeast", spec := "wrapLeast", inPlace := ["internal/bytealg.IndexByteString", "internal/bytealg.IndexString"], unfollowed := true, recurses := true, named := ["unicode/utf8.first", "unicode/utf8.acceptRanges", "internal/bytealg.MaxLen"], apart := false, laid := [("unicode/utf8.acceptRanges", laid_unicode_utf8_acceptRanges), ("unicode/utf8.first", laid_unicode_utf8_first)], narrowed := true }
def WrapLeastUptoSaid : Prop := wrapLeastUptoRow.holds Tryd.pinned (OpenSpec.upto wrapLeastSpec)

/-- 'kerflaw16.WrapAll', WHERE WHAT IT READS IS OF BULK AT MOST 1048576: true; the input reads as it did. -/
def wrapAllUptoRow : OpenClaim := { program := "ytkopefljnhgdkaadoor", sum := "0d718603d4854c66cc868f8b343c317ad21532667c93574679535258987b848a", func := "kerf/kerflaw16.WrapAll", spec := "wrapAll", inPlace := ["internal/bytealg.IndexByteString", "internal/bytealg.IndexString"], unfollowed := true, recurses := true, named := ["unicode/utf8.first", "unicode/utf8.acceptRanges", "internal/bytealg.MaxLen"], apart := false, laid := [("unicode/utf8.acceptRanges", laid_unicode_utf8_acceptRanges), ("unicode/utf8.first", laid_unicode_utf8_first)], narrowed := true }
def WrapAllUptoSaid : Prop := wrapAllUptoRow.holds Tryd.pinned (OpenSpec.upto wrapAllSpec)

/-- 'kerflaw16.WrapWider', WHERE WHAT IT READS IS OF BULK AT MOST 1048576: true; the input reads as it did. -/
def wrapWiderUptoRow : OpenClaim := { program := "ytkopefljnhgdkaadoor", sum := "0d718603d4854c66cc868f8b343c317ad21532667c93574679535258987b848a", func := "kerf/kerflaw16.WrapWider", spec := "wrapWider", inPlace := ["internal/bytealg.IndexByteString", "internal/bytealg.IndexString"], unfollowed := true, recurses := true, named := ["unicode/utf8.first", "unicode/utf8.acceptRanges", "internal/bytealg.MaxLen"], apart := false, laid := [("unicode/utf8.acceptRanges", laid_unicode_utf8_acceptRanges), ("unicode/utf8.first", laid_unicode_utf8_first)], narrowed := true }
def WrapWiderUptoSaid : Prop := wrapWiderUptoRow.holds Tryd.pinned (OpenSpec.upto wrapWiderSpec)

/-- 'kerflaw16.WrapWhole', WHERE WHAT IT READS IS OF BULK AT MOST 1048576: true; the input reads as it did. -/
def wrapWholeUptoRow : OpenClaim := { program := "ytkopefljnhgdkaadoor", sum := "0d718603d4854c66cc868f8b343c317ad21532667c93574679535258987b848a", func := "kerf/kerflaw16.WrapWhole", spec := "wrapWhole", inPlace := ["internal/bytealg.IndexByteString", "internal/bytealg.IndexString"], unfollowed := true, recurses := true, named := ["unicode/utf8.first", "unicode/utf8.acceptRanges", "internal/bytealg.MaxLen"], apart := false, laid := [("unicode/utf8.acceptRanges", laid_unicode_utf8_acceptRanges), ("unicode/utf8.first", laid_unicode_utf8_first)], narrowed := true }
def WrapWholeUptoSaid : Prop := wrapWholeUptoRow.holds Tryd.pinned (OpenSpec.upto wrapWholeSpec)

end Rows
end Go.Proofs.YtkopefljnhgdkaaDoor
