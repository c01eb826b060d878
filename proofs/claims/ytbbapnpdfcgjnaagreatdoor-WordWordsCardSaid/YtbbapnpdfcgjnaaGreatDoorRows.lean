/-
  NARROWER THAN 'FOR EVERY INPUT', by the rows' own cells (each row's printed sentence says how): WordBounds: laid · WordMoves: laid · WordEach: laid · WordWords: laid · LineChances: laid · LineMoves: laid · LineEach: laid.
  DERIVED. THE GIVEN ROWS OF THIS SEAT. 7 by the template 'for every input the law returns true; each argument reads behind the call as it read before'; 0 by the template 'total and deterministic' (their statements: YtbbapnpdfcgjnaaGreatDoorTotals.lean).
  GIVEN WITH THE SEED: the statements are not yours to turn. If you find one false, say at which input.
  Laid BY PROGRAM, IN A SANDBOX (cutbox-rows.mjs): the forced cells as the released guide's own fill.sh prints them over the translation 30424c7fc2741e4e… (all of the seat's roots in one cut). By AI agents, Wed Nov 11 2026. No macro, syntax, notation, axiom, sorry.
-/
import Derived.Test.YtbbapnpdfcgjnaaGreatDoorChecked
import GoSem.PinnedTables
import GoSem.Claim
import GoSem.ClaimJoined
import GoSem.ClaimMapViews
import Derived.JoinedTies
import Derived.KernelRfl
namespace Go.Proofs.YtbbapnpdfcgjnaaGreatDoor
/- THE CELL 'sum', in the pinned program and in every row, IS THE sha256 OF THE DUMP (.gsa) THAT YtbbapnpdfcgjnaaGreatDoorProg.lean LOADS. Nothing in Lean hashes anything: it is a label: what it is worth is what the hold of that sum in a sandbox is worth. -/
noncomputable def Tryz.pinned : Pinned := { name := "ytbbapnpdfcgjnaagreatdoor", sum := "30424c7fc2741e4ef78cba76a8de192c85074401bfce83f809a17de37966b3ea", checked := Tryz.checked }
namespace Rows
def none {H : Type} : Left H := { results := [], args := [] }

/- WHAT THE LISTED PACKAGE-LEVEL VARIABLES READ AS WHEN THE CALL BEGINS. Each datum BY PROGRAM (the guide's laid-datum.mjs) off the statement by which the dump's own 'gosem.cut.vars' lays the variable. In a bare row this is a premise. The card (YtbbapnpdfcgjnaaGreatDoorCards.lean) ties it to the program's text. -/
def laid_unicode_utf8_acceptRanges {H : Type} : DataW H := .agg [.agg [.lit (.int .u8 128), .lit (.int .u8 191)], .agg [.lit (.int .u8 160), .lit (.int .u8 191)], .agg [.lit (.int .u8 128), .lit (.int .u8 159)], .agg [.lit (.int .u8 144), .lit (.int .u8 191)], .agg [.lit (.int .u8 128), .lit (.int .u8 143)], .agg [.lit (.int .u8 0), .lit (.int .u8 0)], .agg [.lit (.int .u8 0), .lit (.int .u8 0)], .agg [.lit (.int .u8 0), .lit (.int .u8 0)], .agg [.lit (.int .u8 0), .lit (.int .u8 0)], .agg [.lit (.int .u8 0), .lit (.int .u8 0)], .agg [.lit (.int .u8 0), .lit (.int .u8 0)], .agg [.lit (.int .u8 0), .lit (.int .u8 0)], .agg [.lit (.int .u8 0), .lit (.int .u8 0)], .agg [.lit (.int .u8 0), .lit (.int .u8 0)], .agg [.lit (.int .u8 0), .lit (.int .u8 0)], .agg [.lit (.int .u8 0), .lit (.int .u8 0)]]
/-- One of Go's own tables, pinned by name: the form's constant. -/
def laid_unicode_utf8_first : DataW Unit := Go.Pinned.utf8First

/-- 'kerflaw12.WordBounds': WHATEVER THE INPUT: true; the input reads as it did. -/
def wordBoundsSpec : ChangeSpec := { name := "wordBounds", fn := fun _ => fun
  | [d] => { results := [.lit (.bool true)], args := [d] }
  | _ => none }
def wordBoundsRow : OpenClaim := { program := "ytbbapnpdfcgjnaagreatdoor", sum := "30424c7fc2741e4ef78cba76a8de192c85074401bfce83f809a17de37966b3ea", func := "kerf/kerflaw12.WordBounds", spec := "wordBounds", unfollowed := true, recurses := true, named := ["unicode/utf8.first", "unicode/utf8.acceptRanges"], apart := false, laid := [("unicode/utf8.acceptRanges", laid_unicode_utf8_acceptRanges), ("unicode/utf8.first", laid_unicode_utf8_first)] }
def WordBoundsSaid : Prop := wordBoundsRow.holds Tryz.pinned (OpenSpec.ofChange wordBoundsSpec)

/-- ITS FALSE NEIGHBOUR: 'it returns false'. Refute it at one input. -/
def wordBoundsWrong : ChangeSpec := { name := "wordBounds", fn := fun _ => fun
  | [d] => { results := [.lit (.bool false)], args := [d] }
  | _ => none }
def WordBoundsWrongFalsely : Prop := wordBoundsRow.holds Tryz.pinned (OpenSpec.ofChange wordBoundsWrong)

/-- 'kerflaw12.WordMoves': WHATEVER THE INPUT: true; the input reads as it did. -/
def wordMovesSpec : ChangeSpec := { name := "wordMoves", fn := fun _ => fun
  | [d1, d2] => { results := [.lit (.bool true)], args := [d1, d2] }
  | _ => none }
def wordMovesRow : OpenClaim := { program := "ytbbapnpdfcgjnaagreatdoor", sum := "30424c7fc2741e4ef78cba76a8de192c85074401bfce83f809a17de37966b3ea", func := "kerf/kerflaw12.WordMoves", spec := "wordMoves", unfollowed := true, recurses := true, named := ["unicode/utf8.first", "unicode/utf8.acceptRanges"], apart := false, laid := [("unicode/utf8.acceptRanges", laid_unicode_utf8_acceptRanges), ("unicode/utf8.first", laid_unicode_utf8_first)] }
def WordMovesSaid : Prop := wordMovesRow.holds Tryz.pinned (OpenSpec.ofChange wordMovesSpec)

/-- ITS FALSE NEIGHBOUR: 'it returns false'. Refute it at one input. -/
def wordMovesWrong : ChangeSpec := { name := "wordMoves", fn := fun _ => fun
  | [d1, d2] => { results := [.lit (.bool false)], args := [d1, d2] }
  | _ => none }
def WordMovesWrongFalsely : Prop := wordMovesRow.holds Tryz.pinned (OpenSpec.ofChange wordMovesWrong)

/-- 'kerflaw12.WordEach': WHATEVER THE INPUT: true; the input reads as it did. -/
def wordEachSpec : ChangeSpec := { name := "wordEach", fn := fun _ => fun
  | [d1, d2] => { results := [.lit (.bool true)], args := [d1, d2] }
  | _ => none }
def wordEachRow : OpenClaim := { program := "ytbbapnpdfcgjnaagreatdoor", sum := "30424c7fc2741e4ef78cba76a8de192c85074401bfce83f809a17de37966b3ea", func := "kerf/kerflaw12.WordEach", spec := "wordEach", unfollowed := true, recurses := true, named := ["unicode/utf8.first", "unicode/utf8.acceptRanges"], apart := false, laid := [("unicode/utf8.acceptRanges", laid_unicode_utf8_acceptRanges), ("unicode/utf8.first", laid_unicode_utf8_first)] }
def WordEachSaid : Prop := wordEachRow.holds Tryz.pinned (OpenSpec.ofChange wordEachSpec)

/-- ITS FALSE NEIGHBOUR: 'it returns false'. Refute it at one input. -/
def wordEachWrong : ChangeSpec := { name := "wordEach", fn := fun _ => fun
  | [d1, d2] => { results := [.lit (.bool false)], args := [d1, d2] }
  | _ => none }
def WordEachWrongFalsely : Prop := wordEachRow.holds Tryz.pinned (OpenSpec.ofChange wordEachWrong)

/-- 'kerflaw12.WordWords': WHATEVER THE INPUT: true; the input reads as it did. -/
def wordWordsSpec : ChangeSpec := { name := "wordWords", fn := fun _ => fun
  | [d1, d2, d3] => { results := [.lit (.bool true)], args := [d1, d2, d3] }
  | _ => none }
def wordWordsRow : OpenClaim := { program := "ytbbapnpdfcgjnaagreatdoor", sum := "30424c7fc2741e4ef78cba76a8de192c85074401bfce83f809a17de37966b3ea", func := "kerf/kerflaw12.WordWords", spec := "wordWords", unfollowed := true, recurses := true, named := ["unicode/utf8.first", "unicode/utf8.acceptRanges"], apart := false, laid := [("unicode/utf8.acceptRanges", laid_unicode_utf8_acceptRanges), ("unicode/utf8.first", laid_unicode_utf8_first)] }
def WordWordsSaid : Prop := wordWordsRow.holds Tryz.pinned (OpenSpec.ofChange wordWordsSpec)

/-- ITS FALSE NEIGHBOUR: 'it returns false'. Refute it at one input. -/
def wordWordsWrong : ChangeSpec := { name := "wordWords", fn := fun _ => fun
  | [d1, d2, d3] => { results := [.lit (.bool false)], args := [d1, d2, d3] }
  | _ => none }
def WordWordsWrongFalsely : Prop := wordWordsRow.holds Tryz.pinned (OpenSpec.ofChange wordWordsWrong)

/-- 'kerflaw14.LineChances': WHATEVER THE INPUT: true; the input reads as it did. -/
def lineChancesSpec : ChangeSpec := { name := "lineChances", fn := fun _ => fun
  | [d] => { results := [.lit (.bool true)], args := [d] }
  | _ => none }
def lineChancesRow : OpenClaim := { program := "ytbbapnpdfcgjnaagreatdoor", sum := "30424c7fc2741e4ef78cba76a8de192c85074401bfce83f809a17de37966b3ea", func := "kerf/kerflaw14.LineChances", spec := "lineChances", unfollowed := true, recurses := true, named := ["unicode/utf8.first", "unicode/utf8.acceptRanges"], apart := false, laid := [("unicode/utf8.acceptRanges", laid_unicode_utf8_acceptRanges), ("unicode/utf8.first", laid_unicode_utf8_first)] }
def LineChancesSaid : Prop := lineChancesRow.holds Tryz.pinned (OpenSpec.ofChange lineChancesSpec)

/-- ITS FALSE NEIGHBOUR: 'it returns false'. Refute it at one input. -/
def lineChancesWrong : ChangeSpec := { name := "lineChances", fn := fun _ => fun
  | [d] => { results := [.lit (.bool false)], args := [d] }
  | _ => none }
def LineChancesWrongFalsely : Prop := lineChancesRow.holds Tryz.pinned (OpenSpec.ofChange lineChancesWrong)

/-- 'kerflaw14.LineMoves': WHATEVER THE INPUT: true; the input reads as it did. -/
def lineMovesSpec : ChangeSpec := { name := "lineMoves", fn := fun _ => fun
  | [d1, d2] => { results := [.lit (.bool true)], args := [d1, d2] }
  | _ => none }
def lineMovesRow : OpenClaim := { program := "ytbbapnpdfcgjnaagreatdoor", sum := "30424c7fc2741e4ef78cba76a8de192c85074401bfce83f809a17de37966b3ea", func := "kerf/kerflaw14.LineMoves", spec := "lineMoves", unfollowed := true, recurses := true, named := ["unicode/utf8.first", "unicode/utf8.acceptRanges"], apart := false, laid := [("unicode/utf8.acceptRanges", laid_unicode_utf8_acceptRanges), ("unicode/utf8.first", laid_unicode_utf8_first)] }
def LineMovesSaid : Prop := lineMovesRow.holds Tryz.pinned (OpenSpec.ofChange lineMovesSpec)

/-- ITS FALSE NEIGHBOUR: 'it returns false'. Refute it at one input. -/
def lineMovesWrong : ChangeSpec := { name := "lineMoves", fn := fun _ => fun
  | [d1, d2] => { results := [.lit (.bool false)], args := [d1, d2] }
  | _ => none }
def LineMovesWrongFalsely : Prop := lineMovesRow.holds Tryz.pinned (OpenSpec.ofChange lineMovesWrong)

/-- 'kerflaw14.LineEach': WHATEVER THE INPUT: true; the input reads as it did. -/
def lineEachSpec : ChangeSpec := { name := "lineEach", fn := fun _ => fun
  | [d1, d2] => { results := [.lit (.bool true)], args := [d1, d2] }
  | _ => none }
def lineEachRow : OpenClaim := { program := "ytbbapnpdfcgjnaagreatdoor", sum := "30424c7fc2741e4ef78cba76a8de192c85074401bfce83f809a17de37966b3ea", func := "kerf/kerflaw14.LineEach", spec := "lineEach", unfollowed := true, recurses := true, named := ["unicode/utf8.first", "unicode/utf8.acceptRanges"], apart := false, laid := [("unicode/utf8.acceptRanges", laid_unicode_utf8_acceptRanges), ("unicode/utf8.first", laid_unicode_utf8_first)] }
def LineEachSaid : Prop := lineEachRow.holds Tryz.pinned (OpenSpec.ofChange lineEachSpec)

/-- ITS FALSE NEIGHBOUR: 'it returns false'. Refute it at one input. -/
def lineEachWrong : ChangeSpec := { name := "lineEach", fn := fun _ => fun
  | [d1, d2] => { results := [.lit (.bool false)], args := [d1, d2] }
  | _ => none }
def LineEachWrongFalsely : Prop := lineEachRow.holds Tryz.pinned (OpenSpec.ofChange lineEachWrong)

/- THE SECOND FORM. 'bulk': how many values and letters a reading holds, each counted each time it is reached (what is shared counts as often as it is met; a slice's spare places count too). A statement '..UptoSaid' is the law's where the arguments, and the package variables that the reading takes, are together of bulk at most 1048576: NARROWER than '..Said'. Prove '..Said' where nothing that the law and all that it calls make is longer than what came in: it says more and counts as full. Else prove '..UptoSaid'. A law counts once. -/
mutual
def uptoBulk {H : Type} : DataW H → Nat
  | .lit (.string bytes) => bytes.length + 1
  | .lit _ => 1
  | .nil => 1
  | .ptr d => uptoBulk d + 1
  | .slice elems spare => uptoBulkAll elems + uptoBulkAll spare + 1
  | .agg parts => uptoBulkAll parts + 1
  | .iface _ d => uptoBulk d + 1
  | .map entries => uptoBulkEntries entries + 1
  | .held _ => 1
def uptoBulkAll {H : Type} : List (DataW H) → Nat
  | [] => 0
  | d :: r => uptoBulk d + uptoBulkAll r
def uptoBulkEntries {H : Type} : List (Lit × DataW H) → Nat
  | [] => 0
  | x :: r => uptoBulkEntry x + uptoBulkEntries r
def uptoBulkEntry {H : Type} : Lit × DataW H → Nat
  | (.string bytes, d) => bytes.length + uptoBulk d + 1
  | (_, d) => uptoBulk d + 1
 end
def uptoSmall : (H : Type) → List (DataW H) → Bool := fun _ ds => decide (uptoBulkAll ds ≤ 1048576)
def OpenSpec.upto (s : _root_.Go.ChangeSpec) : _root_.Go.OpenSpec := { _root_.Go.OpenSpec.ofChange s with cond := some uptoSmall }

/-- 'kerflaw12.WordBounds', WHERE WHAT IT READS IS OF BULK AT MOST 1048576: true; the input reads as it did. -/
def wordBoundsUptoRow : OpenClaim := { program := "ytbbapnpdfcgjnaagreatdoor", sum := "30424c7fc2741e4ef78cba76a8de192c85074401bfce83f809a17de37966b3ea", func := "kerf/kerflaw12.WordBounds", spec := "wordBounds", unfollowed := true, recurses := true, named := ["unicode/utf8.first", "unicode/utf8.acceptRanges"], apart := false, laid := [("unicode/utf8.acceptRanges", laid_unicode_utf8_acceptRanges), ("unicode/utf8.first", laid_unicode_utf8_first)], narrowed := true }
def WordBoundsUptoSaid : Prop := wordBoundsUptoRow.holds Tryz.pinned (OpenSpec.upto wordBoundsSpec)

/-- 'kerflaw12.WordMoves', WHERE WHAT IT READS IS OF BULK AT MOST 1048576: true; the input reads as it did. -/
def wordMovesUptoRow : OpenClaim := { program := "ytbbapnpdfcgjnaagreatdoor", sum := "30424c7fc2741e4ef78cba76a8de192c85074401bfce83f809a17de37966b3ea", func := "kerf/kerflaw12.WordMoves", spec := "wordMoves", unfollowed := true, recurses := true, named := ["unicode/utf8.first", "unicode/utf8.acceptRanges"], apart := false, laid := [("unicode/utf8.acceptRanges", laid_unicode_utf8_acceptRanges), ("unicode/utf8.first", laid_unicode_utf8_first)], narrowed := true }
def WordMovesUptoSaid : Prop := wordMovesUptoRow.holds Tryz.pinned (OpenSpec.upto wordMovesSpec)

/-- 'kerflaw12.WordEach', WHERE WHAT IT READS IS OF BULK AT MOST 1048576: true; the input reads as it did. -/
def wordEachUptoRow : OpenClaim := { program := "ytbbapnpdfcgjnaagreatdoor", sum := "30424c7fc2741e4ef78cba76a8de192c85074401bfce83f809a17de37966b3ea", func := "kerf/kerflaw12.WordEach", spec := "wordEach", unfollowed := true, recurses := true, named := ["unicode/utf8.first", "unicode/utf8.acceptRanges"], apart := false, laid := [("unicode/utf8.acceptRanges", laid_unicode_utf8_acceptRanges), ("unicode/utf8.first", laid_unicode_utf8_first)], narrowed := true }
def WordEachUptoSaid : Prop := wordEachUptoRow.holds Tryz.pinned (OpenSpec.upto wordEachSpec)

/-- 'kerflaw12.WordWords', WHERE WHAT IT READS IS OF BULK AT MOST 1048576: true; the input reads as it did. -/
def wordWordsUptoRow : OpenClaim := { program := "ytbbapnpdfcgjnaagreatdoor", sum := "30424c7fc2741e4ef78cba76a8de192c85074401bfce83f809a17de37966b3ea", func := "kerf/kerflaw12.WordWords", spec := "wordWords", unfollowed := true, recurses := true, named := ["unicode/utf8.first", "unicode/utf8.acceptRanges"], apart := false, laid := [("unicode/utf8.acceptRanges", laid_unicode_utf8_acceptRanges), ("unicode/utf8.first", laid_unicode_utf8_first)], narrowed := true }
def WordWordsUptoSaid : Prop := wordWordsUptoRow.holds Tryz.pinned (OpenSpec.upto wordWordsSpec)

/-- 'kerflaw14.LineChances', WHERE WHAT IT READS IS OF BULK AT MOST 1048576: true; the input reads as it did. -/
def lineChancesUptoRow : OpenClaim := { program := "ytbbapnpdfcgjnaagreatdoor", sum := "30424c7fc2741e4ef78cba76a8de192c85074401bfce83f809a17de37966b3ea", func := "kerf/kerflaw14.LineChances", spec := "lineChances", unfollowed := true, recurses := true, named := ["unicode/utf8.first", "unicode/utf8.acceptRanges"], apart := false, laid := [("unicode/utf8.acceptRanges", laid_unicode_utf8_acceptRanges), ("unicode/utf8.first", laid_unicode_utf8_first)], narrowed := true }
def LineChancesUptoSaid : Prop := lineChancesUptoRow.holds Tryz.pinned (OpenSpec.upto lineChancesSpec)

/-- 'kerflaw14.LineMoves', WHERE WHAT IT READS IS OF BULK AT MOST 1048576: true; the input reads as it did. -/
def lineMovesUptoRow : OpenClaim := { program := "ytbbapnpdfcgjnaagreatdoor", sum := "30424c7fc2741e4ef78cba76a8de192c85074401bfce83f809a17de37966b3ea", func := "kerf/kerflaw14.LineMoves", spec := "lineMoves", unfollowed := true, recurses := true, named := ["unicode/utf8.first", "unicode/utf8.acceptRanges"], apart := false, laid := [("unicode/utf8.acceptRanges", laid_unicode_utf8_acceptRanges), ("unicode/utf8.first", laid_unicode_utf8_first)], narrowed := true }
def LineMovesUptoSaid : Prop := lineMovesUptoRow.holds Tryz.pinned (OpenSpec.upto lineMovesSpec)

/-- 'kerflaw14.LineEach', WHERE WHAT IT READS IS OF BULK AT MOST 1048576: true; the input reads as it did. -/
def lineEachUptoRow : OpenClaim := { program := "ytbbapnpdfcgjnaagreatdoor", sum := "30424c7fc2741e4ef78cba76a8de192c85074401bfce83f809a17de37966b3ea", func := "kerf/kerflaw14.LineEach", spec := "lineEach", unfollowed := true, recurses := true, named := ["unicode/utf8.first", "unicode/utf8.acceptRanges"], apart := false, laid := [("unicode/utf8.acceptRanges", laid_unicode_utf8_acceptRanges), ("unicode/utf8.first", laid_unicode_utf8_first)], narrowed := true }
def LineEachUptoSaid : Prop := lineEachUptoRow.holds Tryz.pinned (OpenSpec.upto lineEachSpec)

end Rows
end Go.Proofs.YtbbapnpdfcgjnaaGreatDoor
