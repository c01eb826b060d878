/-
  NARROWER THAN 'FOR EVERY INPUT', by the rows' own cells (each row's printed sentence says how): GraphemeBounds: laid · GraphemeMoves: laid · GraphemePieces: laid · GraphemeUses: laid · GraphemeSafe: laid · SentenceBounds: laid · SentenceMoves: laid · SentencePieces: laid · SentenceUses: laid.
  DERIVED. THE GIVEN ROWS OF THIS SEAT. 9 by the template 'for every input the law returns true; each argument reads behind the call as it read before'; 0 by the template 'total and deterministic' (their statements: YtdpohgoikbeplaaGreatDoorTotals.lean).
  GIVEN WITH THE SEED: the statements are not yours to turn. If you find one false, say at which input.
  Laid BY PROGRAM, IN A SANDBOX (cutbox-rows.mjs): the forced cells as the released guide's own fill.sh prints them over the translation 28e2807438209844… (all of the seat's roots in one cut). By AI agents, Wed Nov 11 2026. No macro, syntax, notation, axiom, sorry.
-/
import Derived.Test.YtdpohgoikbeplaaGreatDoorChecked
import GoSem.PinnedTables
import GoSem.Claim
import GoSem.ClaimJoined
import GoSem.ClaimMapViews
import Derived.JoinedTies
import Derived.KernelRfl
namespace Go.Proofs.YtdpohgoikbeplaaGreatDoor
/- THE CELL 'sum', in the pinned program and in every row, IS THE sha256 OF THE DUMP (.gsa) THAT YtdpohgoikbeplaaGreatDoorProg.lean LOADS. Nothing in Lean hashes anything: it is a label: what it is worth is what the hold of that sum in a sandbox is worth. -/
noncomputable def Tryz.pinned : Pinned := { name := "ytdpohgoikbeplaagreatdoor", sum := "28e2807438209844184bbf79d5d41bac6a54107bf4d2f96fc9605e78d9f5bc94", checked := Tryz.checked }
namespace Rows
def none {H : Type} : Left H := { results := [], args := [] }

/- WHAT THE LISTED PACKAGE-LEVEL VARIABLES READ AS WHEN THE CALL BEGINS. Each datum BY PROGRAM (the guide's laid-datum.mjs) off the statement by which the dump's own 'gosem.cut.vars' lays the variable. In a bare row this is a premise. The card (YtdpohgoikbeplaaGreatDoorCards.lean) ties it to the program's text. -/
def laid_unicode_utf8_acceptRanges {H : Type} : DataW H := .agg [.agg [.lit (.int .u8 128), .lit (.int .u8 191)], .agg [.lit (.int .u8 160), .lit (.int .u8 191)], .agg [.lit (.int .u8 128), .lit (.int .u8 159)], .agg [.lit (.int .u8 144), .lit (.int .u8 191)], .agg [.lit (.int .u8 128), .lit (.int .u8 143)], .agg [.lit (.int .u8 0), .lit (.int .u8 0)], .agg [.lit (.int .u8 0), .lit (.int .u8 0)], .agg [.lit (.int .u8 0), .lit (.int .u8 0)], .agg [.lit (.int .u8 0), .lit (.int .u8 0)], .agg [.lit (.int .u8 0), .lit (.int .u8 0)], .agg [.lit (.int .u8 0), .lit (.int .u8 0)], .agg [.lit (.int .u8 0), .lit (.int .u8 0)], .agg [.lit (.int .u8 0), .lit (.int .u8 0)], .agg [.lit (.int .u8 0), .lit (.int .u8 0)], .agg [.lit (.int .u8 0), .lit (.int .u8 0)], .agg [.lit (.int .u8 0), .lit (.int .u8 0)]]
/-- One of Go's own tables, pinned by name: the form's constant. -/
def laid_unicode_utf8_first : DataW Unit := Go.Pinned.utf8First

/-- 'kerflaw11.GraphemeBounds': WHATEVER THE INPUT: true; the input reads as it did. -/
def graphemeBoundsSpec : ChangeSpec := { name := "graphemeBounds", fn := fun _ => fun
  | [d] => { results := [.lit (.bool true)], args := [d] }
  | _ => none }
def graphemeBoundsRow : OpenClaim := { program := "ytdpohgoikbeplaagreatdoor", sum := "28e2807438209844184bbf79d5d41bac6a54107bf4d2f96fc9605e78d9f5bc94", func := "kerf/kerflaw11.GraphemeBounds", spec := "graphemeBounds", inPlace := ["internal/abi.NoEscape", "internal/bytealg.MakeNoZero"], unfollowed := true, recurses := true, named := ["unicode/utf8.first", "unicode/utf8.acceptRanges"], apart := false, laid := [("unicode/utf8.acceptRanges", laid_unicode_utf8_acceptRanges), ("unicode/utf8.first", laid_unicode_utf8_first)] }
def GraphemeBoundsSaid : Prop := graphemeBoundsRow.holds Tryz.pinned (OpenSpec.ofChange graphemeBoundsSpec)

/-- ITS FALSE NEIGHBOUR: 'it returns false'. Refute it at one input. -/
def graphemeBoundsWrong : ChangeSpec := { name := "graphemeBounds", fn := fun _ => fun
  | [d] => { results := [.lit (.bool false)], args := [d] }
  | _ => none }
def GraphemeBoundsWrongFalsely : Prop := graphemeBoundsRow.holds Tryz.pinned (OpenSpec.ofChange graphemeBoundsWrong)

/-- 'kerflaw11.GraphemeMoves': WHATEVER THE INPUT: true; the input reads as it did. -/
def graphemeMovesSpec : ChangeSpec := { name := "graphemeMoves", fn := fun _ => fun
  | [d1, d2] => { results := [.lit (.bool true)], args := [d1, d2] }
  | _ => none }
def graphemeMovesRow : OpenClaim := { program := "ytdpohgoikbeplaagreatdoor", sum := "28e2807438209844184bbf79d5d41bac6a54107bf4d2f96fc9605e78d9f5bc94", func := "kerf/kerflaw11.GraphemeMoves", spec := "graphemeMoves", inPlace := ["internal/abi.NoEscape", "internal/bytealg.MakeNoZero"], unfollowed := true, recurses := true, named := ["unicode/utf8.first", "unicode/utf8.acceptRanges"], apart := false, laid := [("unicode/utf8.acceptRanges", laid_unicode_utf8_acceptRanges), ("unicode/utf8.first", laid_unicode_utf8_first)] }
def GraphemeMovesSaid : Prop := graphemeMovesRow.holds Tryz.pinned (OpenSpec.ofChange graphemeMovesSpec)

/-- ITS FALSE NEIGHBOUR: 'it returns false'. Refute it at one input. -/
def graphemeMovesWrong : ChangeSpec := { name := "graphemeMoves", fn := fun _ => fun
  | [d1, d2] => { results := [.lit (.bool false)], args := [d1, d2] }
  | _ => none }
def GraphemeMovesWrongFalsely : Prop := graphemeMovesRow.holds Tryz.pinned (OpenSpec.ofChange graphemeMovesWrong)

/-- 'kerflaw11.GraphemePieces': WHATEVER THE INPUT: true; the input reads as it did. -/
def graphemePiecesSpec : ChangeSpec := { name := "graphemePieces", fn := fun _ => fun
  | [d1, d2] => { results := [.lit (.bool true)], args := [d1, d2] }
  | _ => none }
def graphemePiecesRow : OpenClaim := { program := "ytdpohgoikbeplaagreatdoor", sum := "28e2807438209844184bbf79d5d41bac6a54107bf4d2f96fc9605e78d9f5bc94", func := "kerf/kerflaw11.GraphemePieces", spec := "graphemePieces", inPlace := ["internal/abi.NoEscape", "internal/bytealg.MakeNoZero"], unfollowed := true, recurses := true, named := ["unicode/utf8.first", "unicode/utf8.acceptRanges"], apart := false, laid := [("unicode/utf8.acceptRanges", laid_unicode_utf8_acceptRanges), ("unicode/utf8.first", laid_unicode_utf8_first)] }
def GraphemePiecesSaid : Prop := graphemePiecesRow.holds Tryz.pinned (OpenSpec.ofChange graphemePiecesSpec)

/-- ITS FALSE NEIGHBOUR: 'it returns false'. Refute it at one input. -/
def graphemePiecesWrong : ChangeSpec := { name := "graphemePieces", fn := fun _ => fun
  | [d1, d2] => { results := [.lit (.bool false)], args := [d1, d2] }
  | _ => none }
def GraphemePiecesWrongFalsely : Prop := graphemePiecesRow.holds Tryz.pinned (OpenSpec.ofChange graphemePiecesWrong)

/-- 'kerflaw11.GraphemeUses': WHATEVER THE INPUT: true; the input reads as it did. -/
def graphemeUsesSpec : ChangeSpec := { name := "graphemeUses", fn := fun _ => fun
  | [d1, d2, d3] => { results := [.lit (.bool true)], args := [d1, d2, d3] }
  | _ => none }
def graphemeUsesRow : OpenClaim := { program := "ytdpohgoikbeplaagreatdoor", sum := "28e2807438209844184bbf79d5d41bac6a54107bf4d2f96fc9605e78d9f5bc94", func := "kerf/kerflaw11.GraphemeUses", spec := "graphemeUses", inPlace := ["internal/abi.NoEscape", "internal/bytealg.MakeNoZero"], unfollowed := true, recurses := true, named := ["unicode/utf8.first", "unicode/utf8.acceptRanges"], apart := false, laid := [("unicode/utf8.acceptRanges", laid_unicode_utf8_acceptRanges), ("unicode/utf8.first", laid_unicode_utf8_first)] }
def GraphemeUsesSaid : Prop := graphemeUsesRow.holds Tryz.pinned (OpenSpec.ofChange graphemeUsesSpec)

/-- ITS FALSE NEIGHBOUR: 'it returns false'. Refute it at one input. -/
def graphemeUsesWrong : ChangeSpec := { name := "graphemeUses", fn := fun _ => fun
  | [d1, d2, d3] => { results := [.lit (.bool false)], args := [d1, d2, d3] }
  | _ => none }
def GraphemeUsesWrongFalsely : Prop := graphemeUsesRow.holds Tryz.pinned (OpenSpec.ofChange graphemeUsesWrong)

/-- 'kerflaw11.GraphemeSafe': WHATEVER THE INPUT: true; the input reads as it did. -/
def graphemeSafeSpec : ChangeSpec := { name := "graphemeSafe", fn := fun _ => fun
  | [d1, d2, d3, d4] => { results := [.lit (.bool true)], args := [d1, d2, d3, d4] }
  | _ => none }
def graphemeSafeRow : OpenClaim := { program := "ytdpohgoikbeplaagreatdoor", sum := "28e2807438209844184bbf79d5d41bac6a54107bf4d2f96fc9605e78d9f5bc94", func := "kerf/kerflaw11.GraphemeSafe", spec := "graphemeSafe", inPlace := ["internal/abi.NoEscape", "internal/bytealg.MakeNoZero"], unfollowed := true, recurses := true, named := ["unicode/utf8.first", "unicode/utf8.acceptRanges"], apart := false, laid := [("unicode/utf8.acceptRanges", laid_unicode_utf8_acceptRanges), ("unicode/utf8.first", laid_unicode_utf8_first)] }
def GraphemeSafeSaid : Prop := graphemeSafeRow.holds Tryz.pinned (OpenSpec.ofChange graphemeSafeSpec)

/-- ITS FALSE NEIGHBOUR: 'it returns false'. Refute it at one input. -/
def graphemeSafeWrong : ChangeSpec := { name := "graphemeSafe", fn := fun _ => fun
  | [d1, d2, d3, d4] => { results := [.lit (.bool false)], args := [d1, d2, d3, d4] }
  | _ => none }
def GraphemeSafeWrongFalsely : Prop := graphemeSafeRow.holds Tryz.pinned (OpenSpec.ofChange graphemeSafeWrong)

/-- 'kerflaw13.SentenceBounds': WHATEVER THE INPUT: true; the input reads as it did. -/
def sentenceBoundsSpec : ChangeSpec := { name := "sentenceBounds", fn := fun _ => fun
  | [d] => { results := [.lit (.bool true)], args := [d] }
  | _ => none }
def sentenceBoundsRow : OpenClaim := { program := "ytdpohgoikbeplaagreatdoor", sum := "28e2807438209844184bbf79d5d41bac6a54107bf4d2f96fc9605e78d9f5bc94", func := "kerf/kerflaw13.SentenceBounds", spec := "sentenceBounds", unfollowed := true, recurses := true, named := ["unicode/utf8.first", "unicode/utf8.acceptRanges"], apart := false, laid := [("unicode/utf8.acceptRanges", laid_unicode_utf8_acceptRanges), ("unicode/utf8.first", laid_unicode_utf8_first)] }
def SentenceBoundsSaid : Prop := sentenceBoundsRow.holds Tryz.pinned (OpenSpec.ofChange sentenceBoundsSpec)

/-- ITS FALSE NEIGHBOUR: 'it returns false'. Refute it at one input. -/
def sentenceBoundsWrong : ChangeSpec := { name := "sentenceBounds", fn := fun _ => fun
  | [d] => { results := [.lit (.bool false)], args := [d] }
  | _ => none }
def SentenceBoundsWrongFalsely : Prop := sentenceBoundsRow.holds Tryz.pinned (OpenSpec.ofChange sentenceBoundsWrong)

/-- 'kerflaw13.SentenceMoves': WHATEVER THE INPUT: true; the input reads as it did. -/
def sentenceMovesSpec : ChangeSpec := { name := "sentenceMoves", fn := fun _ => fun
  | [d1, d2] => { results := [.lit (.bool true)], args := [d1, d2] }
  | _ => none }
def sentenceMovesRow : OpenClaim := { program := "ytdpohgoikbeplaagreatdoor", sum := "28e2807438209844184bbf79d5d41bac6a54107bf4d2f96fc9605e78d9f5bc94", func := "kerf/kerflaw13.SentenceMoves", spec := "sentenceMoves", unfollowed := true, recurses := true, named := ["unicode/utf8.first", "unicode/utf8.acceptRanges"], apart := false, laid := [("unicode/utf8.acceptRanges", laid_unicode_utf8_acceptRanges), ("unicode/utf8.first", laid_unicode_utf8_first)] }
def SentenceMovesSaid : Prop := sentenceMovesRow.holds Tryz.pinned (OpenSpec.ofChange sentenceMovesSpec)

/-- ITS FALSE NEIGHBOUR: 'it returns false'. Refute it at one input. -/
def sentenceMovesWrong : ChangeSpec := { name := "sentenceMoves", fn := fun _ => fun
  | [d1, d2] => { results := [.lit (.bool false)], args := [d1, d2] }
  | _ => none }
def SentenceMovesWrongFalsely : Prop := sentenceMovesRow.holds Tryz.pinned (OpenSpec.ofChange sentenceMovesWrong)

/-- 'kerflaw13.SentencePieces': WHATEVER THE INPUT: true; the input reads as it did. -/
def sentencePiecesSpec : ChangeSpec := { name := "sentencePieces", fn := fun _ => fun
  | [d1, d2] => { results := [.lit (.bool true)], args := [d1, d2] }
  | _ => none }
def sentencePiecesRow : OpenClaim := { program := "ytdpohgoikbeplaagreatdoor", sum := "28e2807438209844184bbf79d5d41bac6a54107bf4d2f96fc9605e78d9f5bc94", func := "kerf/kerflaw13.SentencePieces", spec := "sentencePieces", unfollowed := true, recurses := true, named := ["unicode/utf8.first", "unicode/utf8.acceptRanges"], apart := false, laid := [("unicode/utf8.acceptRanges", laid_unicode_utf8_acceptRanges), ("unicode/utf8.first", laid_unicode_utf8_first)] }
def SentencePiecesSaid : Prop := sentencePiecesRow.holds Tryz.pinned (OpenSpec.ofChange sentencePiecesSpec)

/-- ITS FALSE NEIGHBOUR: 'it returns false'. Refute it at one input. -/
def sentencePiecesWrong : ChangeSpec := { name := "sentencePieces", fn := fun _ => fun
  | [d1, d2] => { results := [.lit (.bool false)], args := [d1, d2] }
  | _ => none }
def SentencePiecesWrongFalsely : Prop := sentencePiecesRow.holds Tryz.pinned (OpenSpec.ofChange sentencePiecesWrong)

/-- 'kerflaw13.SentenceUses': WHATEVER THE INPUT: true; the input reads as it did. -/
def sentenceUsesSpec : ChangeSpec := { name := "sentenceUses", fn := fun _ => fun
  | [d1, d2, d3, d4, d5] => { results := [.lit (.bool true)], args := [d1, d2, d3, d4, d5] }
  | _ => none }
def sentenceUsesRow : OpenClaim := { program := "ytdpohgoikbeplaagreatdoor", sum := "28e2807438209844184bbf79d5d41bac6a54107bf4d2f96fc9605e78d9f5bc94", func := "kerf/kerflaw13.SentenceUses", spec := "sentenceUses", unfollowed := true, recurses := true, named := ["unicode/utf8.first", "unicode/utf8.acceptRanges"], apart := false, laid := [("unicode/utf8.acceptRanges", laid_unicode_utf8_acceptRanges), ("unicode/utf8.first", laid_unicode_utf8_first)] }
def SentenceUsesSaid : Prop := sentenceUsesRow.holds Tryz.pinned (OpenSpec.ofChange sentenceUsesSpec)

/-- ITS FALSE NEIGHBOUR: 'it returns false'. Refute it at one input. -/
def sentenceUsesWrong : ChangeSpec := { name := "sentenceUses", fn := fun _ => fun
  | [d1, d2, d3, d4, d5] => { results := [.lit (.bool false)], args := [d1, d2, d3, d4, d5] }
  | _ => none }
def SentenceUsesWrongFalsely : Prop := sentenceUsesRow.holds Tryz.pinned (OpenSpec.ofChange sentenceUsesWrong)

/- THE SECOND FORM. 'bulk': how many values and letters a reading holds, each counted each time it is reached (what is shared counts as often as it is met; a slice's spare places count too). A statement '..UptoSaid' is the law's where the arguments, and the package variables that the reading takes, are together of bulk at most 1048576: NARROWER than '..Said'. Prove '..Said' where nothing that the law and all that it calls make is longer than what came in: it says more and counts as full. Else prove '..UptoSaid'. A law counts once. -/
mutual
def uptoBulk {H : Type} : DataW H → Nat
  | .lit (.string bytes) => bytes.length + 1
  | .lit _ => 1
  | .nil => 1
  | .ptr d => uptoBulk d + 1
  | .slice elems spare => uptoBulkAll elems + uptoBulkAll spare + 1
  | .agg parts => uptoBulkAll parts + 1
  | .iface _ d => uptoBulk d + 1
  | .map entries => uptoBulkEntries entries + 1
  | .held _ => 1
def uptoBulkAll {H : Type} : List (DataW H) → Nat
  | [] => 0
  | d :: r => uptoBulk d + uptoBulkAll r
def uptoBulkEntries {H : Type} : List (Lit × DataW H) → Nat
  | [] => 0
  | x :: r => uptoBulkEntry x + uptoBulkEntries r
def uptoBulkEntry {H : Type} : Lit × DataW H → Nat
  | (.string bytes, d) => bytes.length + uptoBulk d + 1
  | (_, d) => uptoBulk d + 1
 end
def uptoSmall : (H : Type) → List (DataW H) → Bool := fun _ ds => decide (uptoBulkAll ds ≤ 1048576)
def OpenSpec.upto (s : _root_.Go.ChangeSpec) : _root_.Go.OpenSpec := { _root_.Go.OpenSpec.ofChange s with cond := some uptoSmall }

/-- 'kerflaw11.GraphemeBounds', WHERE WHAT IT READS IS OF BULK AT MOST 1048576: true; the input reads as it did. -/
def graphemeBoundsUptoRow : OpenClaim := { program := "ytdpohgoikbeplaagreatdoor", sum := "28e2807438209844184bbf79d5d41bac6a54107bf4d2f96fc9605e78d9f5bc94", func := "kerf/kerflaw11.GraphemeBounds", spec := "graphemeBounds", inPlace := ["internal/abi.NoEscape", "internal/bytealg.MakeNoZero"], unfollowed := true, recurses := true, named := ["unicode/utf8.first", "unicode/utf8.acceptRanges"], apart := false, laid := [("unicode/utf8.acceptRanges", laid_unicode_utf8_acceptRanges), ("unicode/utf8.first", laid_unicode_utf8_first)], narrowed := true }
def GraphemeBoundsUptoSaid : Prop := graphemeBoundsUptoRow.holds Tryz.pinned (OpenSpec.upto graphemeBoundsSpec)

/-- 'kerflaw11.GraphemeMoves', WHERE WHAT IT READS IS OF BULK AT MOST 1048576: true; the input reads as it did. -/
def graphemeMovesUptoRow : OpenClaim := { program := "ytdpohgoikbeplaagreatdoor", sum := "28e2807438209844184bbf79d5d41bac6a54107bf4d2f96fc9605e78d9f5bc94", func := "kerf/kerflaw11.GraphemeMoves", spec := "graphemeMoves", inPlace := ["internal/abi.NoEscape", "internal/bytealg.MakeNoZero"], unfollowed := true, recurses := true, named := ["unicode/utf8.first", "unicode/utf8.acceptRanges"], apart := false, laid := [("unicode/utf8.acceptRanges", laid_unicode_utf8_acceptRanges), ("unicode/utf8.first", laid_unicode_utf8_first)], narrowed := true }
def GraphemeMovesUptoSaid : Prop := graphemeMovesUptoRow.holds Tryz.pinned (OpenSpec.upto graphemeMovesSpec)

/-- 'kerflaw11.GraphemePieces', WHERE WHAT IT READS IS OF BULK AT MOST 1048576: true; the input reads as it did. -/
def graphemePiecesUptoRow : OpenClaim := { program := "ytdpohgoikbeplaagreatdoor", sum := "28e2807438209844184bbf79d5d41bac6a54107bf4d2f96fc9605e78d9f5bc94", func := "kerf/kerflaw11.GraphemePieces", spec := "graphemePieces", inPlace := ["internal/abi.NoEscape", "internal/bytealg.MakeNoZero"], unfollowed := true, recurses := true, named := ["unicode/utf8.first", "unicode/utf8.acceptRanges"], apart := false, laid := [("unicode/utf8.acceptRanges", laid_unicode_utf8_acceptRanges), ("unicode/utf8.first", laid_unicode_utf8_first)], narrowed := true }
def GraphemePiecesUptoSaid : Prop := graphemePiecesUptoRow.holds Tryz.pinned (OpenSpec.upto graphemePiecesSpec)

/-- 'kerflaw11.GraphemeUses', WHERE WHAT IT READS IS OF BULK AT MOST 1048576: true; the input reads as it did. -/
def graphemeUsesUptoRow : OpenClaim := { program := "ytdpohgoikbeplaagreatdoor", sum := "28e2807438209844184bbf79d5d41bac6a54107bf4d2f96fc9605e78d9f5bc94", func := "kerf/kerflaw11.GraphemeUses", spec := "graphemeUses", inPlace := ["internal/abi.NoEscape", "internal/bytealg.MakeNoZero"], unfollowed := true, recurses := true, named := ["unicode/utf8.first", "unicode/utf8.acceptRanges"], apart := false, laid := [("unicode/utf8.acceptRanges", laid_unicode_utf8_acceptRanges), ("unicode/utf8.first", laid_unicode_utf8_first)], narrowed := true }
def GraphemeUsesUptoSaid : Prop := graphemeUsesUptoRow.holds Tryz.pinned (OpenSpec.upto graphemeUsesSpec)

/-- 'kerflaw11.GraphemeSafe', WHERE WHAT IT READS IS OF BULK AT MOST 1048576: true; the input reads as it did. -/
def graphemeSafeUptoRow : OpenClaim := { program := "ytdpohgoikbeplaagreatdoor", sum := "28e2807438209844184bbf79d5d41bac6a54107bf4d2f96fc9605e78d9f5bc94", func := "kerf/kerflaw11.GraphemeSafe", spec := "graphemeSafe", inPlace := ["internal/abi.NoEscape", "internal/bytealg.MakeNoZero"], unfollowed := true, recurses := true, named := ["unicode/utf8.first", "unicode/utf8.acceptRanges"], apart := false, laid := [("unicode/utf8.acceptRanges", laid_unicode_utf8_acceptRanges), ("unicode/utf8.first", laid_unicode_utf8_first)], narrowed := true }
def GraphemeSafeUptoSaid : Prop := graphemeSafeUptoRow.holds Tryz.pinned (OpenSpec.upto graphemeSafeSpec)

/-- 'kerflaw13.SentenceBounds', WHERE WHAT IT READS IS OF BULK AT MOST 1048576: true; the input reads as it did. -/
def sentenceBoundsUptoRow : OpenClaim := { program := "ytdpohgoikbeplaagreatdoor", sum := "28e2807438209844184bbf79d5d41bac6a54107bf4d2f96fc9605e78d9f5bc94", func := "kerf/kerflaw13.SentenceBounds", spec := "sentenceBounds", unfollowed := true, recurses := true, named := ["unicode/utf8.first", "unicode/utf8.acceptRanges"], apart := false, laid := [("unicode/utf8.acceptRanges", laid_unicode_utf8_acceptRanges), ("unicode/utf8.first", laid_unicode_utf8_first)], narrowed := true }
def SentenceBoundsUptoSaid : Prop := sentenceBoundsUptoRow.holds Tryz.pinned (OpenSpec.upto sentenceBoundsSpec)

/-- 'kerflaw13.SentenceMoves', WHERE WHAT IT READS IS OF BULK AT MOST 1048576: true; the input reads as it did. -/
def sentenceMovesUptoRow : OpenClaim := { program := "ytdpohgoikbeplaagreatdoor", sum := "28e2807438209844184bbf79d5d41bac6a54107bf4d2f96fc9605e78d9f5bc94", func := "kerf/kerflaw13.SentenceMoves", spec := "sentenceMoves", unfollowed := true, recurses := true, named := ["unicode/utf8.first", "unicode/utf8.acceptRanges"], apart := false, laid := [("unicode/utf8.acceptRanges", laid_unicode_utf8_acceptRanges), ("unicode/utf8.first", laid_unicode_utf8_first)], narrowed := true }
def SentenceMovesUptoSaid : Prop := sentenceMovesUptoRow.holds Tryz.pinned (OpenSpec.upto sentenceMovesSpec)

/-- 'kerflaw13.SentencePieces', WHERE WHAT IT READS IS OF BULK AT MOST 1048576: true; the input reads as it did. -/
def sentencePiecesUptoRow : OpenClaim := { program := "ytdpohgoikbeplaagreatdoor", sum := "28e2807438209844184bbf79d5d41bac6a54107bf4d2f96fc9605e78d9f5bc94", func := "kerf/kerflaw13.SentencePieces", spec := "sentencePieces", unfollowed := true, recurses := true, named := ["unicode/utf8.first", "unicode/utf8.acceptRanges"], apart := false, laid := [("unicode/utf8.acceptRanges", laid_unicode_utf8_acceptRanges), ("unicode/utf8.first", laid_unicode_utf8_first)], narrowed := true }
def SentencePiecesUptoSaid : Prop := sentencePiecesUptoRow.holds Tryz.pinned (OpenSpec.upto sentencePiecesSpec)

/-- 'kerflaw13.SentenceUses', WHERE WHAT IT READS IS OF BULK AT MOST 1048576: true; the input reads as it did. -/
def sentenceUsesUptoRow : OpenClaim := { program := "ytdpohgoikbeplaagreatdoor", sum := "28e2807438209844184bbf79d5d41bac6a54107bf4d2f96fc9605e78d9f5bc94", func := "kerf/kerflaw13.SentenceUses", spec := "sentenceUses", unfollowed := true, recurses := true, named := ["unicode/utf8.first", "unicode/utf8.acceptRanges"], apart := false, laid := [("unicode/utf8.acceptRanges", laid_unicode_utf8_acceptRanges), ("unicode/utf8.first", laid_unicode_utf8_first)], narrowed := true }
def SentenceUsesUptoSaid : Prop := sentenceUsesUptoRow.holds Tryz.pinned (OpenSpec.upto sentenceUsesSpec)

end Rows
end Go.Proofs.YtdpohgoikbeplaaGreatDoor
