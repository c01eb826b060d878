/-
  NARROWER THAN 'FOR EVERY INPUT', by the rows' own cells (each row's printed sentence says how): NfaOf: loops, laid · NfaKleene: loops, laid · NfaChecks: laid · NfaRuns: laid · NfaTurns: laid · NfaWords: laid · NfaListed: laid · NfaJoins: laid · NfaSteps: laid.
  DERIVED. THE GIVEN ROWS OF THIS SEAT. 9 by the template 'for every input the law returns true; each argument reads behind the call as it read before'; 0 by the template 'total and deterministic' (their statements: YteacehfihogmpaaDoorTotals.lean).
  GIVEN WITH THE SEED: the statements are not yours to turn. If you find one false, say at which input.
  Laid BY PROGRAM, IN A SANDBOX (cutbox-rows.mjs): the forced cells as the released guide's own fill.sh prints them over the translation 0a8ccbbb2f79ddd8… (all of the seat's roots in one cut). By AI agents, Wed Nov 11 2026. No macro, syntax, notation, axiom, sorry.
-/
import Derived.Test.YteacehfihogmpaaDoorChecked
import GoSem.Claim
import GoSem.ClaimJoined
import GoSem.ClaimMapViews
import Derived.JoinedTies
import Derived.KernelRfl
namespace Go.Proofs.YteacehfihogmpaaDoor
/- THE CELL 'sum', in the pinned program and in every row, IS THE sha256 OF THE DUMP (.gsa) THAT YteacehfihogmpaaDoorProg.lean LOADS. Nothing in Lean hashes anything: it is a label: what it is worth is what the hold of that sum in a sandbox is worth. -/
noncomputable def Tryd.pinned : Pinned := { name := "yteacehfihogmpaadoor", sum := "0a8ccbbb2f79ddd83bfb21ce2def7a691e4c78a4a5b014db604c559fa468b2f4", checked := Tryd.checked }
namespace Rows
def none {H : Type} : Left H := { results := [], args := [] }

/- WHAT THE LISTED PACKAGE-LEVEL VARIABLES READ AS WHEN THE CALL BEGINS. Each datum BY PROGRAM (the guide's laid-datum.mjs) off the statement by which the dump's own 'gosem.cut.vars' lays the variable. In a bare row this is a premise. The card (YteacehfihogmpaaDoorCards.lean) ties it to the program's text. -/
def laid_math_bits_deBruijn64tab {H : Type} : DataW H := .agg [.lit (.int .u8 0), .lit (.int .u8 1), .lit (.int .u8 56), .lit (.int .u8 2), .lit (.int .u8 57), .lit (.int .u8 49), .lit (.int .u8 28), .lit (.int .u8 3), .lit (.int .u8 61), .lit (.int .u8 58), .lit (.int .u8 42), .lit (.int .u8 50), .lit (.int .u8 38), .lit (.int .u8 29), .lit (.int .u8 17), .lit (.int .u8 4), .lit (.int .u8 62), .lit (.int .u8 47), .lit (.int .u8 59), .lit (.int .u8 36), .lit (.int .u8 45), .lit (.int .u8 43), .lit (.int .u8 51), .lit (.int .u8 22), .lit (.int .u8 53), .lit (.int .u8 39), .lit (.int .u8 33), .lit (.int .u8 30), .lit (.int .u8 24), .lit (.int .u8 18), .lit (.int .u8 12), .lit (.int .u8 5), .lit (.int .u8 63), .lit (.int .u8 55), .lit (.int .u8 48), .lit (.int .u8 27), .lit (.int .u8 60), .lit (.int .u8 41), .lit (.int .u8 37), .lit (.int .u8 16), .lit (.int .u8 46), .lit (.int .u8 35), .lit (.int .u8 44), .lit (.int .u8 21), .lit (.int .u8 52), .lit (.int .u8 32), .lit (.int .u8 23), .lit (.int .u8 11), .lit (.int .u8 54), .lit (.int .u8 26), .lit (.int .u8 40), .lit (.int .u8 15), .lit (.int .u8 34), .lit (.int .u8 20), .lit (.int .u8 31), .lit (.int .u8 10), .lit (.int .u8 25), .lit (.int .u8 14), .lit (.int .u8 19), .lit (.int .u8 9), .lit (.int .u8 13), .lit (.int .u8 8), .lit (.int .u8 7), .lit (.int .u8 6)]

/-- 'kerflaw06.NfaOf': WHATEVER THE INPUT: true; the input reads as it did. -/
def nfaOfSpec : ChangeSpec := { name := "nfaOf", fn := fun _ => fun
  | [d] => { results := [.lit (.bool true)], args := [d] }
  | _ => none }
def nfaOfRow : OpenClaim := { program := "yteacehfihogmpaadoor", sum := "0a8ccbbb2f79ddd83bfb21ce2def7a691e4c78a4a5b014db604c559fa468b2f4", func := "kerf/kerflaw06.NfaOf", spec := "nfaOf", unfollowed := true, recurses := true, named := ["math/bits.deBruijn64tab"], loops := true, apart := false, laid := [("math/bits.deBruijn64tab", laid_math_bits_deBruijn64tab)] }
def NfaOfSaid : Prop := nfaOfRow.holds Tryd.pinned (OpenSpec.ofChange nfaOfSpec)

/-- ITS FALSE NEIGHBOUR: 'it returns false'. Refute it at one input. -/
def nfaOfWrong : ChangeSpec := { name := "nfaOf", fn := fun _ => fun
  | [d] => { results := [.lit (.bool false)], args := [d] }
  | _ => none }
def NfaOfWrongFalsely : Prop := nfaOfRow.holds Tryd.pinned (OpenSpec.ofChange nfaOfWrong)

/-- 'kerflaw06.NfaKleene': WHATEVER THE INPUT: true; the input reads as it did. -/
def nfaKleeneSpec : ChangeSpec := { name := "nfaKleene", fn := fun _ => fun
  | [d1, d2] => { results := [.lit (.bool true)], args := [d1, d2] }
  | _ => none }
def nfaKleeneRow : OpenClaim := { program := "yteacehfihogmpaadoor", sum := "0a8ccbbb2f79ddd83bfb21ce2def7a691e4c78a4a5b014db604c559fa468b2f4", func := "kerf/kerflaw06.NfaKleene", spec := "nfaKleene", unfollowed := true, recurses := true, named := ["math/bits.deBruijn64tab"], loops := true, apart := false, laid := [("math/bits.deBruijn64tab", laid_math_bits_deBruijn64tab)] }
def NfaKleeneSaid : Prop := nfaKleeneRow.holds Tryd.pinned (OpenSpec.ofChange nfaKleeneSpec)

/-- ITS FALSE NEIGHBOUR: 'it returns false'. Refute it at one input. -/
def nfaKleeneWrong : ChangeSpec := { name := "nfaKleene", fn := fun _ => fun
  | [d1, d2] => { results := [.lit (.bool false)], args := [d1, d2] }
  | _ => none }
def NfaKleeneWrongFalsely : Prop := nfaKleeneRow.holds Tryd.pinned (OpenSpec.ofChange nfaKleeneWrong)

/-- 'kerflaw06.NfaChecks': WHATEVER THE INPUT: true; the input reads as it did. -/
def nfaChecksSpec : ChangeSpec := { name := "nfaChecks", fn := fun _ => fun
  | [d] => { results := [.lit (.bool true)], args := [d] }
  | _ => none }
def nfaChecksRow : OpenClaim := { program := "yteacehfihogmpaadoor", sum := "0a8ccbbb2f79ddd83bfb21ce2def7a691e4c78a4a5b014db604c559fa468b2f4", func := "kerf/kerflaw06.NfaChecks", spec := "nfaChecks", unfollowed := true, recurses := true, named := ["math/bits.deBruijn64tab"], apart := false, laid := [("math/bits.deBruijn64tab", laid_math_bits_deBruijn64tab)] }
def NfaChecksSaid : Prop := nfaChecksRow.holds Tryd.pinned (OpenSpec.ofChange nfaChecksSpec)

/-- ITS FALSE NEIGHBOUR: 'it returns false'. Refute it at one input. -/
def nfaChecksWrong : ChangeSpec := { name := "nfaChecks", fn := fun _ => fun
  | [d] => { results := [.lit (.bool false)], args := [d] }
  | _ => none }
def NfaChecksWrongFalsely : Prop := nfaChecksRow.holds Tryd.pinned (OpenSpec.ofChange nfaChecksWrong)

/-- 'kerflaw06.NfaRuns': WHATEVER THE INPUT: true; the input reads as it did. -/
def nfaRunsSpec : ChangeSpec := { name := "nfaRuns", fn := fun _ => fun
  | [d] => { results := [.lit (.bool true)], args := [d] }
  | _ => none }
def nfaRunsRow : OpenClaim := { program := "yteacehfihogmpaadoor", sum := "0a8ccbbb2f79ddd83bfb21ce2def7a691e4c78a4a5b014db604c559fa468b2f4", func := "kerf/kerflaw06.NfaRuns", spec := "nfaRuns", unfollowed := true, recurses := true, named := ["math/bits.deBruijn64tab"], apart := false, laid := [("math/bits.deBruijn64tab", laid_math_bits_deBruijn64tab)] }
def NfaRunsSaid : Prop := nfaRunsRow.holds Tryd.pinned (OpenSpec.ofChange nfaRunsSpec)

/-- ITS FALSE NEIGHBOUR: 'it returns false'. Refute it at one input. -/
def nfaRunsWrong : ChangeSpec := { name := "nfaRuns", fn := fun _ => fun
  | [d] => { results := [.lit (.bool false)], args := [d] }
  | _ => none }
def NfaRunsWrongFalsely : Prop := nfaRunsRow.holds Tryd.pinned (OpenSpec.ofChange nfaRunsWrong)

/-- 'kerflaw06.NfaTurns': WHATEVER THE INPUT: true; the input reads as it did. -/
def nfaTurnsSpec : ChangeSpec := { name := "nfaTurns", fn := fun _ => fun
  | [d1, d2] => { results := [.lit (.bool true)], args := [d1, d2] }
  | _ => none }
def nfaTurnsRow : OpenClaim := { program := "yteacehfihogmpaadoor", sum := "0a8ccbbb2f79ddd83bfb21ce2def7a691e4c78a4a5b014db604c559fa468b2f4", func := "kerf/kerflaw06.NfaTurns", spec := "nfaTurns", unfollowed := true, recurses := true, named := ["math/bits.deBruijn64tab"], apart := false, laid := [("math/bits.deBruijn64tab", laid_math_bits_deBruijn64tab)] }
def NfaTurnsSaid : Prop := nfaTurnsRow.holds Tryd.pinned (OpenSpec.ofChange nfaTurnsSpec)

/-- ITS FALSE NEIGHBOUR: 'it returns false'. Refute it at one input. -/
def nfaTurnsWrong : ChangeSpec := { name := "nfaTurns", fn := fun _ => fun
  | [d1, d2] => { results := [.lit (.bool false)], args := [d1, d2] }
  | _ => none }
def NfaTurnsWrongFalsely : Prop := nfaTurnsRow.holds Tryd.pinned (OpenSpec.ofChange nfaTurnsWrong)

/-- 'kerflaw06.NfaWords': WHATEVER THE INPUT: true; the input reads as it did. -/
def nfaWordsSpec : ChangeSpec := { name := "nfaWords", fn := fun _ => fun
  | [d1, d2, d3] => { results := [.lit (.bool true)], args := [d1, d2, d3] }
  | _ => none }
def nfaWordsRow : OpenClaim := { program := "yteacehfihogmpaadoor", sum := "0a8ccbbb2f79ddd83bfb21ce2def7a691e4c78a4a5b014db604c559fa468b2f4", func := "kerf/kerflaw06.NfaWords", spec := "nfaWords", unfollowed := true, recurses := true, named := ["math/bits.deBruijn64tab"], apart := false, laid := [("math/bits.deBruijn64tab", laid_math_bits_deBruijn64tab)] }
def NfaWordsSaid : Prop := nfaWordsRow.holds Tryd.pinned (OpenSpec.ofChange nfaWordsSpec)

/-- ITS FALSE NEIGHBOUR: 'it returns false'. Refute it at one input. -/
def nfaWordsWrong : ChangeSpec := { name := "nfaWords", fn := fun _ => fun
  | [d1, d2, d3] => { results := [.lit (.bool false)], args := [d1, d2, d3] }
  | _ => none }
def NfaWordsWrongFalsely : Prop := nfaWordsRow.holds Tryd.pinned (OpenSpec.ofChange nfaWordsWrong)

/-- 'kerflaw06.NfaListed': WHATEVER THE INPUT: true; the input reads as it did. -/
def nfaListedSpec : ChangeSpec := { name := "nfaListed", fn := fun _ => fun
  | [d] => { results := [.lit (.bool true)], args := [d] }
  | _ => none }
def nfaListedRow : OpenClaim := { program := "yteacehfihogmpaadoor", sum := "0a8ccbbb2f79ddd83bfb21ce2def7a691e4c78a4a5b014db604c559fa468b2f4", func := "kerf/kerflaw06.NfaListed", spec := "nfaListed", unfollowed := true, recurses := true, named := ["math/bits.deBruijn64tab"], apart := false, laid := [("math/bits.deBruijn64tab", laid_math_bits_deBruijn64tab)] }
def NfaListedSaid : Prop := nfaListedRow.holds Tryd.pinned (OpenSpec.ofChange nfaListedSpec)

/-- ITS FALSE NEIGHBOUR: 'it returns false'. Refute it at one input. -/
def nfaListedWrong : ChangeSpec := { name := "nfaListed", fn := fun _ => fun
  | [d] => { results := [.lit (.bool false)], args := [d] }
  | _ => none }
def NfaListedWrongFalsely : Prop := nfaListedRow.holds Tryd.pinned (OpenSpec.ofChange nfaListedWrong)

/-- 'kerflaw06.NfaJoins': WHATEVER THE INPUT: true; the input reads as it did. -/
def nfaJoinsSpec : ChangeSpec := { name := "nfaJoins", fn := fun _ => fun
  | [d1, d2, d3] => { results := [.lit (.bool true)], args := [d1, d2, d3] }
  | _ => none }
def nfaJoinsRow : OpenClaim := { program := "yteacehfihogmpaadoor", sum := "0a8ccbbb2f79ddd83bfb21ce2def7a691e4c78a4a5b014db604c559fa468b2f4", func := "kerf/kerflaw06.NfaJoins", spec := "nfaJoins", unfollowed := true, recurses := true, named := ["math/bits.deBruijn64tab"], apart := false, laid := [("math/bits.deBruijn64tab", laid_math_bits_deBruijn64tab)] }
def NfaJoinsSaid : Prop := nfaJoinsRow.holds Tryd.pinned (OpenSpec.ofChange nfaJoinsSpec)

/-- ITS FALSE NEIGHBOUR: 'it returns false'. Refute it at one input. -/
def nfaJoinsWrong : ChangeSpec := { name := "nfaJoins", fn := fun _ => fun
  | [d1, d2, d3] => { results := [.lit (.bool false)], args := [d1, d2, d3] }
  | _ => none }
def NfaJoinsWrongFalsely : Prop := nfaJoinsRow.holds Tryd.pinned (OpenSpec.ofChange nfaJoinsWrong)

/-- 'kerflaw06.NfaSteps': WHATEVER THE INPUT: true; the input reads as it did. -/
def nfaStepsSpec : ChangeSpec := { name := "nfaSteps", fn := fun _ => fun
  | [d1, d2, d3] => { results := [.lit (.bool true)], args := [d1, d2, d3] }
  | _ => none }
def nfaStepsRow : OpenClaim := { program := "yteacehfihogmpaadoor", sum := "0a8ccbbb2f79ddd83bfb21ce2def7a691e4c78a4a5b014db604c559fa468b2f4", func := "kerf/kerflaw06.NfaSteps", spec := "nfaSteps", unfollowed := true, recurses := true, named := ["math/bits.deBruijn64tab"], apart := false, laid := [("math/bits.deBruijn64tab", laid_math_bits_deBruijn64tab)] }
def NfaStepsSaid : Prop := nfaStepsRow.holds Tryd.pinned (OpenSpec.ofChange nfaStepsSpec)

/-- ITS FALSE NEIGHBOUR: 'it returns false'. Refute it at one input. -/
def nfaStepsWrong : ChangeSpec := { name := "nfaSteps", fn := fun _ => fun
  | [d1, d2, d3] => { results := [.lit (.bool false)], args := [d1, d2, d3] }
  | _ => none }
def NfaStepsWrongFalsely : Prop := nfaStepsRow.holds Tryd.pinned (OpenSpec.ofChange nfaStepsWrong)

/- THE SECOND FORM. 'bulk': how many values and letters a reading holds, each counted each time it is reached (what is shared counts as often as it is met; a slice's spare places count too). A statement '..UptoSaid' is the law's where the arguments, and the package variables that the reading takes, are together of bulk at most 1048576: NARROWER than '..Said'. Prove '..Said' where nothing that the law and all that it calls make is longer than what came in: it says more and counts as full. Else prove '..UptoSaid'. A law counts once. -/
mutual
def uptoBulk {H : Type} : DataW H → Nat
  | .lit (.string bytes) => bytes.length + 1
  | .lit _ => 1
  | .nil => 1
  | .ptr d => uptoBulk d + 1
  | .slice elems spare => uptoBulkAll elems + uptoBulkAll spare + 1
  | .agg parts => uptoBulkAll parts + 1
  | .iface _ d => uptoBulk d + 1
  | .map entries => uptoBulkEntries entries + 1
  | .held _ => 1
def uptoBulkAll {H : Type} : List (DataW H) → Nat
  | [] => 0
  | d :: r => uptoBulk d + uptoBulkAll r
def uptoBulkEntries {H : Type} : List (Lit × DataW H) → Nat
  | [] => 0
  | x :: r => uptoBulkEntry x + uptoBulkEntries r
def uptoBulkEntry {H : Type} : Lit × DataW H → Nat
  | (.string bytes, d) => bytes.length + uptoBulk d + 1
  | (_, d) => uptoBulk d + 1
 end
def uptoSmall : (H : Type) → List (DataW H) → Bool := fun _ ds => decide (uptoBulkAll ds ≤ 1048576)
def OpenSpec.upto (s : _root_.Go.ChangeSpec) : _root_.Go.OpenSpec := { _root_.Go.OpenSpec.ofChange s with cond := some uptoSmall }

/-- 'kerflaw06.NfaOf', WHERE WHAT IT READS IS OF BULK AT MOST 1048576: true; the input reads as it did. -/
def nfaOfUptoRow : OpenClaim := { program := "yteacehfihogmpaadoor", sum := "0a8ccbbb2f79ddd83bfb21ce2def7a691e4c78a4a5b014db604c559fa468b2f4", func := "kerf/kerflaw06.NfaOf", spec := "nfaOf", unfollowed := true, recurses := true, named := ["math/bits.deBruijn64tab"], loops := true, apart := false, laid := [("math/bits.deBruijn64tab", laid_math_bits_deBruijn64tab)], narrowed := true }
def NfaOfUptoSaid : Prop := nfaOfUptoRow.holds Tryd.pinned (OpenSpec.upto nfaOfSpec)

/-- 'kerflaw06.NfaKleene', WHERE WHAT IT READS IS OF BULK AT MOST 1048576: true; the input reads as it did. -/
def nfaKleeneUptoRow : OpenClaim := { program := "yteacehfihogmpaadoor", sum := "0a8ccbbb2f79ddd83bfb21ce2def7a691e4c78a4a5b014db604c559fa468b2f4", func := "kerf/kerflaw06.NfaKleene", spec := "nfaKleene", unfollowed := true, recurses := true, named := ["math/bits.deBruijn64tab"], loops := true, apart := false, laid := [("math/bits.deBruijn64tab", laid_math_bits_deBruijn64tab)], narrowed := true }
def NfaKleeneUptoSaid : Prop := nfaKleeneUptoRow.holds Tryd.pinned (OpenSpec.upto nfaKleeneSpec)

/-- 'kerflaw06.NfaChecks', WHERE WHAT IT READS IS OF BULK AT MOST 1048576: true; the input reads as it did. -/
def nfaChecksUptoRow : OpenClaim := { program := "yteacehfihogmpaadoor", sum := "0a8ccbbb2f79ddd83bfb21ce2def7a691e4c78a4a5b014db604c559fa468b2f4", func := "kerf/kerflaw06.NfaChecks", spec := "nfaChecks", unfollowed := true, recurses := true, named := ["math/bits.deBruijn64tab"], apart := false, laid := [("math/bits.deBruijn64tab", laid_math_bits_deBruijn64tab)], narrowed := true }
def NfaChecksUptoSaid : Prop := nfaChecksUptoRow.holds Tryd.pinned (OpenSpec.upto nfaChecksSpec)

/-- 'kerflaw06.NfaRuns', WHERE WHAT IT READS IS OF BULK AT MOST 1048576: true; the input reads as it did. -/
def nfaRunsUptoRow : OpenClaim := { program := "yteacehfihogmpaadoor", sum := "0a8ccbbb2f79ddd83bfb21ce2def7a691e4c78a4a5b014db604c559fa468b2f4", func := "kerf/kerflaw06.NfaRuns", spec := "nfaRuns", unfollowed := true, recurses := true, named := ["math/bits.deBruijn64tab"], apart := false, laid := [("math/bits.deBruijn64tab", laid_math_bits_deBruijn64tab)], narrowed := true }
def NfaRunsUptoSaid : Prop := nfaRunsUptoRow.holds Tryd.pinned (OpenSpec.upto nfaRunsSpec)

/-- 'kerflaw06.NfaTurns', WHERE WHAT IT READS IS OF BULK AT MOST 1048576: true; the input reads as it did. -/
def nfaTurnsUptoRow : OpenClaim := { program := "yteacehfihogmpaadoor", sum := "0a8ccbbb2f79ddd83bfb21ce2def7a691e4c78a4a5b014db604c559fa468b2f4", func := "kerf/kerflaw06.NfaTurns", spec := "nfaTurns", unfollowed := true, recurses := true, named := ["math/bits.deBruijn64tab"], apart := false, laid := [("math/bits.deBruijn64tab", laid_math_bits_deBruijn64tab)], narrowed := true }
def NfaTurnsUptoSaid : Prop := nfaTurnsUptoRow.holds Tryd.pinned (OpenSpec.upto nfaTurnsSpec)

/-- 'kerflaw06.NfaWords', WHERE WHAT IT READS IS OF BULK AT MOST 1048576: true; the input reads as it did. -/
def nfaWordsUptoRow : OpenClaim := { program := "yteacehfihogmpaadoor", sum := "0a8ccbbb2f79ddd83bfb21ce2def7a691e4c78a4a5b014db604c559fa468b2f4", func := "kerf/kerflaw06.NfaWords", spec := "nfaWords", unfollowed := true, recurses := true, named := ["math/bits.deBruijn64tab"], apart := false, laid := [("math/bits.deBruijn64tab", laid_math_bits_deBruijn64tab)], narrowed := true }
def NfaWordsUptoSaid : Prop := nfaWordsUptoRow.holds Tryd.pinned (OpenSpec.upto nfaWordsSpec)

/-- 'kerflaw06.NfaListed', WHERE WHAT IT READS IS OF BULK AT MOST 1048576: true; the input reads as it did. -/
def nfaListedUptoRow : OpenClaim := { program := "yteacehfihogmpaadoor", sum := "0a8ccbbb2f79ddd83bfb21ce2def7a691e4c78a4a5b014db604c559fa468b2f4", func := "kerf/kerflaw06.NfaListed", spec := "nfaListed", unfollowed := true, recurses := true, named := ["math/bits.deBruijn64tab"], apart := false, laid := [("math/bits.deBruijn64tab", laid_math_bits_deBruijn64tab)], narrowed := true }
def NfaListedUptoSaid : Prop := nfaListedUptoRow.holds Tryd.pinned (OpenSpec.upto nfaListedSpec)

/-- 'kerflaw06.NfaJoins', WHERE WHAT IT READS IS OF BULK AT MOST 1048576: true; the input reads as it did. -/
def nfaJoinsUptoRow : OpenClaim := { program := "yteacehfihogmpaadoor", sum := "0a8ccbbb2f79ddd83bfb21ce2def7a691e4c78a4a5b014db604c559fa468b2f4", func := "kerf/kerflaw06.NfaJoins", spec := "nfaJoins", unfollowed := true, recurses := true, named := ["math/bits.deBruijn64tab"], apart := false, laid := [("math/bits.deBruijn64tab", laid_math_bits_deBruijn64tab)], narrowed := true }
def NfaJoinsUptoSaid : Prop := nfaJoinsUptoRow.holds Tryd.pinned (OpenSpec.upto nfaJoinsSpec)

/-- 'kerflaw06.NfaSteps', WHERE WHAT IT READS IS OF BULK AT MOST 1048576: true; the input reads as it did. -/
def nfaStepsUptoRow : OpenClaim := { program := "yteacehfihogmpaadoor", sum := "0a8ccbbb2f79ddd83bfb21ce2def7a691e4c78a4a5b014db604c559fa468b2f4", func := "kerf/kerflaw06.NfaSteps", spec := "nfaSteps", unfollowed := true, recurses := true, named := ["math/bits.deBruijn64tab"], apart := false, laid := [("math/bits.deBruijn64tab", laid_math_bits_deBruijn64tab)], narrowed := true }
def NfaStepsUptoSaid : Prop := nfaStepsUptoRow.holds Tryd.pinned (OpenSpec.upto nfaStepsSpec)

end Rows
end Go.Proofs.YteacehfihogmpaaDoor
