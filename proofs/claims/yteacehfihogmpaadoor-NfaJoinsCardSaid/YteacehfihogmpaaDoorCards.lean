/-
  DERIVED. GIVEN WITH THE SEED: THE CARDS: each row of YteacehfihogmpaaDoorRows.lean that lists a variable, with what it lists TIED to the program's text (the seventh form; the later family's looks); each row that meets fmt, with fmt's text TOLD by the authors' own Lean function (tested against real Go, not proved from fmt's source: count such statements apart). THE CARD IS WHAT COUNTS. Prove the row's statement (the work); the ties are given (YteacehfihogmpaaDoorTie.lean); close each card by the builder's one call (the guide's Derived/Test/ToyasCard.lean, 'card_holds'). Laid BY PROGRAM, IN A SANDBOX (cutbox-door.mjs). By AI agents, Wed Nov 11 2026. No macro, syntax, notation, axiom, sorry.
-/
import Derived.Test.YteacehfihogmpaaDoorRows
import GoSem.ClaimSeven
namespace Go.Proofs.YteacehfihogmpaaDoor
namespace Rows

/-- THE TIED CARD OF 'kerflaw06.NfaOf'. -/
def nfaOfCard : Claim7 := { stood := { row := nfaOfRow, standIns := [], harness := (true, "48afda9af6968ab24eaef139bae90a6c26acce24ae93525d01b1353903bd83da"), looks := false }, kinds := [], alts := [], laidByText := true, laidKinds := [.data], laidTests := true, laidLooks := .later }
def NfaOfCardSaid : Prop := Claim7.holds Tryd.pinned (.plain (OpenSpec.ofChange nfaOfSpec)) nfaOfCard

/-- THE TIED CARD OF 'kerflaw06.NfaKleene'. -/
def nfaKleeneCard : Claim7 := { stood := { row := nfaKleeneRow, standIns := [], harness := (true, "48afda9af6968ab24eaef139bae90a6c26acce24ae93525d01b1353903bd83da"), looks := false }, kinds := [], alts := [], laidByText := true, laidKinds := [.data], laidTests := true, laidLooks := .later }
def NfaKleeneCardSaid : Prop := Claim7.holds Tryd.pinned (.plain (OpenSpec.ofChange nfaKleeneSpec)) nfaKleeneCard

/-- THE TIED CARD OF 'kerflaw06.NfaChecks'. -/
def nfaChecksCard : Claim7 := { stood := { row := nfaChecksRow, standIns := [], harness := (true, "48afda9af6968ab24eaef139bae90a6c26acce24ae93525d01b1353903bd83da"), looks := false }, kinds := [], alts := [], laidByText := true, laidKinds := [.data], laidTests := true, laidLooks := .later }
def NfaChecksCardSaid : Prop := Claim7.holds Tryd.pinned (.plain (OpenSpec.ofChange nfaChecksSpec)) nfaChecksCard

/-- THE TIED CARD OF 'kerflaw06.NfaRuns'. -/
def nfaRunsCard : Claim7 := { stood := { row := nfaRunsRow, standIns := [], harness := (true, "48afda9af6968ab24eaef139bae90a6c26acce24ae93525d01b1353903bd83da"), looks := false }, kinds := [], alts := [], laidByText := true, laidKinds := [.data], laidTests := true, laidLooks := .later }
def NfaRunsCardSaid : Prop := Claim7.holds Tryd.pinned (.plain (OpenSpec.ofChange nfaRunsSpec)) nfaRunsCard

/-- THE TIED CARD OF 'kerflaw06.NfaTurns'. -/
def nfaTurnsCard : Claim7 := { stood := { row := nfaTurnsRow, standIns := [], harness := (true, "48afda9af6968ab24eaef139bae90a6c26acce24ae93525d01b1353903bd83da"), looks := false }, kinds := [], alts := [], laidByText := true, laidKinds := [.data], laidTests := true, laidLooks := .later }
def NfaTurnsCardSaid : Prop := Claim7.holds Tryd.pinned (.plain (OpenSpec.ofChange nfaTurnsSpec)) nfaTurnsCard

/-- THE TIED CARD OF 'kerflaw06.NfaWords'. -/
def nfaWordsCard : Claim7 := { stood := { row := nfaWordsRow, standIns := [], harness := (true, "48afda9af6968ab24eaef139bae90a6c26acce24ae93525d01b1353903bd83da"), looks := false }, kinds := [], alts := [], laidByText := true, laidKinds := [.data], laidTests := true, laidLooks := .later }
def NfaWordsCardSaid : Prop := Claim7.holds Tryd.pinned (.plain (OpenSpec.ofChange nfaWordsSpec)) nfaWordsCard

/-- THE TIED CARD OF 'kerflaw06.NfaListed'. -/
def nfaListedCard : Claim7 := { stood := { row := nfaListedRow, standIns := [], harness := (true, "48afda9af6968ab24eaef139bae90a6c26acce24ae93525d01b1353903bd83da"), looks := false }, kinds := [], alts := [], laidByText := true, laidKinds := [.data], laidTests := true, laidLooks := .later }
def NfaListedCardSaid : Prop := Claim7.holds Tryd.pinned (.plain (OpenSpec.ofChange nfaListedSpec)) nfaListedCard

/-- THE TIED CARD OF 'kerflaw06.NfaJoins'. -/
def nfaJoinsCard : Claim7 := { stood := { row := nfaJoinsRow, standIns := [], harness := (true, "48afda9af6968ab24eaef139bae90a6c26acce24ae93525d01b1353903bd83da"), looks := false }, kinds := [], alts := [], laidByText := true, laidKinds := [.data], laidTests := true, laidLooks := .later }
def NfaJoinsCardSaid : Prop := Claim7.holds Tryd.pinned (.plain (OpenSpec.ofChange nfaJoinsSpec)) nfaJoinsCard

/-- THE TIED CARD OF 'kerflaw06.NfaSteps'. -/
def nfaStepsCard : Claim7 := { stood := { row := nfaStepsRow, standIns := [], harness := (true, "48afda9af6968ab24eaef139bae90a6c26acce24ae93525d01b1353903bd83da"), looks := false }, kinds := [], alts := [], laidByText := true, laidKinds := [.data], laidTests := true, laidLooks := .later }
def NfaStepsCardSaid : Prop := Claim7.holds Tryd.pinned (.plain (OpenSpec.ofChange nfaStepsSpec)) nfaStepsCard

/-- THE SECOND FORM's CARD OF 'kerflaw06.NfaOf'. -/
def nfaOfUptoCard : Claim7 := { stood := { row := nfaOfUptoRow, standIns := [], harness := (true, "48afda9af6968ab24eaef139bae90a6c26acce24ae93525d01b1353903bd83da"), looks := false }, kinds := [], alts := [], laidByText := true, laidKinds := [.data], laidTests := true, laidLooks := .later }
def NfaOfUptoCardSaid : Prop := Claim7.holds Tryd.pinned (.plain (OpenSpec.upto nfaOfSpec)) nfaOfUptoCard

/-- THE SECOND FORM's CARD OF 'kerflaw06.NfaKleene'. -/
def nfaKleeneUptoCard : Claim7 := { stood := { row := nfaKleeneUptoRow, standIns := [], harness := (true, "48afda9af6968ab24eaef139bae90a6c26acce24ae93525d01b1353903bd83da"), looks := false }, kinds := [], alts := [], laidByText := true, laidKinds := [.data], laidTests := true, laidLooks := .later }
def NfaKleeneUptoCardSaid : Prop := Claim7.holds Tryd.pinned (.plain (OpenSpec.upto nfaKleeneSpec)) nfaKleeneUptoCard

/-- THE SECOND FORM's CARD OF 'kerflaw06.NfaChecks'. -/
def nfaChecksUptoCard : Claim7 := { stood := { row := nfaChecksUptoRow, standIns := [], harness := (true, "48afda9af6968ab24eaef139bae90a6c26acce24ae93525d01b1353903bd83da"), looks := false }, kinds := [], alts := [], laidByText := true, laidKinds := [.data], laidTests := true, laidLooks := .later }
def NfaChecksUptoCardSaid : Prop := Claim7.holds Tryd.pinned (.plain (OpenSpec.upto nfaChecksSpec)) nfaChecksUptoCard

/-- THE SECOND FORM's CARD OF 'kerflaw06.NfaRuns'. -/
def nfaRunsUptoCard : Claim7 := { stood := { row := nfaRunsUptoRow, standIns := [], harness := (true, "48afda9af6968ab24eaef139bae90a6c26acce24ae93525d01b1353903bd83da"), looks := false }, kinds := [], alts := [], laidByText := true, laidKinds := [.data], laidTests := true, laidLooks := .later }
def NfaRunsUptoCardSaid : Prop := Claim7.holds Tryd.pinned (.plain (OpenSpec.upto nfaRunsSpec)) nfaRunsUptoCard

/-- THE SECOND FORM's CARD OF 'kerflaw06.NfaTurns'. -/
def nfaTurnsUptoCard : Claim7 := { stood := { row := nfaTurnsUptoRow, standIns := [], harness := (true, "48afda9af6968ab24eaef139bae90a6c26acce24ae93525d01b1353903bd83da"), looks := false }, kinds := [], alts := [], laidByText := true, laidKinds := [.data], laidTests := true, laidLooks := .later }
def NfaTurnsUptoCardSaid : Prop := Claim7.holds Tryd.pinned (.plain (OpenSpec.upto nfaTurnsSpec)) nfaTurnsUptoCard

/-- THE SECOND FORM's CARD OF 'kerflaw06.NfaWords'. -/
def nfaWordsUptoCard : Claim7 := { stood := { row := nfaWordsUptoRow, standIns := [], harness := (true, "48afda9af6968ab24eaef139bae90a6c26acce24ae93525d01b1353903bd83da"), looks := false }, kinds := [], alts := [], laidByText := true, laidKinds := [.data], laidTests := true, laidLooks := .later }
def NfaWordsUptoCardSaid : Prop := Claim7.holds Tryd.pinned (.plain (OpenSpec.upto nfaWordsSpec)) nfaWordsUptoCard

/-- THE SECOND FORM's CARD OF 'kerflaw06.NfaListed'. -/
def nfaListedUptoCard : Claim7 := { stood := { row := nfaListedUptoRow, standIns := [], harness := (true, "48afda9af6968ab24eaef139bae90a6c26acce24ae93525d01b1353903bd83da"), looks := false }, kinds := [], alts := [], laidByText := true, laidKinds := [.data], laidTests := true, laidLooks := .later }
def NfaListedUptoCardSaid : Prop := Claim7.holds Tryd.pinned (.plain (OpenSpec.upto nfaListedSpec)) nfaListedUptoCard

/-- THE SECOND FORM's CARD OF 'kerflaw06.NfaJoins'. -/
def nfaJoinsUptoCard : Claim7 := { stood := { row := nfaJoinsUptoRow, standIns := [], harness := (true, "48afda9af6968ab24eaef139bae90a6c26acce24ae93525d01b1353903bd83da"), looks := false }, kinds := [], alts := [], laidByText := true, laidKinds := [.data], laidTests := true, laidLooks := .later }
def NfaJoinsUptoCardSaid : Prop := Claim7.holds Tryd.pinned (.plain (OpenSpec.upto nfaJoinsSpec)) nfaJoinsUptoCard

/-- THE SECOND FORM's CARD OF 'kerflaw06.NfaSteps'. -/
def nfaStepsUptoCard : Claim7 := { stood := { row := nfaStepsUptoRow, standIns := [], harness := (true, "48afda9af6968ab24eaef139bae90a6c26acce24ae93525d01b1353903bd83da"), looks := false }, kinds := [], alts := [], laidByText := true, laidKinds := [.data], laidTests := true, laidLooks := .later }
def NfaStepsUptoCardSaid : Prop := Claim7.holds Tryd.pinned (.plain (OpenSpec.upto nfaStepsSpec)) nfaStepsUptoCard
end Rows
end Go.Proofs.YteacehfihogmpaaDoor
