/-
  DERIVED. GIVEN WITH THE SEED: THE CARDS: each row of YtapofoepijkcoaaDoorRows.lean that lists a variable, with what it lists TIED to the program's text (the seventh form; the later family's looks); each row that meets fmt, with fmt's text TOLD by the authors' own Lean function (tested against real Go, not proved from fmt's source: count such statements apart). THE CARD IS WHAT COUNTS. Prove the row's statement (the work); the ties are given (YtapofoepijkcoaaDoorTie.lean); close each card by the builder's one call (the guide's Derived/Test/ToyasCard.lean, 'card_holds'). Laid BY PROGRAM, IN A SANDBOX (cutbox-door.mjs). By AI agents, Wed Nov 11 2026. No macro, syntax, notation, axiom, sorry.
-/
import Derived.Test.YtapofoepijkcoaaDoorRows
import GoSem.ClaimSeven
namespace Go.Proofs.YtapofoepijkcoaaDoor
namespace Rows

/-- THE TIED CARD OF 'tallowlaw02.ValLooks'. -/
def valLooksCard : Claim7 := { stood := { row := valLooksRow, standIns := [], harness := (true, "bda24a7fbaf60e810245ee5e7914895c7f3b95914c963d70e33da742bb7e1a85"), looks := false }, kinds := [], alts := [], laidByText := true, laidKinds := [.data, .data], laidTests := true, laidLooks := .later }
def ValLooksCardSaid : Prop := Claim7.holds Tryd.pinned (.plain (OpenSpec.ofChange valLooksSpec)) valLooksCard

/-- THE TIED CARD OF 'tallowlaw02.ValNames'. -/
def valNamesCard : Claim7 := { stood := { row := valNamesRow, standIns := [], harness := (true, "bda24a7fbaf60e810245ee5e7914895c7f3b95914c963d70e33da742bb7e1a85"), looks := false }, kinds := [], alts := [], laidByText := true, laidKinds := [.data, .data], laidTests := true, laidLooks := .later }
def ValNamesCardSaid : Prop := Claim7.holds Tryd.pinned (.plain (OpenSpec.ofChange valNamesSpec)) valNamesCard

/-- THE TIED CARD OF 'tallowlaw02.ValRefs'. -/
def valRefsCard : Claim7 := { stood := { row := valRefsRow, standIns := [], harness := (true, "bda24a7fbaf60e810245ee5e7914895c7f3b95914c963d70e33da742bb7e1a85"), looks := false }, kinds := [], alts := [], laidByText := true, laidKinds := [.data, .data], laidTests := true, laidLooks := .later }
def ValRefsCardSaid : Prop := Claim7.holds Tryd.pinned (.plain (OpenSpec.ofChange valRefsSpec)) valRefsCard

/-- THE TIED CARD OF 'tallowlaw02.ValParts'. -/
def valPartsCard : Claim7 := { stood := { row := valPartsRow, standIns := [], harness := (true, "bda24a7fbaf60e810245ee5e7914895c7f3b95914c963d70e33da742bb7e1a85"), looks := false }, kinds := [], alts := [], laidByText := true, laidKinds := [.data, .data], laidTests := true, laidLooks := .later }
def ValPartsCardSaid : Prop := Claim7.holds Tryd.pinned (.plain (OpenSpec.ofChange valPartsSpec)) valPartsCard

/-- THE TIED CARD OF 'tallowlaw02.ValBack'. -/
def valBackCard : Claim7 := { stood := { row := valBackRow, standIns := [], harness := (true, "bda24a7fbaf60e810245ee5e7914895c7f3b95914c963d70e33da742bb7e1a85"), looks := false }, kinds := [], alts := [], laidByText := true, laidKinds := [.data, .data], laidTests := true, laidLooks := .later }
def ValBackCardSaid : Prop := Claim7.holds Tryd.pinned (.plain (OpenSpec.ofChange valBackSpec)) valBackCard

/-- THE TIED CARD OF 'tallowlaw02.ValJoins'. -/
def valJoinsCard : Claim7 := { stood := { row := valJoinsRow, standIns := [], harness := (true, "bda24a7fbaf60e810245ee5e7914895c7f3b95914c963d70e33da742bb7e1a85"), looks := false }, kinds := [], alts := [], laidByText := true, laidKinds := [.data, .data], laidTests := true, laidLooks := .later }
def ValJoinsCardSaid : Prop := Claim7.holds Tryd.pinned (.plain (OpenSpec.ofChange valJoinsSpec)) valJoinsCard

/-- THE TIED CARD OF 'tallowlaw02.ValKnown'. -/
def valKnownCard : Claim7 := { stood := { row := valKnownRow, standIns := [], harness := (true, "bda24a7fbaf60e810245ee5e7914895c7f3b95914c963d70e33da742bb7e1a85"), looks := false }, kinds := [], alts := [], laidByText := true, laidKinds := [.data, .data], laidTests := true, laidLooks := .later }
def ValKnownCardSaid : Prop := Claim7.holds Tryd.pinned (.plain (OpenSpec.ofChange valKnownSpec)) valKnownCard

/-- THE SECOND FORM's CARD OF 'tallowlaw02.ValLooks'. -/
def valLooksUptoCard : Claim7 := { stood := { row := valLooksUptoRow, standIns := [], harness := (true, "bda24a7fbaf60e810245ee5e7914895c7f3b95914c963d70e33da742bb7e1a85"), looks := false }, kinds := [], alts := [], laidByText := true, laidKinds := [.data, .data], laidTests := true, laidLooks := .later }
def ValLooksUptoCardSaid : Prop := Claim7.holds Tryd.pinned (.plain (OpenSpec.upto valLooksSpec)) valLooksUptoCard

/-- THE SECOND FORM's CARD OF 'tallowlaw02.ValNames'. -/
def valNamesUptoCard : Claim7 := { stood := { row := valNamesUptoRow, standIns := [], harness := (true, "bda24a7fbaf60e810245ee5e7914895c7f3b95914c963d70e33da742bb7e1a85"), looks := false }, kinds := [], alts := [], laidByText := true, laidKinds := [.data, .data], laidTests := true, laidLooks := .later }
def ValNamesUptoCardSaid : Prop := Claim7.holds Tryd.pinned (.plain (OpenSpec.upto valNamesSpec)) valNamesUptoCard

/-- THE SECOND FORM's CARD OF 'tallowlaw02.ValRefs'. -/
def valRefsUptoCard : Claim7 := { stood := { row := valRefsUptoRow, standIns := [], harness := (true, "bda24a7fbaf60e810245ee5e7914895c7f3b95914c963d70e33da742bb7e1a85"), looks := false }, kinds := [], alts := [], laidByText := true, laidKinds := [.data, .data], laidTests := true, laidLooks := .later }
def ValRefsUptoCardSaid : Prop := Claim7.holds Tryd.pinned (.plain (OpenSpec.upto valRefsSpec)) valRefsUptoCard

/-- THE SECOND FORM's CARD OF 'tallowlaw02.ValParts'. -/
def valPartsUptoCard : Claim7 := { stood := { row := valPartsUptoRow, standIns := [], harness := (true, "bda24a7fbaf60e810245ee5e7914895c7f3b95914c963d70e33da742bb7e1a85"), looks := false }, kinds := [], alts := [], laidByText := true, laidKinds := [.data, .data], laidTests := true, laidLooks := .later }
def ValPartsUptoCardSaid : Prop := Claim7.holds Tryd.pinned (.plain (OpenSpec.upto valPartsSpec)) valPartsUptoCard

/-- THE SECOND FORM's CARD OF 'tallowlaw02.ValBack'. -/
def valBackUptoCard : Claim7 := { stood := { row := valBackUptoRow, standIns := [], harness := (true, "bda24a7fbaf60e810245ee5e7914895c7f3b95914c963d70e33da742bb7e1a85"), looks := false }, kinds := [], alts := [], laidByText := true, laidKinds := [.data, .data], laidTests := true, laidLooks := .later }
def ValBackUptoCardSaid : Prop := Claim7.holds Tryd.pinned (.plain (OpenSpec.upto valBackSpec)) valBackUptoCard

/-- THE SECOND FORM's CARD OF 'tallowlaw02.ValJoins'. -/
def valJoinsUptoCard : Claim7 := { stood := { row := valJoinsUptoRow, standIns := [], harness := (true, "bda24a7fbaf60e810245ee5e7914895c7f3b95914c963d70e33da742bb7e1a85"), looks := false }, kinds := [], alts := [], laidByText := true, laidKinds := [.data, .data], laidTests := true, laidLooks := .later }
def ValJoinsUptoCardSaid : Prop := Claim7.holds Tryd.pinned (.plain (OpenSpec.upto valJoinsSpec)) valJoinsUptoCard

/-- THE SECOND FORM's CARD OF 'tallowlaw02.ValKnown'. -/
def valKnownUptoCard : Claim7 := { stood := { row := valKnownUptoRow, standIns := [], harness := (true, "bda24a7fbaf60e810245ee5e7914895c7f3b95914c963d70e33da742bb7e1a85"), looks := false }, kinds := [], alts := [], laidByText := true, laidKinds := [.data, .data], laidTests := true, laidLooks := .later }
def ValKnownUptoCardSaid : Prop := Claim7.holds Tryd.pinned (.plain (OpenSpec.upto valKnownSpec)) valKnownUptoCard
end Rows
end Go.Proofs.YtapofoepijkcoaaDoor
