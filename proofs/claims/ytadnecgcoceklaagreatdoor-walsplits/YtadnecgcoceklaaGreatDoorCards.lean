/-
  DERIVED. GIVEN WITH THE SEED: THE CARDS: each row of YtadnecgcoceklaaGreatDoorRows.lean that lists a variable, with what it lists TIED to the program's text (the seventh form; the later family's looks); each row that meets fmt, with fmt's text TOLD by the authors' own Lean function (tested against real Go, not proved from fmt's source: count such statements apart). THE CARD IS WHAT COUNTS. Prove the row's statement (the work); the ties are given (YtadnecgcoceklaaGreatDoorTie.lean); close each card by the builder's one call (the guide's Derived/Test/ToyasCard.lean, 'card_holds'). Laid BY PROGRAM, IN A SANDBOX (cutbox-door.mjs). By AI agents, Wed Nov 11 2026. No macro, syntax, notation, axiom, sorry.
-/
import Derived.Test.YtadnecgcoceklaaGreatDoorRows
import GoSem.ClaimSeven
namespace Go.Proofs.YtadnecgcoceklaaGreatDoor
namespace Rows

/-- THE TIED CARD OF 'assartlaw10.WalTurns'. -/
def walTurnsCard : Claim7 := { stood := { row := walTurnsRow, standIns := [], harness := (true, "9209bb6370e1182fe4cbd5fa0b4b294be3bedd8cb4cbe3f58f8e40b6432ea59d"), looks := true }, kinds := [], alts := [], laidByText := true, laidKinds := [.data, .data, .data, .sentinel, .sentinel], laidTests := true, laidLooks := .later }
def WalTurnsCardSaid : Prop := Claim7.holds Tryz.pinned (.plain (OpenSpec.ofChange walTurnsSpec)) walTurnsCard

/-- THE TIED CARD OF 'assartlaw10.WalKeeps'. -/
def walKeepsCard : Claim7 := { stood := { row := walKeepsRow, standIns := [], harness := (true, "9209bb6370e1182fe4cbd5fa0b4b294be3bedd8cb4cbe3f58f8e40b6432ea59d"), looks := true }, kinds := [], alts := [], laidByText := true, laidKinds := [.data, .data, .data, .sentinel, .sentinel], laidTests := true, laidLooks := .later }
def WalKeepsCardSaid : Prop := Claim7.holds Tryz.pinned (.plain (OpenSpec.ofChange walKeepsSpec)) walKeepsCard

/-- THE TIED CARD OF 'assartlaw10.WalSplits'. -/
def walSplitsCard : Claim7 := { stood := { row := walSplitsRow, standIns := [], harness := (true, "9209bb6370e1182fe4cbd5fa0b4b294be3bedd8cb4cbe3f58f8e40b6432ea59d"), looks := true }, kinds := [], alts := [], laidByText := true, laidKinds := [.data, .data, .data, .sentinel, .sentinel], laidTests := true, laidLooks := .later }
def WalSplitsCardSaid : Prop := Claim7.holds Tryz.pinned (.plain (OpenSpec.ofChange walSplitsSpec)) walSplitsCard

/-- THE TIED CARD OF 'assartlaw10.WalNames'. -/
def walNamesCard : Claim7 := { stood := { row := walNamesRow, standIns := [], harness := (true, "9209bb6370e1182fe4cbd5fa0b4b294be3bedd8cb4cbe3f58f8e40b6432ea59d"), looks := true }, kinds := [], alts := [], laidByText := true, laidKinds := [.data, .data, .data, .sentinel, .sentinel], laidTests := true, laidLooks := .later }
def WalNamesCardSaid : Prop := Claim7.holds Tryz.pinned (.plain (OpenSpec.ofChange walNamesSpec)) walNamesCard

/-- THE TIED CARD OF 'assartlaw10.WalSyncs'. -/
def walSyncsCard : Claim7 := { stood := { row := walSyncsRow, standIns := [], harness := (true, "9209bb6370e1182fe4cbd5fa0b4b294be3bedd8cb4cbe3f58f8e40b6432ea59d"), looks := true }, kinds := [], alts := [], laidByText := true, laidKinds := [.data, .data, .data, .sentinel, .sentinel], laidTests := true, laidLooks := .later }
def WalSyncsCardSaid : Prop := Claim7.holds Tryz.pinned (.plain (OpenSpec.ofChange walSyncsSpec)) walSyncsCard

/-- THE SECOND FORM's CARD OF 'assartlaw10.WalTurns'. -/
def walTurnsUptoCard : Claim7 := { stood := { row := walTurnsUptoRow, standIns := [], harness := (true, "9209bb6370e1182fe4cbd5fa0b4b294be3bedd8cb4cbe3f58f8e40b6432ea59d"), looks := true }, kinds := [], alts := [], laidByText := true, laidKinds := [.data, .data, .data, .sentinel, .sentinel], laidTests := true, laidLooks := .later }
def WalTurnsUptoCardSaid : Prop := Claim7.holds Tryz.pinned (.plain (OpenSpec.upto walTurnsSpec)) walTurnsUptoCard

/-- THE SECOND FORM's CARD OF 'assartlaw10.WalKeeps'. -/
def walKeepsUptoCard : Claim7 := { stood := { row := walKeepsUptoRow, standIns := [], harness := (true, "9209bb6370e1182fe4cbd5fa0b4b294be3bedd8cb4cbe3f58f8e40b6432ea59d"), looks := true }, kinds := [], alts := [], laidByText := true, laidKinds := [.data, .data, .data, .sentinel, .sentinel], laidTests := true, laidLooks := .later }
def WalKeepsUptoCardSaid : Prop := Claim7.holds Tryz.pinned (.plain (OpenSpec.upto walKeepsSpec)) walKeepsUptoCard

/-- THE SECOND FORM's CARD OF 'assartlaw10.WalSplits'. -/
def walSplitsUptoCard : Claim7 := { stood := { row := walSplitsUptoRow, standIns := [], harness := (true, "9209bb6370e1182fe4cbd5fa0b4b294be3bedd8cb4cbe3f58f8e40b6432ea59d"), looks := true }, kinds := [], alts := [], laidByText := true, laidKinds := [.data, .data, .data, .sentinel, .sentinel], laidTests := true, laidLooks := .later }
def WalSplitsUptoCardSaid : Prop := Claim7.holds Tryz.pinned (.plain (OpenSpec.upto walSplitsSpec)) walSplitsUptoCard

/-- THE SECOND FORM's CARD OF 'assartlaw10.WalNames'. -/
def walNamesUptoCard : Claim7 := { stood := { row := walNamesUptoRow, standIns := [], harness := (true, "9209bb6370e1182fe4cbd5fa0b4b294be3bedd8cb4cbe3f58f8e40b6432ea59d"), looks := true }, kinds := [], alts := [], laidByText := true, laidKinds := [.data, .data, .data, .sentinel, .sentinel], laidTests := true, laidLooks := .later }
def WalNamesUptoCardSaid : Prop := Claim7.holds Tryz.pinned (.plain (OpenSpec.upto walNamesSpec)) walNamesUptoCard

/-- THE SECOND FORM's CARD OF 'assartlaw10.WalSyncs'. -/
def walSyncsUptoCard : Claim7 := { stood := { row := walSyncsUptoRow, standIns := [], harness := (true, "9209bb6370e1182fe4cbd5fa0b4b294be3bedd8cb4cbe3f58f8e40b6432ea59d"), looks := true }, kinds := [], alts := [], laidByText := true, laidKinds := [.data, .data, .data, .sentinel, .sentinel], laidTests := true, laidLooks := .later }
def WalSyncsUptoCardSaid : Prop := Claim7.holds Tryz.pinned (.plain (OpenSpec.upto walSyncsSpec)) walSyncsUptoCard
end Rows
end Go.Proofs.YtadnecgcoceklaaGreatDoor
