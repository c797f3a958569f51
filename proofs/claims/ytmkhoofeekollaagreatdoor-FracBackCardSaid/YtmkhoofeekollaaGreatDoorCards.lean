/-
  DERIVED. GIVEN WITH THE SEED: THE CARDS: each row of YtmkhoofeekollaaGreatDoorRows.lean that lists a variable, with what it lists TIED to the program's text (the seventh form; the later family's looks); each row that meets fmt, with fmt's text TOLD by the authors' own Lean function (tested against real Go, not proved from fmt's source: count such statements apart). THE CARD IS WHAT COUNTS. Prove the row's statement (the work); the ties are given (YtmkhoofeekollaaGreatDoorTie.lean); close each card by the builder's one call (the guide's Derived/Test/ToyasCard.lean, 'card_holds'). Laid BY PROGRAM, IN A SANDBOX (cutbox-door.mjs). By AI agents, Wed Nov 11 2026. No macro, syntax, notation, axiom, sorry.
-/
import Derived.Test.YtmkhoofeekollaaGreatDoorRows
import GoSem.ClaimSeven
namespace Go.Proofs.YtmkhoofeekollaaGreatDoor
namespace Rows

/-- THE TIED CARD OF 'kerbsidelaw05.FracField'. -/
def fracFieldCard : Claim7 := { stood := { row := fracFieldRow, standIns := [], harness := (true, "165750f50fbe00393132188aa90e0e17bb84a845ab44f228b4327e06838454fa"), looks := true }, kinds := [], alts := [], laidByText := true, laidKinds := [.data, .data, .data, .sentinel, .sentinel], laidTests := true, laidLooks := .later }
def FracFieldCardSaid : Prop := Claim7.holds Tryz.pinned (.plain (OpenSpec.ofChange fracFieldSpec)) fracFieldCard

/-- THE TIED CARD OF 'kerbsidelaw05.FracOrder'. -/
def fracOrderCard : Claim7 := { stood := { row := fracOrderRow, standIns := [], harness := (true, "165750f50fbe00393132188aa90e0e17bb84a845ab44f228b4327e06838454fa"), looks := true }, kinds := [], alts := [], laidByText := true, laidKinds := [.data, .data, .data, .sentinel, .sentinel], laidTests := true, laidLooks := .later }
def FracOrderCardSaid : Prop := Claim7.holds Tryz.pinned (.plain (OpenSpec.ofChange fracOrderSpec)) fracOrderCard

/-- THE TIED CARD OF 'kerbsidelaw05.FracBack'. -/
def fracBackCard : Claim7 := { stood := { row := fracBackRow, standIns := [], harness := (true, "165750f50fbe00393132188aa90e0e17bb84a845ab44f228b4327e06838454fa"), looks := true }, kinds := [], alts := [], laidByText := true, laidKinds := [.data, .data, .data, .sentinel, .sentinel], laidTests := true, laidLooks := .later }
def FracBackCardSaid : Prop := Claim7.holds Tryz.pinned (.plain (OpenSpec.ofChange fracBackSpec)) fracBackCard

/-- THE TIED CARD OF 'kerbsidelaw05.FracFloor'. -/
def fracFloorCard : Claim7 := { stood := { row := fracFloorRow, standIns := [], harness := (true, "165750f50fbe00393132188aa90e0e17bb84a845ab44f228b4327e06838454fa"), looks := true }, kinds := [], alts := [], laidByText := true, laidKinds := [.data, .data, .data, .sentinel, .sentinel], laidTests := true, laidLooks := .later }
def FracFloorCardSaid : Prop := Claim7.holds Tryz.pinned (.plain (OpenSpec.ofChange fracFloorSpec)) fracFloorCard

/-- THE TIED CARD OF 'kerbsidelaw08.LinearAdds'. -/
def linearAddsCard : Claim7 := { stood := { row := linearAddsRow, standIns := [], harness := (true, "165750f50fbe00393132188aa90e0e17bb84a845ab44f228b4327e06838454fa"), looks := true }, kinds := [], alts := [], laidByText := true, laidKinds := [.data], laidTests := true, laidLooks := .later }
def LinearAddsCardSaid : Prop := Claim7.holds Tryz.pinned (.plain (OpenSpec.ofChange linearAddsSpec)) linearAddsCard

/-- THE TIED CARD OF 'kerbsidelaw08.LinearRows'. -/
def linearRowsCard : Claim7 := { stood := { row := linearRowsRow, standIns := [], harness := (true, "165750f50fbe00393132188aa90e0e17bb84a845ab44f228b4327e06838454fa"), looks := true }, kinds := [], alts := [], laidByText := true, laidKinds := [.data], laidTests := true, laidLooks := .later }
def LinearRowsCardSaid : Prop := Claim7.holds Tryz.pinned (.plain (OpenSpec.ofChange linearRowsSpec)) linearRowsCard

/-- THE TIED CARD OF 'kerbsidelaw08.LinearMixes'. -/
def linearMixesCard : Claim7 := { stood := { row := linearMixesRow, standIns := [], harness := (true, "165750f50fbe00393132188aa90e0e17bb84a845ab44f228b4327e06838454fa"), looks := true }, kinds := [], alts := [], laidByText := true, laidKinds := [.data], laidTests := true, laidLooks := .later }
def LinearMixesCardSaid : Prop := Claim7.holds Tryz.pinned (.plain (OpenSpec.ofChange linearMixesSpec)) linearMixesCard

/-- THE TIED CARD OF 'kerbsidelaw08.LinearTurns'. -/
def linearTurnsCard : Claim7 := { stood := { row := linearTurnsRow, standIns := [], harness := (true, "165750f50fbe00393132188aa90e0e17bb84a845ab44f228b4327e06838454fa"), looks := true }, kinds := [], alts := [], laidByText := true, laidKinds := [.data], laidTests := true, laidLooks := .later }
def LinearTurnsCardSaid : Prop := Claim7.holds Tryz.pinned (.plain (OpenSpec.ofChange linearTurnsSpec)) linearTurnsCard

/-- THE SECOND FORM's CARD OF 'kerbsidelaw05.FracField'. -/
def fracFieldUptoCard : Claim7 := { stood := { row := fracFieldUptoRow, standIns := [], harness := (true, "165750f50fbe00393132188aa90e0e17bb84a845ab44f228b4327e06838454fa"), looks := true }, kinds := [], alts := [], laidByText := true, laidKinds := [.data, .data, .data, .sentinel, .sentinel], laidTests := true, laidLooks := .later }
def FracFieldUptoCardSaid : Prop := Claim7.holds Tryz.pinned (.plain (OpenSpec.upto fracFieldSpec)) fracFieldUptoCard

/-- THE SECOND FORM's CARD OF 'kerbsidelaw05.FracOrder'. -/
def fracOrderUptoCard : Claim7 := { stood := { row := fracOrderUptoRow, standIns := [], harness := (true, "165750f50fbe00393132188aa90e0e17bb84a845ab44f228b4327e06838454fa"), looks := true }, kinds := [], alts := [], laidByText := true, laidKinds := [.data, .data, .data, .sentinel, .sentinel], laidTests := true, laidLooks := .later }
def FracOrderUptoCardSaid : Prop := Claim7.holds Tryz.pinned (.plain (OpenSpec.upto fracOrderSpec)) fracOrderUptoCard

/-- THE SECOND FORM's CARD OF 'kerbsidelaw05.FracBack'. -/
def fracBackUptoCard : Claim7 := { stood := { row := fracBackUptoRow, standIns := [], harness := (true, "165750f50fbe00393132188aa90e0e17bb84a845ab44f228b4327e06838454fa"), looks := true }, kinds := [], alts := [], laidByText := true, laidKinds := [.data, .data, .data, .sentinel, .sentinel], laidTests := true, laidLooks := .later }
def FracBackUptoCardSaid : Prop := Claim7.holds Tryz.pinned (.plain (OpenSpec.upto fracBackSpec)) fracBackUptoCard

/-- THE SECOND FORM's CARD OF 'kerbsidelaw05.FracFloor'. -/
def fracFloorUptoCard : Claim7 := { stood := { row := fracFloorUptoRow, standIns := [], harness := (true, "165750f50fbe00393132188aa90e0e17bb84a845ab44f228b4327e06838454fa"), looks := true }, kinds := [], alts := [], laidByText := true, laidKinds := [.data, .data, .data, .sentinel, .sentinel], laidTests := true, laidLooks := .later }
def FracFloorUptoCardSaid : Prop := Claim7.holds Tryz.pinned (.plain (OpenSpec.upto fracFloorSpec)) fracFloorUptoCard

/-- THE SECOND FORM's CARD OF 'kerbsidelaw08.LinearAdds'. -/
def linearAddsUptoCard : Claim7 := { stood := { row := linearAddsUptoRow, standIns := [], harness := (true, "165750f50fbe00393132188aa90e0e17bb84a845ab44f228b4327e06838454fa"), looks := true }, kinds := [], alts := [], laidByText := true, laidKinds := [.data], laidTests := true, laidLooks := .later }
def LinearAddsUptoCardSaid : Prop := Claim7.holds Tryz.pinned (.plain (OpenSpec.upto linearAddsSpec)) linearAddsUptoCard

/-- THE SECOND FORM's CARD OF 'kerbsidelaw08.LinearRows'. -/
def linearRowsUptoCard : Claim7 := { stood := { row := linearRowsUptoRow, standIns := [], harness := (true, "165750f50fbe00393132188aa90e0e17bb84a845ab44f228b4327e06838454fa"), looks := true }, kinds := [], alts := [], laidByText := true, laidKinds := [.data], laidTests := true, laidLooks := .later }
def LinearRowsUptoCardSaid : Prop := Claim7.holds Tryz.pinned (.plain (OpenSpec.upto linearRowsSpec)) linearRowsUptoCard

/-- THE SECOND FORM's CARD OF 'kerbsidelaw08.LinearMixes'. -/
def linearMixesUptoCard : Claim7 := { stood := { row := linearMixesUptoRow, standIns := [], harness := (true, "165750f50fbe00393132188aa90e0e17bb84a845ab44f228b4327e06838454fa"), looks := true }, kinds := [], alts := [], laidByText := true, laidKinds := [.data], laidTests := true, laidLooks := .later }
def LinearMixesUptoCardSaid : Prop := Claim7.holds Tryz.pinned (.plain (OpenSpec.upto linearMixesSpec)) linearMixesUptoCard

/-- THE SECOND FORM's CARD OF 'kerbsidelaw08.LinearTurns'. -/
def linearTurnsUptoCard : Claim7 := { stood := { row := linearTurnsUptoRow, standIns := [], harness := (true, "165750f50fbe00393132188aa90e0e17bb84a845ab44f228b4327e06838454fa"), looks := true }, kinds := [], alts := [], laidByText := true, laidKinds := [.data], laidTests := true, laidLooks := .later }
def LinearTurnsUptoCardSaid : Prop := Claim7.holds Tryz.pinned (.plain (OpenSpec.upto linearTurnsSpec)) linearTurnsUptoCard
end Rows
end Go.Proofs.YtmkhoofeekollaaGreatDoor
