/-
  DERIVED. GIVEN WITH THE SEED: THE CARDS: each row of YtehofikfbcallaaGreatDoorRows.lean that lists a variable, with what it lists TIED to the program's text (the seventh form; the later family's looks); each row that meets fmt, with fmt's text TOLD by the authors' own Lean function (tested against real Go, not proved from fmt's source: count such statements apart). THE CARD IS WHAT COUNTS. Prove the row's statement (the work); the ties are given (YtehofikfbcallaaGreatDoorTie.lean); close each card by the builder's one call (the guide's Derived/Test/ToyasCard.lean, 'card_holds'). Laid BY PROGRAM, IN A SANDBOX (cutbox-door.mjs). By AI agents, Wed Nov 11 2026. No macro, syntax, notation, axiom, sorry.
-/
import Derived.Test.YtehofikfbcallaaGreatDoorRows
import GoSem.ClaimSeven
namespace Go.Proofs.YtehofikfbcallaaGreatDoor
namespace Rows

/-- THE TIED CARD OF 'kerbsidelaw08.LinearAdds'. -/
def linearAddsCard : Claim7 := { stood := { row := linearAddsRow, standIns := [], harness := (true, "a66f2a88e1989b30bc65c748485167e525189320d3d04d37c321df9f9114b533"), looks := false }, kinds := [], alts := [], laidByText := true, laidKinds := [.data], laidTests := true, laidLooks := .later }
def LinearAddsCardSaid : Prop := Claim7.holds Tryz.pinned (.plain (OpenSpec.ofChange linearAddsSpec)) linearAddsCard

/-- THE TIED CARD OF 'kerbsidelaw08.LinearRows'. -/
def linearRowsCard : Claim7 := { stood := { row := linearRowsRow, standIns := [], harness := (true, "a66f2a88e1989b30bc65c748485167e525189320d3d04d37c321df9f9114b533"), looks := false }, kinds := [], alts := [], laidByText := true, laidKinds := [.data], laidTests := true, laidLooks := .later }
def LinearRowsCardSaid : Prop := Claim7.holds Tryz.pinned (.plain (OpenSpec.ofChange linearRowsSpec)) linearRowsCard

/-- THE TIED CARD OF 'kerbsidelaw08.LinearMixes'. -/
def linearMixesCard : Claim7 := { stood := { row := linearMixesRow, standIns := [], harness := (true, "a66f2a88e1989b30bc65c748485167e525189320d3d04d37c321df9f9114b533"), looks := false }, kinds := [], alts := [], laidByText := true, laidKinds := [.data], laidTests := true, laidLooks := .later }
def LinearMixesCardSaid : Prop := Claim7.holds Tryz.pinned (.plain (OpenSpec.ofChange linearMixesSpec)) linearMixesCard

/-- THE TIED CARD OF 'kerbsidelaw08.LinearTurns'. -/
def linearTurnsCard : Claim7 := { stood := { row := linearTurnsRow, standIns := [], harness := (true, "a66f2a88e1989b30bc65c748485167e525189320d3d04d37c321df9f9114b533"), looks := false }, kinds := [], alts := [], laidByText := true, laidKinds := [.data], laidTests := true, laidLooks := .later }
def LinearTurnsCardSaid : Prop := Claim7.holds Tryz.pinned (.plain (OpenSpec.ofChange linearTurnsSpec)) linearTurnsCard

/-- THE SECOND FORM's CARD OF 'kerbsidelaw08.LinearAdds'. -/
def linearAddsUptoCard : Claim7 := { stood := { row := linearAddsUptoRow, standIns := [], harness := (true, "a66f2a88e1989b30bc65c748485167e525189320d3d04d37c321df9f9114b533"), looks := false }, kinds := [], alts := [], laidByText := true, laidKinds := [.data], laidTests := true, laidLooks := .later }
def LinearAddsUptoCardSaid : Prop := Claim7.holds Tryz.pinned (.plain (OpenSpec.upto linearAddsSpec)) linearAddsUptoCard

/-- THE SECOND FORM's CARD OF 'kerbsidelaw08.LinearRows'. -/
def linearRowsUptoCard : Claim7 := { stood := { row := linearRowsUptoRow, standIns := [], harness := (true, "a66f2a88e1989b30bc65c748485167e525189320d3d04d37c321df9f9114b533"), looks := false }, kinds := [], alts := [], laidByText := true, laidKinds := [.data], laidTests := true, laidLooks := .later }
def LinearRowsUptoCardSaid : Prop := Claim7.holds Tryz.pinned (.plain (OpenSpec.upto linearRowsSpec)) linearRowsUptoCard

/-- THE SECOND FORM's CARD OF 'kerbsidelaw08.LinearMixes'. -/
def linearMixesUptoCard : Claim7 := { stood := { row := linearMixesUptoRow, standIns := [], harness := (true, "a66f2a88e1989b30bc65c748485167e525189320d3d04d37c321df9f9114b533"), looks := false }, kinds := [], alts := [], laidByText := true, laidKinds := [.data], laidTests := true, laidLooks := .later }
def LinearMixesUptoCardSaid : Prop := Claim7.holds Tryz.pinned (.plain (OpenSpec.upto linearMixesSpec)) linearMixesUptoCard

/-- THE SECOND FORM's CARD OF 'kerbsidelaw08.LinearTurns'. -/
def linearTurnsUptoCard : Claim7 := { stood := { row := linearTurnsUptoRow, standIns := [], harness := (true, "a66f2a88e1989b30bc65c748485167e525189320d3d04d37c321df9f9114b533"), looks := false }, kinds := [], alts := [], laidByText := true, laidKinds := [.data], laidTests := true, laidLooks := .later }
def LinearTurnsUptoCardSaid : Prop := Claim7.holds Tryz.pinned (.plain (OpenSpec.upto linearTurnsSpec)) linearTurnsUptoCard
end Rows
end Go.Proofs.YtehofikfbcallaaGreatDoor
