/-
  DERIVED. GIVEN WITH THE SEED: THE CARDS: each row of YtoocdokhljpokaaDoorRows.lean that lists a variable, with what it lists TIED to the program's text (the seventh form; the later family's looks); each row that meets fmt, with fmt's text TOLD by the authors' own Lean function (tested against real Go, not proved from fmt's source: count such statements apart). THE CARD IS WHAT COUNTS. Prove the row's statement (the work); the ties are given (YtoocdokhljpokaaDoorTie.lean); close each card by the builder's one call (the guide's Derived/Test/ToyasCard.lean, 'card_holds'). Laid BY PROGRAM, IN A SANDBOX (cutbox-door.mjs). By AI agents, Wed Nov 11 2026. No macro, syntax, notation, axiom, sorry.
-/
import Derived.Test.YtoocdokhljpokaaDoorRows
import GoSem.ClaimSeven
namespace Go.Proofs.YtoocdokhljpokaaDoor
namespace Rows

/-- THE TIED CARD OF 'kerbsidelaw04.BigGcd'. -/
def bigGcdCard : Claim7 := { stood := { row := bigGcdRow, standIns := [], harness := (true, "2bdf9f21cf111e16f3977c765c67acf8d01416064a3421c14180b15465b979e1"), looks := true }, kinds := [], alts := [], laidByText := true, laidKinds := [.data, .data, .data, .sentinel, .sentinel], laidTests := true, laidLooks := .later }
def BigGcdCardSaid : Prop := Claim7.holds Tryd.pinned (.plain (OpenSpec.ofChange bigGcdSpec)) bigGcdCard

/-- THE SECOND FORM's CARD OF 'kerbsidelaw04.BigGcd'. -/
def bigGcdUptoCard : Claim7 := { stood := { row := bigGcdUptoRow, standIns := [], harness := (true, "2bdf9f21cf111e16f3977c765c67acf8d01416064a3421c14180b15465b979e1"), looks := true }, kinds := [], alts := [], laidByText := true, laidKinds := [.data, .data, .data, .sentinel, .sentinel], laidTests := true, laidLooks := .later }
def BigGcdUptoCardSaid : Prop := Claim7.holds Tryd.pinned (.plain (OpenSpec.upto bigGcdSpec)) bigGcdUptoCard
end Rows
end Go.Proofs.YtoocdokhljpokaaDoor
