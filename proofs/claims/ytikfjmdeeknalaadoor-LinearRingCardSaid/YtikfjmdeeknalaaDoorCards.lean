/-
  DERIVED. GIVEN WITH THE SEED: THE CARDS: each row of YtikfjmdeeknalaaDoorRows.lean that lists a variable, with what it lists TIED to the program's text (the seventh form; the later family's looks); each row that meets fmt, with fmt's text TOLD by the authors' own Lean function (tested against real Go, not proved from fmt's source: count such statements apart). THE CARD IS WHAT COUNTS. Prove the row's statement (the work); the ties are given (YtikfjmdeeknalaaDoorTie.lean); close each card by the builder's one call (the guide's Derived/Test/ToyasCard.lean, 'card_holds'). Laid BY PROGRAM, IN A SANDBOX (cutbox-door.mjs). By AI agents, Wed Nov 11 2026. No macro, syntax, notation, axiom, sorry.
-/
import Derived.Test.YtikfjmdeeknalaaDoorRows
import GoSem.ClaimSeven
namespace Go.Proofs.YtikfjmdeeknalaaDoor
namespace Rows

/-- THE TIED CARD OF 'kerbsidelaw08.LinearRing'. -/
def linearRingCard : Claim7 := { stood := { row := linearRingRow, standIns := [], harness := (true, "dd5d1e3943d27475f70ce8d1c24eccc53ef1195f37dc3842e626b62d1de491bc"), looks := false }, kinds := [], alts := [], laidByText := true, laidKinds := [.data], laidTests := true, laidLooks := .later }
def LinearRingCardSaid : Prop := Claim7.holds Tryd.pinned (.plain (OpenSpec.ofChange linearRingSpec)) linearRingCard

/-- THE SECOND FORM's CARD OF 'kerbsidelaw08.LinearRing'. -/
def linearRingUptoCard : Claim7 := { stood := { row := linearRingUptoRow, standIns := [], harness := (true, "dd5d1e3943d27475f70ce8d1c24eccc53ef1195f37dc3842e626b62d1de491bc"), looks := false }, kinds := [], alts := [], laidByText := true, laidKinds := [.data], laidTests := true, laidLooks := .later }
def LinearRingUptoCardSaid : Prop := Claim7.holds Tryd.pinned (.plain (OpenSpec.upto linearRingSpec)) linearRingUptoCard
end Rows
end Go.Proofs.YtikfjmdeeknalaaDoor
