/-
  DERIVED. GIVEN WITH THE SEED: THE CARDS: each row of YtikfjmdeeknalaaGreatDoorRows.lean that lists a variable, with what it lists TIED to the program's text (the seventh form; the later family's looks); each row that meets fmt, with fmt's text TOLD by the authors' own Lean function (tested against real Go, not proved from fmt's source: count such statements apart). THE CARD IS WHAT COUNTS. Prove the row's statement (the work); the ties are given (YtikfjmdeeknalaaGreatDoorTie.lean); close each card by the builder's one call (the guide's Derived/Test/ToyasCard.lean, 'card_holds'). Laid BY PROGRAM, IN A SANDBOX (cutbox-door.mjs). By AI agents, Wed Nov 11 2026. No macro, syntax, notation, axiom, sorry.
-/
import Derived.Test.YtikfjmdeeknalaaGreatDoorRows
import GoSem.ClaimSeven
namespace Go.Proofs.YtikfjmdeeknalaaGreatDoor
namespace Rows

/-- THE TIED CARD OF 'kerbsidelaw04.BigTells'. -/
def bigTellsCard : Claim7 := { stood := { row := bigTellsRow, standIns := [], harness := (true, "c15352b687526986185633626d04362630f2577c40932e121a44584dd801e991"), looks := true }, kinds := [], alts := [], laidByText := true, laidKinds := [.data, .data, .data, .sentinel, .sentinel], laidTests := true, laidLooks := .later }
def BigTellsCardSaid : Prop := Claim7.holds Tryz.pinned (.plain (OpenSpec.ofChange bigTellsSpec)) bigTellsCard

/-- THE TIED CARD OF 'kerbsidelaw05.FracTells'. -/
def fracTellsCard : Claim7 := { stood := { row := fracTellsRow, standIns := [], harness := (true, "c15352b687526986185633626d04362630f2577c40932e121a44584dd801e991"), looks := true }, kinds := [], alts := [], laidByText := true, laidKinds := [.data, .data, .data, .sentinel, .sentinel], laidTests := true, laidLooks := .later }
def FracTellsCardSaid : Prop := Claim7.holds Tryz.pinned (.plain (OpenSpec.ofChange fracTellsSpec)) fracTellsCard

/-- THE TIED CARD OF 'kerbsidelaw08.LinearTells'. -/
def linearTellsCard : Claim7 := { stood := { row := linearTellsRow, standIns := [], harness := (true, "c15352b687526986185633626d04362630f2577c40932e121a44584dd801e991"), looks := true }, kinds := [], alts := [], laidByText := true, laidKinds := [.data], laidTests := true, laidLooks := .later }
def LinearTellsCardSaid : Prop := Claim7.holds Tryz.pinned (.plain (OpenSpec.ofChange linearTellsSpec)) linearTellsCard

/-- THE TIED CARD OF 'kerbsidelaw08.LinearTurns'. -/
def linearTurnsCard : Claim7 := { stood := { row := linearTurnsRow, standIns := [], harness := (true, "c15352b687526986185633626d04362630f2577c40932e121a44584dd801e991"), looks := true }, kinds := [], alts := [], laidByText := true, laidKinds := [.data], laidTests := true, laidLooks := .later }
def LinearTurnsCardSaid : Prop := Claim7.holds Tryz.pinned (.plain (OpenSpec.ofChange linearTurnsSpec)) linearTurnsCard

/-- THE TIED CARD OF 'kerbsidelaw09.DualTells'. -/
def dualTellsCard : Claim7 := { stood := { row := dualTellsRow, standIns := [], harness := (true, "c15352b687526986185633626d04362630f2577c40932e121a44584dd801e991"), looks := true }, kinds := [], alts := [], laidByText := true, laidKinds := [.data], laidTests := true, laidLooks := .later }
def DualTellsCardSaid : Prop := Claim7.holds Tryz.pinned (.plain (OpenSpec.ofChange dualTellsSpec)) dualTellsCard

/-- THE TIED CARD OF 'kerbsidelaw09.DualBounds'. -/
def dualBoundsCard : Claim7 := { stood := { row := dualBoundsRow, standIns := [], harness := (true, "c15352b687526986185633626d04362630f2577c40932e121a44584dd801e991"), looks := true }, kinds := [], alts := [], laidByText := true, laidKinds := [.data], laidTests := true, laidLooks := .later }
def DualBoundsCardSaid : Prop := Claim7.holds Tryz.pinned (.plain (OpenSpec.ofChange dualBoundsSpec)) dualBoundsCard

/-- THE TIED CARD OF 'kerbsidelaw09.DualAgrees'. -/
def dualAgreesCard : Claim7 := { stood := { row := dualAgreesRow, standIns := [], harness := (true, "c15352b687526986185633626d04362630f2577c40932e121a44584dd801e991"), looks := true }, kinds := [], alts := [], laidByText := true, laidKinds := [.data], laidTests := true, laidLooks := .later }
def DualAgreesCardSaid : Prop := Claim7.holds Tryz.pinned (.plain (OpenSpec.ofChange dualAgreesSpec)) dualAgreesCard

/-- THE TIED CARD OF 'kerbsidelaw09.DualSums'. -/
def dualSumsCard : Claim7 := { stood := { row := dualSumsRow, standIns := [], harness := (true, "c15352b687526986185633626d04362630f2577c40932e121a44584dd801e991"), looks := true }, kinds := [], alts := [], laidByText := true, laidKinds := [.data], laidTests := true, laidLooks := .later }
def DualSumsCardSaid : Prop := Claim7.holds Tryz.pinned (.plain (OpenSpec.ofChange dualSumsSpec)) dualSumsCard

/-- THE TIED CARD OF 'kerbsidelaw09.DualMore'. -/
def dualMoreCard : Claim7 := { stood := { row := dualMoreRow, standIns := [], harness := (true, "c15352b687526986185633626d04362630f2577c40932e121a44584dd801e991"), looks := true }, kinds := [], alts := [], laidByText := true, laidKinds := [.data], laidTests := true, laidLooks := .later }
def DualMoreCardSaid : Prop := Claim7.holds Tryz.pinned (.plain (OpenSpec.ofChange dualMoreSpec)) dualMoreCard

/-- THE TIED CARD OF 'kerbsidelaw09.DualRay'. -/
def dualRayCard : Claim7 := { stood := { row := dualRayRow, standIns := [], harness := (true, "c15352b687526986185633626d04362630f2577c40932e121a44584dd801e991"), looks := true }, kinds := [], alts := [], laidByText := true, laidKinds := [.data], laidTests := true, laidLooks := .later }
def DualRayCardSaid : Prop := Claim7.holds Tryz.pinned (.plain (OpenSpec.ofChange dualRaySpec)) dualRayCard

/-- THE SECOND FORM's CARD OF 'kerbsidelaw04.BigTells'. -/
def bigTellsUptoCard : Claim7 := { stood := { row := bigTellsUptoRow, standIns := [], harness := (true, "c15352b687526986185633626d04362630f2577c40932e121a44584dd801e991"), looks := true }, kinds := [], alts := [], laidByText := true, laidKinds := [.data, .data, .data, .sentinel, .sentinel], laidTests := true, laidLooks := .later }
def BigTellsUptoCardSaid : Prop := Claim7.holds Tryz.pinned (.plain (OpenSpec.upto bigTellsSpec)) bigTellsUptoCard

/-- THE SECOND FORM's CARD OF 'kerbsidelaw05.FracTells'. -/
def fracTellsUptoCard : Claim7 := { stood := { row := fracTellsUptoRow, standIns := [], harness := (true, "c15352b687526986185633626d04362630f2577c40932e121a44584dd801e991"), looks := true }, kinds := [], alts := [], laidByText := true, laidKinds := [.data, .data, .data, .sentinel, .sentinel], laidTests := true, laidLooks := .later }
def FracTellsUptoCardSaid : Prop := Claim7.holds Tryz.pinned (.plain (OpenSpec.upto fracTellsSpec)) fracTellsUptoCard

/-- THE SECOND FORM's CARD OF 'kerbsidelaw08.LinearTells'. -/
def linearTellsUptoCard : Claim7 := { stood := { row := linearTellsUptoRow, standIns := [], harness := (true, "c15352b687526986185633626d04362630f2577c40932e121a44584dd801e991"), looks := true }, kinds := [], alts := [], laidByText := true, laidKinds := [.data], laidTests := true, laidLooks := .later }
def LinearTellsUptoCardSaid : Prop := Claim7.holds Tryz.pinned (.plain (OpenSpec.upto linearTellsSpec)) linearTellsUptoCard

/-- THE SECOND FORM's CARD OF 'kerbsidelaw08.LinearTurns'. -/
def linearTurnsUptoCard : Claim7 := { stood := { row := linearTurnsUptoRow, standIns := [], harness := (true, "c15352b687526986185633626d04362630f2577c40932e121a44584dd801e991"), looks := true }, kinds := [], alts := [], laidByText := true, laidKinds := [.data], laidTests := true, laidLooks := .later }
def LinearTurnsUptoCardSaid : Prop := Claim7.holds Tryz.pinned (.plain (OpenSpec.upto linearTurnsSpec)) linearTurnsUptoCard

/-- THE SECOND FORM's CARD OF 'kerbsidelaw09.DualTells'. -/
def dualTellsUptoCard : Claim7 := { stood := { row := dualTellsUptoRow, standIns := [], harness := (true, "c15352b687526986185633626d04362630f2577c40932e121a44584dd801e991"), looks := true }, kinds := [], alts := [], laidByText := true, laidKinds := [.data], laidTests := true, laidLooks := .later }
def DualTellsUptoCardSaid : Prop := Claim7.holds Tryz.pinned (.plain (OpenSpec.upto dualTellsSpec)) dualTellsUptoCard

/-- THE SECOND FORM's CARD OF 'kerbsidelaw09.DualBounds'. -/
def dualBoundsUptoCard : Claim7 := { stood := { row := dualBoundsUptoRow, standIns := [], harness := (true, "c15352b687526986185633626d04362630f2577c40932e121a44584dd801e991"), looks := true }, kinds := [], alts := [], laidByText := true, laidKinds := [.data], laidTests := true, laidLooks := .later }
def DualBoundsUptoCardSaid : Prop := Claim7.holds Tryz.pinned (.plain (OpenSpec.upto dualBoundsSpec)) dualBoundsUptoCard

/-- THE SECOND FORM's CARD OF 'kerbsidelaw09.DualAgrees'. -/
def dualAgreesUptoCard : Claim7 := { stood := { row := dualAgreesUptoRow, standIns := [], harness := (true, "c15352b687526986185633626d04362630f2577c40932e121a44584dd801e991"), looks := true }, kinds := [], alts := [], laidByText := true, laidKinds := [.data], laidTests := true, laidLooks := .later }
def DualAgreesUptoCardSaid : Prop := Claim7.holds Tryz.pinned (.plain (OpenSpec.upto dualAgreesSpec)) dualAgreesUptoCard

/-- THE SECOND FORM's CARD OF 'kerbsidelaw09.DualSums'. -/
def dualSumsUptoCard : Claim7 := { stood := { row := dualSumsUptoRow, standIns := [], harness := (true, "c15352b687526986185633626d04362630f2577c40932e121a44584dd801e991"), looks := true }, kinds := [], alts := [], laidByText := true, laidKinds := [.data], laidTests := true, laidLooks := .later }
def DualSumsUptoCardSaid : Prop := Claim7.holds Tryz.pinned (.plain (OpenSpec.upto dualSumsSpec)) dualSumsUptoCard

/-- THE SECOND FORM's CARD OF 'kerbsidelaw09.DualMore'. -/
def dualMoreUptoCard : Claim7 := { stood := { row := dualMoreUptoRow, standIns := [], harness := (true, "c15352b687526986185633626d04362630f2577c40932e121a44584dd801e991"), looks := true }, kinds := [], alts := [], laidByText := true, laidKinds := [.data], laidTests := true, laidLooks := .later }
def DualMoreUptoCardSaid : Prop := Claim7.holds Tryz.pinned (.plain (OpenSpec.upto dualMoreSpec)) dualMoreUptoCard

/-- THE SECOND FORM's CARD OF 'kerbsidelaw09.DualRay'. -/
def dualRayUptoCard : Claim7 := { stood := { row := dualRayUptoRow, standIns := [], harness := (true, "c15352b687526986185633626d04362630f2577c40932e121a44584dd801e991"), looks := true }, kinds := [], alts := [], laidByText := true, laidKinds := [.data], laidTests := true, laidLooks := .later }
def DualRayUptoCardSaid : Prop := Claim7.holds Tryz.pinned (.plain (OpenSpec.upto dualRaySpec)) dualRayUptoCard
end Rows
end Go.Proofs.YtikfjmdeeknalaaGreatDoor
