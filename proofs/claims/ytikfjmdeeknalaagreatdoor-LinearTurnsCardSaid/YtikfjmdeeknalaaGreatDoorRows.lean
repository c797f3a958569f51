/-
  NARROWER THAN 'FOR EVERY INPUT', by the rows' own cells (each row's printed sentence says how): BigTells: laid · FracTells: laid · LinearTells: laid · LinearTurns: laid · DualTells: laid · DualBounds: laid · DualAgrees: laid · DualSums: laid · DualMore: laid · DualRay: laid.
  DERIVED. THE GIVEN ROWS OF THIS SEAT. 10 by the template 'for every input the law returns true; each argument reads behind the call as it read before'; 0 by the template 'total and deterministic' (their statements: YtikfjmdeeknalaaGreatDoorTotals.lean).
  GIVEN WITH THE SEED: the statements are not yours to turn. If you find one false, say at which input.
  Laid BY PROGRAM, IN A SANDBOX (cutbox-rows.mjs): the forced cells as the released guide's own fill.sh prints them over the translation 96dd3fbac6b47ced… (all of the seat's roots in one cut). By AI agents, Wed Nov 11 2026. No macro, syntax, notation, axiom, sorry.
-/
import Derived.Test.YtikfjmdeeknalaaGreatDoorChecked
import GoSem.Claim
import GoSem.ClaimJoined
import GoSem.ClaimMapViews
import Derived.JoinedTies
import Derived.KernelRfl
namespace Go.Proofs.YtikfjmdeeknalaaGreatDoor
/- THE CELL 'sum', in the pinned program and in every row, IS THE sha256 OF THE DUMP (.gsa) THAT YtikfjmdeeknalaaGreatDoorProg.lean LOADS. Nothing in Lean hashes anything: it is a label: what it is worth is what the hold of that sum in a sandbox is worth. -/
noncomputable def Tryz.pinned : Pinned := { name := "ytikfjmdeeknalaagreatdoor", sum := "96dd3fbac6b47ced85cb32eac26105684bd68cfdcdbde3d413ecaee71ea96e51", checked := Tryz.checked }
namespace Rows
def none {H : Type} : Left H := { results := [], args := [] }

/- WHAT THE LISTED PACKAGE-LEVEL VARIABLES READ AS WHEN THE CALL BEGINS. Each datum BY PROGRAM (the guide's laid-datum.mjs) off the statement by which the dump's own 'gosem.cut.vars' lays the variable. In a bare row this is a premise. The card (YtikfjmdeeknalaaGreatDoorCards.lean) ties it to the program's text. -/
def laid_math_bits_deBruijn32tab {H : Type} : DataW H := .agg [.lit (.int .u8 0), .lit (.int .u8 1), .lit (.int .u8 28), .lit (.int .u8 2), .lit (.int .u8 29), .lit (.int .u8 14), .lit (.int .u8 24), .lit (.int .u8 3), .lit (.int .u8 30), .lit (.int .u8 22), .lit (.int .u8 20), .lit (.int .u8 15), .lit (.int .u8 25), .lit (.int .u8 17), .lit (.int .u8 4), .lit (.int .u8 8), .lit (.int .u8 31), .lit (.int .u8 27), .lit (.int .u8 13), .lit (.int .u8 23), .lit (.int .u8 21), .lit (.int .u8 19), .lit (.int .u8 16), .lit (.int .u8 7), .lit (.int .u8 26), .lit (.int .u8 12), .lit (.int .u8 18), .lit (.int .u8 6), .lit (.int .u8 11), .lit (.int .u8 5), .lit (.int .u8 10), .lit (.int .u8 9)]
def laid_math_bits_deBruijn64tab {H : Type} : DataW H := .agg [.lit (.int .u8 0), .lit (.int .u8 1), .lit (.int .u8 56), .lit (.int .u8 2), .lit (.int .u8 57), .lit (.int .u8 49), .lit (.int .u8 28), .lit (.int .u8 3), .lit (.int .u8 61), .lit (.int .u8 58), .lit (.int .u8 42), .lit (.int .u8 50), .lit (.int .u8 38), .lit (.int .u8 29), .lit (.int .u8 17), .lit (.int .u8 4), .lit (.int .u8 62), .lit (.int .u8 47), .lit (.int .u8 59), .lit (.int .u8 36), .lit (.int .u8 45), .lit (.int .u8 43), .lit (.int .u8 51), .lit (.int .u8 22), .lit (.int .u8 53), .lit (.int .u8 39), .lit (.int .u8 33), .lit (.int .u8 30), .lit (.int .u8 24), .lit (.int .u8 18), .lit (.int .u8 12), .lit (.int .u8 5), .lit (.int .u8 63), .lit (.int .u8 55), .lit (.int .u8 48), .lit (.int .u8 27), .lit (.int .u8 60), .lit (.int .u8 41), .lit (.int .u8 37), .lit (.int .u8 16), .lit (.int .u8 46), .lit (.int .u8 35), .lit (.int .u8 44), .lit (.int .u8 21), .lit (.int .u8 52), .lit (.int .u8 32), .lit (.int .u8 23), .lit (.int .u8 11), .lit (.int .u8 54), .lit (.int .u8 26), .lit (.int .u8 40), .lit (.int .u8 15), .lit (.int .u8 34), .lit (.int .u8 20), .lit (.int .u8 31), .lit (.int .u8 10), .lit (.int .u8 25), .lit (.int .u8 14), .lit (.int .u8 19), .lit (.int .u8 9), .lit (.int .u8 13), .lit (.int .u8 8), .lit (.int .u8 7), .lit (.int .u8 6)]
def laid_internal_strconv_uint64pow10 {H : Type} : DataW H := .agg [.lit (.int .u64 1), .lit (.int .u64 10), .lit (.int .u64 100), .lit (.int .u64 1000), .lit (.int .u64 10000), .lit (.int .u64 100000), .lit (.int .u64 1000000), .lit (.int .u64 10000000), .lit (.int .u64 100000000), .lit (.int .u64 1000000000), .lit (.int .u64 10000000000), .lit (.int .u64 100000000000), .lit (.int .u64 1000000000000), .lit (.int .u64 10000000000000), .lit (.int .u64 100000000000000), .lit (.int .u64 1000000000000000), .lit (.int .u64 10000000000000000), .lit (.int .u64 100000000000000000), .lit (.int .u64 1000000000000000000), .lit (.int .u64 10000000000000000000)]
def laid_strconv_ErrRange {H : Type} : DataW H := .iface "*errors.errorString" (.ptr (.agg [.lit (.string [118, 97, 108, 117, 101, 32, 111, 117, 116, 32, 111, 102, 32, 114, 97, 110, 103, 101])]))
def laid_strconv_ErrSyntax {H : Type} : DataW H := .iface "*errors.errorString" (.ptr (.agg [.lit (.string [105, 110, 118, 97, 108, 105, 100, 32, 115, 121, 110, 116, 97, 120])]))

/-- 'kerbsidelaw04.BigTells': WHATEVER THE INPUT: true; the input reads as it did. -/
def bigTellsSpec : ChangeSpec := { name := "bigTells", fn := fun _ => fun
  | [d1, d2, d3, d4] => { results := [.lit (.bool true)], args := [d1, d2, d3, d4] }
  | _ => none }
def bigTellsRow : OpenClaim := { program := "ytikfjmdeeknalaagreatdoor", sum := "96dd3fbac6b47ced85cb32eac26105684bd68cfdcdbde3d413ecaee71ea96e51", func := "kerbside/kerbsidelaw04.BigTells", spec := "bigTells", unfollowed := true, recurses := true, named := ["math/bits.deBruijn64tab", "strconv.ErrSyntax", "strconv.ErrRange", "internal/strconv.uint64pow10", "math/bits.deBruijn32tab"], apart := false, laid := [("math/bits.deBruijn32tab", laid_math_bits_deBruijn32tab), ("math/bits.deBruijn64tab", laid_math_bits_deBruijn64tab), ("internal/strconv.uint64pow10", laid_internal_strconv_uint64pow10), ("strconv.ErrRange", laid_strconv_ErrRange), ("strconv.ErrSyntax", laid_strconv_ErrSyntax)] }
def BigTellsSaid : Prop := bigTellsRow.holds Tryz.pinned (OpenSpec.ofChange bigTellsSpec)

/-- ITS FALSE NEIGHBOUR: 'it returns false'. Refute it at one input. -/
def bigTellsWrong : ChangeSpec := { name := "bigTells", fn := fun _ => fun
  | [d1, d2, d3, d4] => { results := [.lit (.bool false)], args := [d1, d2, d3, d4] }
  | _ => none }
def BigTellsWrongFalsely : Prop := bigTellsRow.holds Tryz.pinned (OpenSpec.ofChange bigTellsWrong)

/-- 'kerbsidelaw05.FracTells': WHATEVER THE INPUT: true; the input reads as it did. -/
def fracTellsSpec : ChangeSpec := { name := "fracTells", fn := fun _ => fun
  | [d1, d2, d3, d4, d5] => { results := [.lit (.bool true)], args := [d1, d2, d3, d4, d5] }
  | _ => none }
def fracTellsRow : OpenClaim := { program := "ytikfjmdeeknalaagreatdoor", sum := "96dd3fbac6b47ced85cb32eac26105684bd68cfdcdbde3d413ecaee71ea96e51", func := "kerbside/kerbsidelaw05.FracTells", spec := "fracTells", inPlace := ["internal/bytealg.IndexByteString", "internal/bytealg.IndexString"], unfollowed := true, recurses := true, named := ["math/bits.deBruijn64tab", "internal/bytealg.MaxLen", "strconv.ErrSyntax", "strconv.ErrRange", "internal/strconv.uint64pow10", "math/bits.deBruijn32tab"], apart := false, laid := [("math/bits.deBruijn32tab", laid_math_bits_deBruijn32tab), ("math/bits.deBruijn64tab", laid_math_bits_deBruijn64tab), ("internal/strconv.uint64pow10", laid_internal_strconv_uint64pow10), ("strconv.ErrRange", laid_strconv_ErrRange), ("strconv.ErrSyntax", laid_strconv_ErrSyntax)] }
def FracTellsSaid : Prop := fracTellsRow.holds Tryz.pinned (OpenSpec.ofChange fracTellsSpec)

/-- ITS FALSE NEIGHBOUR: 'it returns false'. Refute it at one input. -/
def fracTellsWrong : ChangeSpec := { name := "fracTells", fn := fun _ => fun
  | [d1, d2, d3, d4, d5] => { results := [.lit (.bool false)], args := [d1, d2, d3, d4, d5] }
  | _ => none }
def FracTellsWrongFalsely : Prop := fracTellsRow.holds Tryz.pinned (OpenSpec.ofChange fracTellsWrong)

/-- 'kerbsidelaw08.LinearTells': WHATEVER THE INPUT: true; the input reads as it did. -/
def linearTellsSpec : ChangeSpec := { name := "linearTells", fn := fun _ => fun
  | [d1, d2, d3, d4, d5, d6] => { results := [.lit (.bool true)], args := [d1, d2, d3, d4, d5, d6] }
  | _ => none }
def linearTellsRow : OpenClaim := { program := "ytikfjmdeeknalaagreatdoor", sum := "96dd3fbac6b47ced85cb32eac26105684bd68cfdcdbde3d413ecaee71ea96e51", func := "kerbside/kerbsidelaw08.LinearTells", spec := "linearTells", unfollowed := true, recurses := true, named := ["math/bits.deBruijn64tab"], apart := false, laid := [("math/bits.deBruijn64tab", laid_math_bits_deBruijn64tab)] }
def LinearTellsSaid : Prop := linearTellsRow.holds Tryz.pinned (OpenSpec.ofChange linearTellsSpec)

/-- ITS FALSE NEIGHBOUR: 'it returns false'. Refute it at one input. -/
def linearTellsWrong : ChangeSpec := { name := "linearTells", fn := fun _ => fun
  | [d1, d2, d3, d4, d5, d6] => { results := [.lit (.bool false)], args := [d1, d2, d3, d4, d5, d6] }
  | _ => none }
def LinearTellsWrongFalsely : Prop := linearTellsRow.holds Tryz.pinned (OpenSpec.ofChange linearTellsWrong)

/-- 'kerbsidelaw08.LinearTurns': WHATEVER THE INPUT: true; the input reads as it did. -/
def linearTurnsSpec : ChangeSpec := { name := "linearTurns", fn := fun _ => fun
  | [d1, d2, d3] => { results := [.lit (.bool true)], args := [d1, d2, d3] }
  | _ => none }
def linearTurnsRow : OpenClaim := { program := "ytikfjmdeeknalaagreatdoor", sum := "96dd3fbac6b47ced85cb32eac26105684bd68cfdcdbde3d413ecaee71ea96e51", func := "kerbside/kerbsidelaw08.LinearTurns", spec := "linearTurns", unfollowed := true, recurses := true, named := ["math/bits.deBruijn64tab"], apart := false, laid := [("math/bits.deBruijn64tab", laid_math_bits_deBruijn64tab)] }
def LinearTurnsSaid : Prop := linearTurnsRow.holds Tryz.pinned (OpenSpec.ofChange linearTurnsSpec)

/-- ITS FALSE NEIGHBOUR: 'it returns false'. Refute it at one input. -/
def linearTurnsWrong : ChangeSpec := { name := "linearTurns", fn := fun _ => fun
  | [d1, d2, d3] => { results := [.lit (.bool false)], args := [d1, d2, d3] }
  | _ => none }
def LinearTurnsWrongFalsely : Prop := linearTurnsRow.holds Tryz.pinned (OpenSpec.ofChange linearTurnsWrong)

/-- 'kerbsidelaw09.DualTells': WHATEVER THE INPUT: true; the input reads as it did. -/
def dualTellsSpec : ChangeSpec := { name := "dualTells", fn := fun _ => fun
  | [d1, d2, d3, d4, d5] => { results := [.lit (.bool true)], args := [d1, d2, d3, d4, d5] }
  | _ => none }
def dualTellsRow : OpenClaim := { program := "ytikfjmdeeknalaagreatdoor", sum := "96dd3fbac6b47ced85cb32eac26105684bd68cfdcdbde3d413ecaee71ea96e51", func := "kerbside/kerbsidelaw09.DualTells", spec := "dualTells", unfollowed := true, recurses := true, named := ["math/bits.deBruijn64tab"], apart := false, laid := [("math/bits.deBruijn64tab", laid_math_bits_deBruijn64tab)] }
def DualTellsSaid : Prop := dualTellsRow.holds Tryz.pinned (OpenSpec.ofChange dualTellsSpec)

/-- ITS FALSE NEIGHBOUR: 'it returns false'. Refute it at one input. -/
def dualTellsWrong : ChangeSpec := { name := "dualTells", fn := fun _ => fun
  | [d1, d2, d3, d4, d5] => { results := [.lit (.bool false)], args := [d1, d2, d3, d4, d5] }
  | _ => none }
def DualTellsWrongFalsely : Prop := dualTellsRow.holds Tryz.pinned (OpenSpec.ofChange dualTellsWrong)

/-- 'kerbsidelaw09.DualBounds': WHATEVER THE INPUT: true; the input reads as it did. -/
def dualBoundsSpec : ChangeSpec := { name := "dualBounds", fn := fun _ => fun
  | [d1, d2, d3, d4] => { results := [.lit (.bool true)], args := [d1, d2, d3, d4] }
  | _ => none }
def dualBoundsRow : OpenClaim := { program := "ytikfjmdeeknalaagreatdoor", sum := "96dd3fbac6b47ced85cb32eac26105684bd68cfdcdbde3d413ecaee71ea96e51", func := "kerbside/kerbsidelaw09.DualBounds", spec := "dualBounds", unfollowed := true, recurses := true, named := ["math/bits.deBruijn64tab"], apart := false, laid := [("math/bits.deBruijn64tab", laid_math_bits_deBruijn64tab)] }
def DualBoundsSaid : Prop := dualBoundsRow.holds Tryz.pinned (OpenSpec.ofChange dualBoundsSpec)

/-- ITS FALSE NEIGHBOUR: 'it returns false'. Refute it at one input. -/
def dualBoundsWrong : ChangeSpec := { name := "dualBounds", fn := fun _ => fun
  | [d1, d2, d3, d4] => { results := [.lit (.bool false)], args := [d1, d2, d3, d4] }
  | _ => none }
def DualBoundsWrongFalsely : Prop := dualBoundsRow.holds Tryz.pinned (OpenSpec.ofChange dualBoundsWrong)

/-- 'kerbsidelaw09.DualAgrees': WHATEVER THE INPUT: true; the input reads as it did. -/
def dualAgreesSpec : ChangeSpec := { name := "dualAgrees", fn := fun _ => fun
  | [d1, d2, d3, d4, d5] => { results := [.lit (.bool true)], args := [d1, d2, d3, d4, d5] }
  | _ => none }
def dualAgreesRow : OpenClaim := { program := "ytikfjmdeeknalaagreatdoor", sum := "96dd3fbac6b47ced85cb32eac26105684bd68cfdcdbde3d413ecaee71ea96e51", func := "kerbside/kerbsidelaw09.DualAgrees", spec := "dualAgrees", unfollowed := true, recurses := true, named := ["math/bits.deBruijn64tab"], apart := false, laid := [("math/bits.deBruijn64tab", laid_math_bits_deBruijn64tab)] }
def DualAgreesSaid : Prop := dualAgreesRow.holds Tryz.pinned (OpenSpec.ofChange dualAgreesSpec)

/-- ITS FALSE NEIGHBOUR: 'it returns false'. Refute it at one input. -/
def dualAgreesWrong : ChangeSpec := { name := "dualAgrees", fn := fun _ => fun
  | [d1, d2, d3, d4, d5] => { results := [.lit (.bool false)], args := [d1, d2, d3, d4, d5] }
  | _ => none }
def DualAgreesWrongFalsely : Prop := dualAgreesRow.holds Tryz.pinned (OpenSpec.ofChange dualAgreesWrong)

/-- 'kerbsidelaw09.DualSums': WHATEVER THE INPUT: true; the input reads as it did. -/
def dualSumsSpec : ChangeSpec := { name := "dualSums", fn := fun _ => fun
  | [d1, d2, d3, d4, d5, d6] => { results := [.lit (.bool true)], args := [d1, d2, d3, d4, d5, d6] }
  | _ => none }
def dualSumsRow : OpenClaim := { program := "ytikfjmdeeknalaagreatdoor", sum := "96dd3fbac6b47ced85cb32eac26105684bd68cfdcdbde3d413ecaee71ea96e51", func := "kerbside/kerbsidelaw09.DualSums", spec := "dualSums", unfollowed := true, recurses := true, named := ["math/bits.deBruijn64tab"], apart := false, laid := [("math/bits.deBruijn64tab", laid_math_bits_deBruijn64tab)] }
def DualSumsSaid : Prop := dualSumsRow.holds Tryz.pinned (OpenSpec.ofChange dualSumsSpec)

/-- ITS FALSE NEIGHBOUR: 'it returns false'. Refute it at one input. -/
def dualSumsWrong : ChangeSpec := { name := "dualSums", fn := fun _ => fun
  | [d1, d2, d3, d4, d5, d6] => { results := [.lit (.bool false)], args := [d1, d2, d3, d4, d5, d6] }
  | _ => none }
def DualSumsWrongFalsely : Prop := dualSumsRow.holds Tryz.pinned (OpenSpec.ofChange dualSumsWrong)

/-- 'kerbsidelaw09.DualMore': WHATEVER THE INPUT: true; the input reads as it did. -/
def dualMoreSpec : ChangeSpec := { name := "dualMore", fn := fun _ => fun
  | [d1, d2, d3, d4, d5] => { results := [.lit (.bool true)], args := [d1, d2, d3, d4, d5] }
  | _ => none }
def dualMoreRow : OpenClaim := { program := "ytikfjmdeeknalaagreatdoor", sum := "96dd3fbac6b47ced85cb32eac26105684bd68cfdcdbde3d413ecaee71ea96e51", func := "kerbside/kerbsidelaw09.DualMore", spec := "dualMore", unfollowed := true, recurses := true, named := ["math/bits.deBruijn64tab"], apart := false, laid := [("math/bits.deBruijn64tab", laid_math_bits_deBruijn64tab)] }
def DualMoreSaid : Prop := dualMoreRow.holds Tryz.pinned (OpenSpec.ofChange dualMoreSpec)

/-- ITS FALSE NEIGHBOUR: 'it returns false'. Refute it at one input. -/
def dualMoreWrong : ChangeSpec := { name := "dualMore", fn := fun _ => fun
  | [d1, d2, d3, d4, d5] => { results := [.lit (.bool false)], args := [d1, d2, d3, d4, d5] }
  | _ => none }
def DualMoreWrongFalsely : Prop := dualMoreRow.holds Tryz.pinned (OpenSpec.ofChange dualMoreWrong)

/-- 'kerbsidelaw09.DualRay': WHATEVER THE INPUT: true; the input reads as it did. -/
def dualRaySpec : ChangeSpec := { name := "dualRay", fn := fun _ => fun
  | [d1, d2, d3, d4, d5, d6] => { results := [.lit (.bool true)], args := [d1, d2, d3, d4, d5, d6] }
  | _ => none }
def dualRayRow : OpenClaim := { program := "ytikfjmdeeknalaagreatdoor", sum := "96dd3fbac6b47ced85cb32eac26105684bd68cfdcdbde3d413ecaee71ea96e51", func := "kerbside/kerbsidelaw09.DualRay", spec := "dualRay", unfollowed := true, recurses := true, named := ["math/bits.deBruijn64tab"], apart := false, laid := [("math/bits.deBruijn64tab", laid_math_bits_deBruijn64tab)] }
def DualRaySaid : Prop := dualRayRow.holds Tryz.pinned (OpenSpec.ofChange dualRaySpec)

/-- ITS FALSE NEIGHBOUR: 'it returns false'. Refute it at one input. -/
def dualRayWrong : ChangeSpec := { name := "dualRay", fn := fun _ => fun
  | [d1, d2, d3, d4, d5, d6] => { results := [.lit (.bool false)], args := [d1, d2, d3, d4, d5, d6] }
  | _ => none }
def DualRayWrongFalsely : Prop := dualRayRow.holds Tryz.pinned (OpenSpec.ofChange dualRayWrong)

/- THE SECOND FORM. 'bulk': how many values and letters a reading holds, each counted each time it is reached (what is shared counts as often as it is met; a slice's spare places count too). A statement '..UptoSaid' is the law's where the arguments, and the package variables that the reading takes, are together of bulk at most 1048576: NARROWER than '..Said'. Prove '..Said' where nothing that the law and all that it calls make is longer than what came in: it says more and counts as full. Else prove '..UptoSaid'. A law counts once. -/
mutual
def uptoBulk {H : Type} : DataW H → Nat
  | .lit (.string bytes) => bytes.length + 1
  | .lit _ => 1
  | .nil => 1
  | .ptr d => uptoBulk d + 1
  | .slice elems spare => uptoBulkAll elems + uptoBulkAll spare + 1
  | .agg parts => uptoBulkAll parts + 1
  | .iface _ d => uptoBulk d + 1
  | .map entries => uptoBulkEntries entries + 1
  | .held _ => 1
def uptoBulkAll {H : Type} : List (DataW H) → Nat
  | [] => 0
  | d :: r => uptoBulk d + uptoBulkAll r
def uptoBulkEntries {H : Type} : List (Lit × DataW H) → Nat
  | [] => 0
  | x :: r => uptoBulkEntry x + uptoBulkEntries r
def uptoBulkEntry {H : Type} : Lit × DataW H → Nat
  | (.string bytes, d) => bytes.length + uptoBulk d + 1
  | (_, d) => uptoBulk d + 1
 end
def uptoSmall : (H : Type) → List (DataW H) → Bool := fun _ ds => decide (uptoBulkAll ds ≤ 1048576)
def OpenSpec.upto (s : _root_.Go.ChangeSpec) : _root_.Go.OpenSpec := { _root_.Go.OpenSpec.ofChange s with cond := some uptoSmall }

/-- 'kerbsidelaw04.BigTells', WHERE WHAT IT READS IS OF BULK AT MOST 1048576: true; the input reads as it did. -/
def bigTellsUptoRow : OpenClaim := { program := "ytikfjmdeeknalaagreatdoor", sum := "96dd3fbac6b47ced85cb32eac26105684bd68cfdcdbde3d413ecaee71ea96e51", func := "kerbside/kerbsidelaw04.BigTells", spec := "bigTells", unfollowed := true, recurses := true, named := ["math/bits.deBruijn64tab", "strconv.ErrSyntax", "strconv.ErrRange", "internal/strconv.uint64pow10", "math/bits.deBruijn32tab"], apart := false, laid := [("math/bits.deBruijn32tab", laid_math_bits_deBruijn32tab), ("math/bits.deBruijn64tab", laid_math_bits_deBruijn64tab), ("internal/strconv.uint64pow10", laid_internal_strconv_uint64pow10), ("strconv.ErrRange", laid_strconv_ErrRange), ("strconv.ErrSyntax", laid_strconv_ErrSyntax)], narrowed := true }
def BigTellsUptoSaid : Prop := bigTellsUptoRow.holds Tryz.pinned (OpenSpec.upto bigTellsSpec)

/-- 'kerbsidelaw05.FracTells', WHERE WHAT IT READS IS OF BULK AT MOST 1048576: true; the input reads as it did. -/
def fracTellsUptoRow : OpenClaim := { program := "ytikfjmdeeknalaagreatdoor", sum := "96dd3fbac6b47ced85cb32eac26105684bd68cfdcdbde3d413ecaee71ea96e51", func := "kerbside/kerbsidelaw05.FracTells", spec := "fracTells", inPlace := ["internal/bytealg.IndexByteString", "internal/bytealg.IndexString"], unfollowed := true, recurses := true, named := ["math/bits.deBruijn64tab", "internal/bytealg.MaxLen", "strconv.ErrSyntax", "strconv.ErrRange", "internal/strconv.uint64pow10", "math/bits.deBruijn32tab"], apart := false, laid := [("math/bits.deBruijn32tab", laid_math_bits_deBruijn32tab), ("math/bits.deBruijn64tab", laid_math_bits_deBruijn64tab), ("internal/strconv.uint64pow10", laid_internal_strconv_uint64pow10), ("strconv.ErrRange", laid_strconv_ErrRange), ("strconv.ErrSyntax", laid_strconv_ErrSyntax)], narrowed := true }
def FracTellsUptoSaid : Prop := fracTellsUptoRow.holds Tryz.pinned (OpenSpec.upto fracTellsSpec)

/-- 'kerbsidelaw08.LinearTells', WHERE WHAT IT READS IS OF BULK AT MOST 1048576: true; the input reads as it did. -/
def linearTellsUptoRow : OpenClaim := { program := "ytikfjmdeeknalaagreatdoor", sum := "96dd3fbac6b47ced85cb32eac26105684bd68cfdcdbde3d413ecaee71ea96e51", func := "kerbside/kerbsidelaw08.LinearTells", spec := "linearTells", unfollowed := true, recurses := true, named := ["math/bits.deBruijn64tab"], apart := false, laid := [("math/bits.deBruijn64tab", laid_math_bits_deBruijn64tab)], narrowed := true }
def LinearTellsUptoSaid : Prop := linearTellsUptoRow.holds Tryz.pinned (OpenSpec.upto linearTellsSpec)

/-- 'kerbsidelaw08.LinearTurns', WHERE WHAT IT READS IS OF BULK AT MOST 1048576: true; the input reads as it did. -/
def linearTurnsUptoRow : OpenClaim := { program := "ytikfjmdeeknalaagreatdoor", sum := "96dd3fbac6b47ced85cb32eac26105684bd68cfdcdbde3d413ecaee71ea96e51", func := "kerbside/kerbsidelaw08.LinearTurns", spec := "linearTurns", unfollowed := true, recurses := true, named := ["math/bits.deBruijn64tab"], apart := false, laid := [("math/bits.deBruijn64tab", laid_math_bits_deBruijn64tab)], narrowed := true }
def LinearTurnsUptoSaid : Prop := linearTurnsUptoRow.holds Tryz.pinned (OpenSpec.upto linearTurnsSpec)

/-- 'kerbsidelaw09.DualTells', WHERE WHAT IT READS IS OF BULK AT MOST 1048576: true; the input reads as it did. -/
def dualTellsUptoRow : OpenClaim := { program := "ytikfjmdeeknalaagreatdoor", sum := "96dd3fbac6b47ced85cb32eac26105684bd68cfdcdbde3d413ecaee71ea96e51", func := "kerbside/kerbsidelaw09.DualTells", spec := "dualTells", unfollowed := true, recurses := true, named := ["math/bits.deBruijn64tab"], apart := false, laid := [("math/bits.deBruijn64tab", laid_math_bits_deBruijn64tab)], narrowed := true }
def DualTellsUptoSaid : Prop := dualTellsUptoRow.holds Tryz.pinned (OpenSpec.upto dualTellsSpec)

/-- 'kerbsidelaw09.DualBounds', WHERE WHAT IT READS IS OF BULK AT MOST 1048576: true; the input reads as it did. -/
def dualBoundsUptoRow : OpenClaim := { program := "ytikfjmdeeknalaagreatdoor", sum := "96dd3fbac6b47ced85cb32eac26105684bd68cfdcdbde3d413ecaee71ea96e51", func := "kerbside/kerbsidelaw09.DualBounds", spec := "dualBounds", unfollowed := true, recurses := true, named := ["math/bits.deBruijn64tab"], apart := false, laid := [("math/bits.deBruijn64tab", laid_math_bits_deBruijn64tab)], narrowed := true }
def DualBoundsUptoSaid : Prop := dualBoundsUptoRow.holds Tryz.pinned (OpenSpec.upto dualBoundsSpec)

/-- 'kerbsidelaw09.DualAgrees', WHERE WHAT IT READS IS OF BULK AT MOST 1048576: true; the input reads as it did. -/
def dualAgreesUptoRow : OpenClaim := { program := "ytikfjmdeeknalaagreatdoor", sum := "96dd3fbac6b47ced85cb32eac26105684bd68cfdcdbde3d413ecaee71ea96e51", func := "kerbside/kerbsidelaw09.DualAgrees", spec := "dualAgrees", unfollowed := true, recurses := true, named := ["math/bits.deBruijn64tab"], apart := false, laid := [("math/bits.deBruijn64tab", laid_math_bits_deBruijn64tab)], narrowed := true }
def DualAgreesUptoSaid : Prop := dualAgreesUptoRow.holds Tryz.pinned (OpenSpec.upto dualAgreesSpec)

/-- 'kerbsidelaw09.DualSums', WHERE WHAT IT READS IS OF BULK AT MOST 1048576: true; the input reads as it did. -/
def dualSumsUptoRow : OpenClaim := { program := "ytikfjmdeeknalaagreatdoor", sum := "96dd3fbac6b47ced85cb32eac26105684bd68cfdcdbde3d413ecaee71ea96e51", func := "kerbside/kerbsidelaw09.DualSums", spec := "dualSums", unfollowed := true, recurses := true, named := ["math/bits.deBruijn64tab"], apart := false, laid := [("math/bits.deBruijn64tab", laid_math_bits_deBruijn64tab)], narrowed := true }
def DualSumsUptoSaid : Prop := dualSumsUptoRow.holds Tryz.pinned (OpenSpec.upto dualSumsSpec)

/-- 'kerbsidelaw09.DualMore', WHERE WHAT IT READS IS OF BULK AT MOST 1048576: true; the input reads as it did. -/
def dualMoreUptoRow : OpenClaim := { program := "ytikfjmdeeknalaagreatdoor", sum := "96dd3fbac6b47ced85cb32eac26105684bd68cfdcdbde3d413ecaee71ea96e51", func := "kerbside/kerbsidelaw09.DualMore", spec := "dualMore", unfollowed := true, recurses := true, named := ["math/bits.deBruijn64tab"], apart := false, laid := [("math/bits.deBruijn64tab", laid_math_bits_deBruijn64tab)], narrowed := true }
def DualMoreUptoSaid : Prop := dualMoreUptoRow.holds Tryz.pinned (OpenSpec.upto dualMoreSpec)

/-- 'kerbsidelaw09.DualRay', WHERE WHAT IT READS IS OF BULK AT MOST 1048576: true; the input reads as it did. -/
def dualRayUptoRow : OpenClaim := { program := "ytikfjmdeeknalaagreatdoor", sum := "96dd3fbac6b47ced85cb32eac26105684bd68cfdcdbde3d413ecaee71ea96e51", func := "kerbside/kerbsidelaw09.DualRay", spec := "dualRay", unfollowed := true, recurses := true, named := ["math/bits.deBruijn64tab"], apart := false, laid := [("math/bits.deBruijn64tab", laid_math_bits_deBruijn64tab)], narrowed := true }
def DualRayUptoSaid : Prop := dualRayUptoRow.holds Tryz.pinned (OpenSpec.upto dualRaySpec)

end Rows
end Go.Proofs.YtikfjmdeeknalaaGreatDoor
