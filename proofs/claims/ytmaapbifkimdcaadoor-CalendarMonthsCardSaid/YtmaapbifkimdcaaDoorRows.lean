/-
  NARROWER THAN 'FOR EVERY INPUT', by the rows' own cells (each row's printed sentence says how): CalendarTells: laid · CalendarBack: laid · CalendarWeeks: laid · CalendarMonths: laid · CalendarAdds: laid.
  DERIVED. THE GIVEN ROWS OF THIS SEAT. 5 by the template 'for every input the law returns true; each argument reads behind the call as it read before'; 0 by the template 'total and deterministic' (their statements: YtmaapbifkimdcaaDoorTotals.lean).
  GIVEN WITH THE SEED: the statements are not yours to turn. If you find one false, say at which input.
  Laid BY PROGRAM, IN A SANDBOX (cutbox-rows.mjs): the forced cells as the released guide's own fill.sh prints them over the translation 38fe88cf50e69e5a… (all of the seat's roots in one cut). By AI agents, Wed Nov 11 2026. No macro, syntax, notation, axiom, sorry.
-/
import Derived.Test.YtmaapbifkimdcaaDoorChecked
import GoSem.Claim
import GoSem.ClaimJoined
import GoSem.ClaimMapViews
import Derived.JoinedTies
import Derived.KernelRfl
namespace Go.Proofs.YtmaapbifkimdcaaDoor
/- THE CELL 'sum', in the pinned program and in every row, IS THE sha256 OF THE DUMP (.gsa) THAT YtmaapbifkimdcaaDoorProg.lean LOADS. Nothing in Lean hashes anything: it is a label: what it is worth is what the hold of that sum in a sandbox is worth. -/
noncomputable def Tryd.pinned : Pinned := { name := "ytmaapbifkimdcaadoor", sum := "38fe88cf50e69e5ad7675942eb5c90d89da110d51aa2486e4cc92f01d1cfe7d6", checked := Tryd.checked }
namespace Rows
def none {H : Type} : Left H := { results := [], args := [] }

/- WHAT THE LISTED PACKAGE-LEVEL VARIABLES READ AS WHEN THE CALL BEGINS. Each datum BY PROGRAM (the guide's laid-datum.mjs) off the statement by which the dump's own 'gosem.cut.vars' lays the variable. In a bare row this is a premise. The card (YtmaapbifkimdcaaDoorCards.lean) ties it to the program's text. -/
def laid_kerbside_calendar_before {H : Type} : DataW H := .agg [.lit (.int .i64 0), .lit (.int .i64 31), .lit (.int .i64 59), .lit (.int .i64 90), .lit (.int .i64 120), .lit (.int .i64 151), .lit (.int .i64 181), .lit (.int .i64 212), .lit (.int .i64 243), .lit (.int .i64 273), .lit (.int .i64 304), .lit (.int .i64 334)]

/-- 'kerbsidelaw07.CalendarTells': WHATEVER THE INPUT: true; the input reads as it did. -/
def calendarTellsSpec : ChangeSpec := { name := "calendarTells", fn := fun _ => fun
  | [d1, d2, d3] => { results := [.lit (.bool true)], args := [d1, d2, d3] }
  | _ => none }
def calendarTellsRow : OpenClaim := { program := "ytmaapbifkimdcaadoor", sum := "38fe88cf50e69e5ad7675942eb5c90d89da110d51aa2486e4cc92f01d1cfe7d6", func := "kerbside/kerbsidelaw07.CalendarTells", spec := "calendarTells", unfollowed := true, recurses := true, named := ["kerbside/calendar.before"], apart := false, laid := [("kerbside/calendar.before", laid_kerbside_calendar_before)] }
def CalendarTellsSaid : Prop := calendarTellsRow.holds Tryd.pinned (OpenSpec.ofChange calendarTellsSpec)

/-- ITS FALSE NEIGHBOUR: 'it returns false'. Refute it at one input. -/
def calendarTellsWrong : ChangeSpec := { name := "calendarTells", fn := fun _ => fun
  | [d1, d2, d3] => { results := [.lit (.bool false)], args := [d1, d2, d3] }
  | _ => none }
def CalendarTellsWrongFalsely : Prop := calendarTellsRow.holds Tryd.pinned (OpenSpec.ofChange calendarTellsWrong)

/-- 'kerbsidelaw07.CalendarBack': WHATEVER THE INPUT: true; the input reads as it did. -/
def calendarBackSpec : ChangeSpec := { name := "calendarBack", fn := fun _ => fun
  | [d1, d2, d3, d4, d5] => { results := [.lit (.bool true)], args := [d1, d2, d3, d4, d5] }
  | _ => none }
def calendarBackRow : OpenClaim := { program := "ytmaapbifkimdcaadoor", sum := "38fe88cf50e69e5ad7675942eb5c90d89da110d51aa2486e4cc92f01d1cfe7d6", func := "kerbside/kerbsidelaw07.CalendarBack", spec := "calendarBack", unfollowed := true, recurses := true, named := ["kerbside/calendar.before"], apart := false, laid := [("kerbside/calendar.before", laid_kerbside_calendar_before)] }
def CalendarBackSaid : Prop := calendarBackRow.holds Tryd.pinned (OpenSpec.ofChange calendarBackSpec)

/-- ITS FALSE NEIGHBOUR: 'it returns false'. Refute it at one input. -/
def calendarBackWrong : ChangeSpec := { name := "calendarBack", fn := fun _ => fun
  | [d1, d2, d3, d4, d5] => { results := [.lit (.bool false)], args := [d1, d2, d3, d4, d5] }
  | _ => none }
def CalendarBackWrongFalsely : Prop := calendarBackRow.holds Tryd.pinned (OpenSpec.ofChange calendarBackWrong)

/-- 'kerbsidelaw07.CalendarWeeks': WHATEVER THE INPUT: true; the input reads as it did. -/
def calendarWeeksSpec : ChangeSpec := { name := "calendarWeeks", fn := fun _ => fun
  | [d] => { results := [.lit (.bool true)], args := [d] }
  | _ => none }
def calendarWeeksRow : OpenClaim := { program := "ytmaapbifkimdcaadoor", sum := "38fe88cf50e69e5ad7675942eb5c90d89da110d51aa2486e4cc92f01d1cfe7d6", func := "kerbside/kerbsidelaw07.CalendarWeeks", spec := "calendarWeeks", unfollowed := true, recurses := true, named := ["kerbside/calendar.before"], apart := false, laid := [("kerbside/calendar.before", laid_kerbside_calendar_before)] }
def CalendarWeeksSaid : Prop := calendarWeeksRow.holds Tryd.pinned (OpenSpec.ofChange calendarWeeksSpec)

/-- ITS FALSE NEIGHBOUR: 'it returns false'. Refute it at one input. -/
def calendarWeeksWrong : ChangeSpec := { name := "calendarWeeks", fn := fun _ => fun
  | [d] => { results := [.lit (.bool false)], args := [d] }
  | _ => none }
def CalendarWeeksWrongFalsely : Prop := calendarWeeksRow.holds Tryd.pinned (OpenSpec.ofChange calendarWeeksWrong)

/-- 'kerbsidelaw07.CalendarMonths': WHATEVER THE INPUT: true; the input reads as it did. -/
def calendarMonthsSpec : ChangeSpec := { name := "calendarMonths", fn := fun _ => fun
  | [d1, d2] => { results := [.lit (.bool true)], args := [d1, d2] }
  | _ => none }
def calendarMonthsRow : OpenClaim := { program := "ytmaapbifkimdcaadoor", sum := "38fe88cf50e69e5ad7675942eb5c90d89da110d51aa2486e4cc92f01d1cfe7d6", func := "kerbside/kerbsidelaw07.CalendarMonths", spec := "calendarMonths", unfollowed := true, recurses := true, named := ["kerbside/calendar.before"], apart := false, laid := [("kerbside/calendar.before", laid_kerbside_calendar_before)] }
def CalendarMonthsSaid : Prop := calendarMonthsRow.holds Tryd.pinned (OpenSpec.ofChange calendarMonthsSpec)

/-- ITS FALSE NEIGHBOUR: 'it returns false'. Refute it at one input. -/
def calendarMonthsWrong : ChangeSpec := { name := "calendarMonths", fn := fun _ => fun
  | [d1, d2] => { results := [.lit (.bool false)], args := [d1, d2] }
  | _ => none }
def CalendarMonthsWrongFalsely : Prop := calendarMonthsRow.holds Tryd.pinned (OpenSpec.ofChange calendarMonthsWrong)

/-- 'kerbsidelaw07.CalendarAdds': WHATEVER THE INPUT: true; the input reads as it did. -/
def calendarAddsSpec : ChangeSpec := { name := "calendarAdds", fn := fun _ => fun
  | [d1, d2, d3, d4] => { results := [.lit (.bool true)], args := [d1, d2, d3, d4] }
  | _ => none }
def calendarAddsRow : OpenClaim := { program := "ytmaapbifkimdcaadoor", sum := "38fe88cf50e69e5ad7675942eb5c90d89da110d51aa2486e4cc92f01d1cfe7d6", func := "kerbside/kerbsidelaw07.CalendarAdds", spec := "calendarAdds", unfollowed := true, recurses := true, named := ["kerbside/calendar.before"], apart := false, laid := [("kerbside/calendar.before", laid_kerbside_calendar_before)] }
def CalendarAddsSaid : Prop := calendarAddsRow.holds Tryd.pinned (OpenSpec.ofChange calendarAddsSpec)

/-- ITS FALSE NEIGHBOUR: 'it returns false'. Refute it at one input. -/
def calendarAddsWrong : ChangeSpec := { name := "calendarAdds", fn := fun _ => fun
  | [d1, d2, d3, d4] => { results := [.lit (.bool false)], args := [d1, d2, d3, d4] }
  | _ => none }
def CalendarAddsWrongFalsely : Prop := calendarAddsRow.holds Tryd.pinned (OpenSpec.ofChange calendarAddsWrong)

/- THE SECOND FORM. 'bulk': how many values and letters a reading holds, each counted each time it is reached (what is shared counts as often as it is met; a slice's spare places count too). A statement '..UptoSaid' is the law's where the arguments, and the package variables that the reading takes, are together of bulk at most 1048576: NARROWER than '..Said'. Prove '..Said' where nothing that the law and all that it calls make is longer than what came in: it says more and counts as full. Else prove '..UptoSaid'. A law counts once. -/
mutual
def uptoBulk {H : Type} : DataW H → Nat
  | .lit (.string bytes) => bytes.length + 1
  | .lit _ => 1
  | .nil => 1
  | .ptr d => uptoBulk d + 1
  | .slice elems spare => uptoBulkAll elems + uptoBulkAll spare + 1
  | .agg parts => uptoBulkAll parts + 1
  | .iface _ d => uptoBulk d + 1
  | .map entries => uptoBulkEntries entries + 1
  | .held _ => 1
def uptoBulkAll {H : Type} : List (DataW H) → Nat
  | [] => 0
  | d :: r => uptoBulk d + uptoBulkAll r
def uptoBulkEntries {H : Type} : List (Lit × DataW H) → Nat
  | [] => 0
  | x :: r => uptoBulkEntry x + uptoBulkEntries r
def uptoBulkEntry {H : Type} : Lit × DataW H → Nat
  | (.string bytes, d) => bytes.length + uptoBulk d + 1
  | (_, d) => uptoBulk d + 1
 end
def uptoSmall : (H : Type) → List (DataW H) → Bool := fun _ ds => decide (uptoBulkAll ds ≤ 1048576)
def OpenSpec.upto (s : _root_.Go.ChangeSpec) : _root_.Go.OpenSpec := { _root_.Go.OpenSpec.ofChange s with cond := some uptoSmall }

/-- 'kerbsidelaw07.CalendarTells', WHERE WHAT IT READS IS OF BULK AT MOST 1048576: true; the input reads as it did. -/
def calendarTellsUptoRow : OpenClaim := { program := "ytmaapbifkimdcaadoor", sum := "38fe88cf50e69e5ad7675942eb5c90d89da110d51aa2486e4cc92f01d1cfe7d6", func := "kerbside/kerbsidelaw07.CalendarTells", spec := "calendarTells", unfollowed := true, recurses := true, named := ["kerbside/calendar.before"], apart := false, laid := [("kerbside/calendar.before", laid_kerbside_calendar_before)], narrowed := true }
def CalendarTellsUptoSaid : Prop := calendarTellsUptoRow.holds Tryd.pinned (OpenSpec.upto calendarTellsSpec)

/-- 'kerbsidelaw07.CalendarBack', WHERE WHAT IT READS IS OF BULK AT MOST 1048576: true; the input reads as it did. -/
def calendarBackUptoRow : OpenClaim := { program := "ytmaapbifkimdcaadoor", sum := "38fe88cf50e69e5ad7675942eb5c90d89da110d51aa2486e4cc92f01d1cfe7d6", func := "kerbside/kerbsidelaw07.CalendarBack", spec := "calendarBack", unfollowed := true, recurses := true, named := ["kerbside/calendar.before"], apart := false, laid := [("kerbside/calendar.before", laid_kerbside_calendar_before)], narrowed := true }
def CalendarBackUptoSaid : Prop := calendarBackUptoRow.holds Tryd.pinned (OpenSpec.upto calendarBackSpec)

/-- 'kerbsidelaw07.CalendarWeeks', WHERE WHAT IT READS IS OF BULK AT MOST 1048576: true; the input reads as it did. -/
def calendarWeeksUptoRow : OpenClaim := { program := "ytmaapbifkimdcaadoor", sum := "38fe88cf50e69e5ad7675942eb5c90d89da110d51aa2486e4cc92f01d1cfe7d6", func := "kerbside/kerbsidelaw07.CalendarWeeks", spec := "calendarWeeks", unfollowed := true, recurses := true, named := ["kerbside/calendar.before"], apart := false, laid := [("kerbside/calendar.before", laid_kerbside_calendar_before)], narrowed := true }
def CalendarWeeksUptoSaid : Prop := calendarWeeksUptoRow.holds Tryd.pinned (OpenSpec.upto calendarWeeksSpec)

/-- 'kerbsidelaw07.CalendarMonths', WHERE WHAT IT READS IS OF BULK AT MOST 1048576: true; the input reads as it did. -/
def calendarMonthsUptoRow : OpenClaim := { program := "ytmaapbifkimdcaadoor", sum := "38fe88cf50e69e5ad7675942eb5c90d89da110d51aa2486e4cc92f01d1cfe7d6", func := "kerbside/kerbsidelaw07.CalendarMonths", spec := "calendarMonths", unfollowed := true, recurses := true, named := ["kerbside/calendar.before"], apart := false, laid := [("kerbside/calendar.before", laid_kerbside_calendar_before)], narrowed := true }
def CalendarMonthsUptoSaid : Prop := calendarMonthsUptoRow.holds Tryd.pinned (OpenSpec.upto calendarMonthsSpec)

/-- 'kerbsidelaw07.CalendarAdds', WHERE WHAT IT READS IS OF BULK AT MOST 1048576: true; the input reads as it did. -/
def calendarAddsUptoRow : OpenClaim := { program := "ytmaapbifkimdcaadoor", sum := "38fe88cf50e69e5ad7675942eb5c90d89da110d51aa2486e4cc92f01d1cfe7d6", func := "kerbside/kerbsidelaw07.CalendarAdds", spec := "calendarAdds", unfollowed := true, recurses := true, named := ["kerbside/calendar.before"], apart := false, laid := [("kerbside/calendar.before", laid_kerbside_calendar_before)], narrowed := true }
def CalendarAddsUptoSaid : Prop := calendarAddsUptoRow.holds Tryd.pinned (OpenSpec.upto calendarAddsSpec)

end Rows
end Go.Proofs.YtmaapbifkimdcaaDoor
