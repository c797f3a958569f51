/- The walk of the law BigBack. Conditions: the arguments' memory, the tables of math/bits and strconv. -/
import Derived.Test.YtikndohlnoiebaaDoorF9
import Derived.Test.YtikndohlnoiebaaDoorG1
namespace Go.Proofs.YtikndohlnoiebaaDoor
set_option maxRecDepth 8000
open Go.RowKit

theorem back_walk (s1a : Int) (A1a : Option Addr) (n1a c1a : Nat) (l1a : List Int) (S : ByteArray) (w : World) (ha1 : BigArg w ⟨s1a, A1a, n1a, c1a⟩ l1a) (hT : Tab w) (hZ : TabZ w) :
    Calls Tryd.prog 4 #[.agg #[.int .i64 s1a, .slice A1a n1a c1a], .string S] w fun e w' => e = .returned (.bool true) ∧ Below w.heap.size w w' := by
  by_cases t0 : (400 : Int) < (S.size : Int)
  · exact back_e0 s1a A1a n1a c1a l1a S w ha1 hT hZ t0
  · by_cases t1 : (n1a : Int) ≤ 60
    · cases tr : rightB s1a l1a with
      | false =>
        cases tx : txtOk S.data.toList with
        | none => exact back_nw s1a A1a n1a c1a l1a S w ha1 hT hZ t0 t1 tx tr
        | some z => exact back_sw s1a A1a n1a c1a l1a S w ha1 hT hZ t0 t1 z tx tr
      | true =>
        obtain ⟨x1, hx⟩ := ha1.bg tr (k := 60) (by dsimp only; omega)
        dsimp only at hx
        by_cases hs0 : s1a = 0
        · subst hs0
          have hx0 : x1 = 0 := by rcases hx.sign with ⟨h, h'⟩ | ⟨h, h'⟩ | ⟨h, h'⟩ <;> omega
          subst hx0
          cases tx : txtOk S.data.toList with
          | none => exact back_nz A1a n1a c1a l1a S w ha1 hT hZ t0 t1 tx tr hx
          | some z => exact back_sz A1a n1a c1a l1a S w ha1 hT hZ t0 t1 z tx tr hx
        · cases tx : txtOk S.data.toList with
          | none => exact back_np s1a A1a n1a c1a l1a S w ha1 hT hZ t0 t1 tx tr x1 hx hs0
          | some z => exact back_sp s1a A1a n1a c1a l1a S w ha1 hT hZ t0 t1 z tx tr x1 hx hs0
    · exact back_e1 s1a A1a n1a c1a l1a S w ha1 hT hZ t0 (Int.not_le.1 t1)
end Go.Proofs.YtikndohlnoiebaaDoor
