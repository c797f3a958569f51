/- The walk of big's Compare at right big integers. Conditions: lengths. -/
import Derived.Test.YtoocdokhljpokaaDoorD3
namespace Go.Proofs.YtoocdokhljpokaaDoor
set_option maxRecDepth 8000
open Go.RowKit

/-- -1, 0 or 1, as two integers stand. -/
def ordZ (x y : Int) : Int := if x < y then -1 else if x = y then 0 else 1
theorem cmp_ordZ (x y : Int) : Lib.compareInt x y = ordZ x y := by
  unfold Lib.compareInt ordZ
  split
  · rfl
  · split <;> split <;> omega
theorem ordZ_signs {s1 s2 x y : Int} {l1 l2 : List Nat} (r1 : Rep s1 l1 x) (r2 : Rep s2 l2 y) (h : s1 ≠ s2) : ordZ s1 s2 = ordZ x y := by
  have e : (s1 < s2 ↔ x < y) ∧ (s1 = s2 ↔ x = y) := by
    rcases r1.cases with ⟨a, -, b, -⟩ | ⟨a, -, b, -⟩ | ⟨a, -, b⟩ <;> rcases r2.cases with ⟨c, -, d, -⟩ | ⟨c, -, d, -⟩ | ⟨c, -, d⟩ <;> omega
  unfold ordZ
  simp only [e.1, e.2]
theorem ordZ_digits {s x y : Int} {l1 l2 : List Nat} (r1 : Rep s l1 x) (r2 : Rep s l2 y) : s * ordN (dval l1) (dval l2) = ordZ x y := by
  unfold ordN ordZ
  rcases r1.cases with ⟨a, -, b, b2⟩ | ⟨a, -, b, b2⟩ | ⟨a, -, b⟩ <;> rcases r2.cases with ⟨c, -, d, d2⟩ | ⟨c, -, d, d2⟩ | ⟨c, -, d⟩ <;> subst a <;> first
    | omega
    | (split <;> split <;> first | omega | (split <;> first | omega | (split <;> omega)))
    | (rw [Int.zero_mul]; split <;> first | omega | (split <;> omega))
end Go.Proofs.YtoocdokhljpokaaDoor
