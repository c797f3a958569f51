/- The walks of big's Add and Sub at right big integers. Conditions: lengths. -/
import Derived.Test.YtoocdokhljpokaaDoorBz
namespace Go.Proofs.YtoocdokhljpokaaDoor
set_option maxRecDepth 8000
open Go.RowKit

theorem Rep.neg {s x : Int} {l : List Nat} (h : Rep s l x) : Rep (-s) l (-x) := by
  refine ⟨h.norm, by rw [h.eq, Int.neg_mul], ?_⟩
  rcases h.sign with ⟨a, b⟩ | ⟨a, b⟩ | ⟨a, b⟩
  · exact .inr (.inl ⟨by omega, b⟩)
  · exact .inl ⟨by omega, b⟩
  · exact .inr (.inr ⟨by omega, b⟩)
end Go.Proofs.YtoocdokhljpokaaDoor
