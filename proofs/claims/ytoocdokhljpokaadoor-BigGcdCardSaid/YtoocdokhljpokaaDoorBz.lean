/- The walks of big's sum with like signs, of sum, Add and Sub at right big integers. Conditions: lengths. -/
import Derived.Test.YtoocdokhljpokaaDoorBy
namespace Go.Proofs.YtoocdokhljpokaaDoor
set_option maxRecDepth 8000
open Go.RowKit

/-- The first one that is not 0. -/
def orI (a b : Int) : Int := if a = 0 then b else a
theorem like_signs {s1 s2 x y : Int} {l1 l2 : List Nat} (r1 : Rep s1 l1 x) (r2 : Rep s2 l2 y) (h : 0 ≤ s1 * s2) : s1 * s2 ≤ 1 ∧ (∀ l : List Nat, dval l = dval l1 + dval l2 → orI s1 s2 * (dval l : Int) = x + y) ∧ (∀ l : List Nat, Norm l → dval l = dval l1 + dval l2 → orI s1 s2 = 1 ∨ orI s1 s2 = -1 ∨ l = []) := by
  have e1 := r1.eq
  have e2 := r2.eq
  rcases r1.sign with ⟨e, a⟩ | ⟨e, a⟩ | ⟨e, a⟩ <;> rcases r2.sign with ⟨f, b⟩ | ⟨f, b⟩ | ⟨f, b⟩ <;> subst e f <;> simp [orI] at h ⊢ <;> (try subst a) <;> (try subst b) <;> simp [dval] at e1 e2 ⊢
  all_goals first
    | (intro l hl; rw [hl, e1, e2]; omega)
    | (subst e1 e2; intro l hn hl; exact (dval_zero hn).1 hl)
    | (intro l hn hl; exact (dval_zero hn).1 hl)
    | (constructor; (intro l hl; omega); (intro l hn hl; exact (dval_zero hn).1 hl))
theorem two_new (w : World) (a b : Int) : Reads (w.alloc (.cells #[.int .i64 a, .int .i64 b] 3)) (w.heap.size + 1) 1 (some ⟨w.heap.size, 0, none⟩) 2 (iv [a, b]) := by
  have hk := Blk.new w 3 #[.int .i64 a, .int .i64 b]
  refine ⟨rfl, fun _ => ⟨_, rfl, Nat.lt_succ_self _, fun j u hj => ?_⟩⟩
  have hlt := (List.getElem?_eq_some_iff.1 hj).1
  have hcs : j = 0 ∨ j = 1 := by
    have : j < 2 := hlt
    omega
  rcases hcs with rfl | rfl
  · cases hj; exact (hk.cell 0).trans rfl
  · cases hj; exact (hk.cell 1).trans rfl
end Go.Proofs.YtoocdokhljpokaaDoor
