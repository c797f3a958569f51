/- The walks of big's sum, Add, Sub at right big integers. Conditions: lengths. -/
import Derived.Test.YtoocdokhljpokaaDoorBx
namespace Go.Proofs.YtoocdokhljpokaaDoor
set_option maxRecDepth 8000
open Go.RowKit

theorem Rep.low {s x : Int} {l : List Nat} (h : Rep s l x) (hl : l.length ≤ 3) : -1152921504606846976 < x ∧ x < 1152921504606846976 := by
  have h1 := dval_lt h.norm.1
  have h2 : 1048576 ^ l.length ≤ 1048576 ^ 3 := Nat.pow_le_pow_right (by decide) hl
  have h3 : (1048576 : Nat) ^ 3 = 1152921504606846976 := by rfl
  rw [h3] at h2
  rcases h.cases with ⟨-, -, a3, a4⟩ | ⟨-, -, a3, a4⟩ | ⟨-, -, a3⟩ <;> omega
theorem turn_sign {s1 s2 x y : Int} {l1 l2 : List Nat} (r1 : Rep s1 l1 x) (r2 : Rep s2 l2 y) (h : s1 * s2 < 0) {l : List Nat} : (s1 = 1 ∨ s1 = -1 ∨ l = []) ∧ (s2 = 1 ∨ s2 = -1 ∨ l = []) := by
  rcases r1.sign with ⟨e, -⟩ | ⟨e, -⟩ | ⟨e, -⟩
  · rcases r2.sign with ⟨f, -⟩ | ⟨f, -⟩ | ⟨f, -⟩
    · exact ⟨.inl e, .inl f⟩
    · exact ⟨.inl e, .inr (.inl f)⟩
    · rw [e, f] at h; simp at h
  · rcases r2.sign with ⟨f, -⟩ | ⟨f, -⟩ | ⟨f, -⟩
    · exact ⟨.inr (.inl e), .inl f⟩
    · exact ⟨.inr (.inl e), .inr (.inl f)⟩
    · rw [e, f] at h; simp at h
  · rw [e] at h; simp at h
theorem turn_two {s1 s2 x y : Int} {l1 l2 : List Nat} (r1 : Rep s1 l1 x) (r2 : Rep s2 l2 y) (h : s1 * s2 < 0) : (s1 = 1 ∧ s2 = -1 ∨ s1 = -1 ∧ s2 = 1) ∧ l1 ≠ [] ∧ l2 ≠ [] := by
  rcases r1.sign with ⟨e, a⟩ | ⟨e, a⟩ | ⟨e, a⟩
  · rcases r2.sign with ⟨f, b⟩ | ⟨f, b⟩ | ⟨f, b⟩
    · rw [e, f] at h; simp at h
    · exact ⟨.inl ⟨e, f⟩, a, b⟩
    · rw [e, f] at h; simp at h
  · rcases r2.sign with ⟨f, b⟩ | ⟨f, b⟩ | ⟨f, b⟩
    · exact ⟨.inr ⟨e, f⟩, a, b⟩
    · rw [e, f] at h; simp at h
    · rw [e, f] at h; simp at h
  · rw [e] at h; simp at h
theorem len_le {a b : List Nat} (ha : Norm a) (hb : Norm b) (h : dval b ≤ dval a) : b.length ≤ a.length := by
  rcases Nat.lt_or_ge a.length b.length with h1 | h1
  · have := dval_short ha.1 hb h1; omega
  · exact h1
theorem turn_ge {s1 s2 x y : Int} {l1 l2 : List Nat} (r1 : Rep s1 l1 x) (r2 : Rep s2 l2 y) (h : s1 * s2 < 0) (ho : dval l2 ≤ dval l1) : -1 ≤ s1 * s2 ∧ (∀ l : List Nat, dval l = dval l1 - dval l2 → s1 * (dval l : Int) = x + y) ∧ l2.length ≤ l1.length ∧ 0 < l1.length := by
  obtain ⟨h1, h2, h3⟩ := turn_two r1 r2 h
  have e1 := r1.eq
  have e2 := r2.eq
  refine ⟨?_, fun l hl => ?_, len_le r1.norm r2.norm ho, List.length_pos_iff.2 h2⟩
  · rcases h1 with ⟨e, f⟩ | ⟨e, f⟩ <;> (rw [e, f]; decide)
  · rw [e1, e2, hl]
    rcases h1 with ⟨e, f⟩ | ⟨e, f⟩ <;> (rw [e, f]; omega)
theorem turn_lt {s1 s2 x y : Int} {l1 l2 : List Nat} (r1 : Rep s1 l1 x) (r2 : Rep s2 l2 y) (h : s1 * s2 < 0) (ho : dval l1 < dval l2) : -1 ≤ s1 * s2 ∧ (∀ l : List Nat, dval l = dval l2 - dval l1 → s2 * (dval l : Int) = x + y) ∧ l1.length ≤ l2.length ∧ 0 < l2.length := by
  obtain ⟨h1, h2, h3⟩ := turn_two r1 r2 h
  have e1 := r1.eq
  have e2 := r2.eq
  refine ⟨?_, fun l hl => ?_, len_le r2.norm r1.norm (by omega), List.length_pos_iff.2 h3⟩
  · rcases h1 with ⟨e, f⟩ | ⟨e, f⟩ <;> (rw [e, f]; decide)
  · rw [e1, e2, hl]
    rcases h1 with ⟨e, f⟩ | ⟨e, f⟩ <;> (rw [e, f]; omega)
end Go.Proofs.YtoocdokhljpokaaDoor
