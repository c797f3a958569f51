/- Fractions plainly: sizes of sums and products, order, floors. No condition but those that each theorem states. -/
import Derived.Test.YtikfjmdeeknalaaGreatDoorQ1
namespace Go.Proofs.YtikfjmdeeknalaaGreatDoor
set_option maxRecDepth 8000

/-- What is equal to P / Q has no greater parts. -/
theorem ratio_le {P Q : Int} {z : Rat} (hQ : 0 < Q) (e : z.num * Q = P * z.den) : z.num.natAbs ≤ P.natAbs ∧ z.den ≤ Q.natAbs := by
  have h := congrArg Int.natAbs e
  rw [Int.natAbs_mul, Int.natAbs_mul, Int.natAbs_natCast] at h
  have c := z.reduced
  have d1 : z.den ∣ Q.natAbs := (Nat.Coprime.symm c).dvd_of_dvd_mul_left (by rw [h]; exact Nat.dvd_mul_left _ _)
  have hq : z.den ≤ Q.natAbs := Nat.le_of_dvd (by omega) d1
  refine ⟨?_, hq⟩
  have d2 : z.num.natAbs ∣ P.natAbs := c.dvd_of_dvd_mul_right (by rw [← h]; exact Nat.dvd_mul_right _ _)
  rcases Nat.eq_zero_or_pos P.natAbs with h0 | h0
  · rw [h0, Nat.zero_mul] at h
    rcases Nat.mul_eq_zero.1 h with h1 | h1 <;> omega
  · exact Nat.le_of_dvd h0 d2
theorem sum_le {p1 q1 p2 q2 : Int} {x y : Rat} (hx : Low p1 q1 x) (hy : Low p2 q2 y) : (x + y).num.natAbs ≤ (p1 * q2 + p2 * q1).natAbs ∧ (x + y).den ≤ (q1 * q2).natAbs :=
  ratio_le (Int.mul_pos hx.pos hy.pos) (sum_ratio hx hy)
theorem prod_le {p1 q1 p2 q2 : Int} {x y : Rat} (hx : Low p1 q1 x) (hy : Low p2 q2 y) : (x * y).num.natAbs ≤ (p1 * p2).natAbs ∧ (x * y).den ≤ (q1 * q2).natAbs :=
  ratio_le (Int.mul_pos hx.pos hy.pos) (prod_ratio hx hy)
/-- The sign of an integer. -/
def sgnZ (n : Int) : Int := if n < 0 then -1 else if n = 0 then 0 else 1
/-- The sign of a fraction. -/
def sgnR (x : Rat) : Int := sgnZ x.num
theorem lt_irr {x y : Rat} (h : x < y) (h' : y < x) : False := Rat.not_lt.2 (Rat.le_of_lt h) h'
theorem ordR_lt {x y : Rat} (h : x < y) : ordR x y = -1 := by unfold ordR; rw [if_pos h]
theorem ordR_gt {x y : Rat} (h : y < x) : ordR x y = 1 := by
  unfold ordR
  rw [if_neg (fun e => lt_irr h e), if_neg (fun e => by subst e; exact Rat.lt_irrefl h)]
theorem sgnR_cases (x : Rat) : (x < 0 ∧ sgnR x = -1) ∨ (x = 0 ∧ sgnR x = 0) ∨ (0 < x ∧ sgnR x = 1) := by
  unfold sgnR sgnZ
  rcases Int.lt_trichotomy x.num 0 with h | h | h
  · exact .inl ⟨Rat.not_le.1 fun h2 => by have := Rat.num_nonneg.2 h2; omega, by rw [if_pos h]⟩
  · refine .inr (.inl ⟨Rat.num_eq_zero.1 h, by rw [if_neg (by omega), if_pos h]⟩)
  · exact .inr (.inr ⟨Rat.not_le.1 fun h2 => by rcases Rat.le_iff_eq_or_lt.1 h2 with h3 | h3; exact absurd (Rat.num_nonneg.1 (by omega)) (Rat.not_le.2 h3); (subst h3; exact absurd h (by decide)), by rw [if_neg (by omega), if_neg (by omega)]⟩)
end Go.Proofs.YtikfjmdeeknalaaGreatDoor
