/- Lehmer's leaps in Euclid's algorithm, plainly: the state of a leap, when a step is certain, and what a leap leads to. No condition but those that each theorem states. -/
namespace Go.Proofs.YtoocdokhljpokaaDoor
set_option maxRecDepth 8000

/-- A leap by the sizes of its numbers; s: the sign of the first. -/
structure LeapSt (x0 y0 s U0 V0 U1 V1 x y : Int) : Prop where
  hs : s = 1 ∨ s = -1
  hU0 : 0 ≤ U0
  hV0 : 0 ≤ V0
  hU1 : 0 ≤ U1
  hV1 : 1 ≤ V1
  det : U0 * V1 - U1 * V0 = s
  ex : x = s * (U0 * x0 - V0 * y0)
  ey : y = s * (V1 * y0 - U1 * x0)
  le : U1 ≤ V1
  mo : V0 ≤ V1
  alt : (U0 = 1 ∧ V0 = 0 ∧ U1 = 0 ∧ V1 = 1) ∨ (U0 ≤ V0 ∧ 1 ≤ V0)
  y0' : 0 ≤ y
  yx : y ≤ x
theorem LeapSt.start {x0 y0 : Int} (h0 : 0 ≤ y0) (h1 : y0 ≤ x0) : LeapSt x0 y0 1 1 0 0 1 x0 y0 :=
  ⟨.inl rfl, by omega, by omega, by omega, by omega, by omega, by omega, by omega, by omega, by omega, .inl ⟨rfl, rfl, rfl, rfl⟩, h0, h1⟩
theorem LeapSt.id {x0 y0 s U0 V0 U1 V1 x y : Int} (h : LeapSt x0 y0 s U0 V0 U1 V1 x y) : V1 * x + V0 * y = x0 := by
  have e1 := h.ex
  have e2 := h.ey
  have e3 := h.det
  have e4 : s * s = 1 := by rcases h.hs with e | e <;> rw [e] <;> rfl
  rw [e1, e2]
  have : V1 * (s * (U0 * x0 - V0 * y0)) + V0 * (s * (V1 * y0 - U1 * x0)) = s * (U0 * V1 - U1 * V0) * x0 := by grind
  rw [this, e3, e4, Int.one_mul]
/-- One step. -/
theorem LeapSt.step {x0 y0 s U0 V0 U1 V1 x y : Int} (h : LeapSt x0 y0 s U0 V0 U1 V1 x y) (hy : 0 < y) :
    LeapSt x0 y0 (-s) U1 V1 (U0 + x / y * U1) (V0 + x / y * V1) y (x - x / y * y) ∧ x - x / y * y < y ∧ 1 ≤ x / y := by
  have q1 : 1 ≤ x / y := by
    rw [Int.le_ediv_iff_mul_le hy]
    have := h.yx
    omega
  have hm := Int.emod_nonneg x (show y ≠ 0 by omega)
  have hm2 := Int.emod_lt_of_pos x hy
  have hd : x - x / y * y = x % y := by
    have := Int.mul_ediv_add_emod x y
    have e : y * (x / y) = x / y * y := Int.mul_comm _ _
    omega
  obtain ⟨r, hr⟩ : ∃ r, r = x % y := ⟨_, rfl⟩
  rw [← hr] at hm hm2 hd
  clear hr
  have e1 := h.ex
  have e2 := h.ey
  have e3 := h.det
  generalize x / y = q at *
  have p1 : 0 ≤ q * U1 := Int.mul_nonneg (by omega) h.hU1
  have p2 : V1 ≤ q * V1 := by
    have := Int.mul_le_mul_of_nonneg_right q1 (show 0 ≤ V1 by have := h.hV1; omega)
    omega
  have p3 : q * U1 ≤ q * V1 := Int.mul_le_mul_of_nonneg_left h.le (by omega)
  have a1 := h.hU0
  have a2 := h.hV0
  have a3 := h.hU1
  have a4 := h.hV1
  have a5 := h.le
  have a6 := h.alt
  have a7 := h.mo
  have a8 : U0 + q * U1 ≤ V0 + q * V1 := by
    rcases a6 with ⟨g1, g2, g3, g4⟩ | ⟨g1, -⟩
    · rw [g1, g2, g3, g4]; omega
    · omega
  refine ⟨⟨by rcases h.hs with e | e <;> omega, a3, by omega, by omega, by omega, by grind, ?_, ?_, by omega, by omega, .inr ⟨a5, a4⟩, by omega, by omega⟩, by omega, q1⟩
  · rw [e2]; grind
  · rw [e1, e2]; grind
/-- The sizes stay below the first number. -/
theorem LeapSt.bound {x0 y0 s U0 V0 U1 V1 x y : Int} (h : LeapSt x0 y0 s U0 V0 U1 V1 x y) (hx : 0 < x) : V1 ≤ x0 ∧ V1 * x ≤ x0 := by
  have h1 := h.id
  have h2 := Int.mul_nonneg h.hV0 h.y0'
  have h3 : V1 * 1 ≤ V1 * x := Int.mul_le_mul_of_nonneg_left (by omega) (by have := h.hV1; omega)
  omega
/-- Two numbers with the leading bits x0 and y0. -/
structure Lead (A B T S x0 y0 : Int) : Prop where
  hT : 0 < T
  hS : 0 < S
  a0 : x0 * S ≤ A * T
  a1 : A * T < (x0 + 1) * S
  b0 : y0 * S ≤ B * T
  b1 : B * T < (y0 + 1) * S
theorem dev {c d r t S M : Int} (hc : 0 ≤ c) (hd : 0 ≤ d) (hcM : c ≤ M) (hdM : d ≤ M) (hr0 : 0 ≤ r) (hr : r < S) (ht0 : 0 ≤ t) (ht : t < S) : -(M * S) + M ≤ c * r - d * t ∧ c * r - d * t ≤ M * S - M := by
  have h1 := Int.mul_nonneg hc hr0
  have h2 := Int.mul_nonneg hd ht0
  have h3 : c * r ≤ M * (S - 1) := Int.mul_le_mul hcM (by omega) hr0 (by omega)
  have h4 : d * t ≤ M * (S - 1) := Int.mul_le_mul hdM (by omega) ht0 (by omega)
  have h5 : M * (S - 1) = M * S - M := by grind
  omega
theorem pos_of_mul {a T : Int} (hT : 0 < T) (h : 0 < a * T) : 0 < a := by
  rcases Int.lt_or_le 0 a with h1 | h1
  · exact h1
  · have := Int.mul_le_mul_of_nonneg_right h1 (Int.le_of_lt hT)
    omega
/-- A step that is certain: the numbers are those of Euclid's algorithm, and become less. -/
theorem LeapSt.sure {A B T S x0 y0 s U0 V0 U1 V1 x y : Int} (h : LeapSt x0 y0 s U0 V0 U1 V1 x y) (L : Lead A B T S x0 y0) (hU : U0 ≤ V0) (c1 : V1 ≤ y) (c2 : V1 + V0 ≤ x - y) :
    0 < s * (V1 * B - U1 * A) ∧ s * (V1 * B - U1 * A) < s * (U0 * A - V0 * B) := by
  obtain ⟨r, hr⟩ : ∃ r, r = A * T - x0 * S := ⟨_, rfl⟩
  obtain ⟨t, ht⟩ : ∃ t, t = B * T - y0 * S := ⟨_, rfl⟩
  have hr0 : 0 ≤ r := by have := L.a0; omega
  have ht0 : 0 ≤ t := by have := L.b0; omega
  have ea : (x0 + 1) * S = x0 * S + S := by grind
  have eb : (y0 + 1) * S = y0 * S + S := by grind
  have hr1 : r < S := by have := L.a1; omega
  have ht1 : t < S := by have := L.b1; omega
  have d1 := dev (c := V1) (d := U1) (M := V1) (by have := h.hV1; omega) h.hU1 (Int.le_refl _) h.le ht0 ht1 hr0 hr1
  have d2 := dev (c := U0 + U1) (d := V0 + V1) (M := V0 + V1) (by have := h.hU0; have := h.hU1; omega) (by have := h.hV0; have := h.hV1; omega) (by have := h.le; omega) (Int.le_refl _) hr0 hr1 ht0 ht1
  have h1 := h.hV1
  have h2 := h.hV0
  have hS := L.hS
  have m1 : V1 * S ≤ y * S := Int.mul_le_mul_of_nonneg_right c1 (by omega)
  have m2 : (V1 + V0) * S ≤ (x - y) * S := Int.mul_le_mul_of_nonneg_right c2 (by omega)
  have ex := h.ex
  have ey := h.ey
  have hA : A * T = x0 * S + r := by omega
  have hB : B * T = y0 * S + t := by omega
  have m3 : (V1 + V0) * S = (V0 + V1) * S := by grind
  constructor
  · apply pos_of_mul L.hT
    have e : s * (V1 * B - U1 * A) * T = s * (V1 * (B * T) - U1 * (A * T)) := by grind
    rw [e, hA, hB]
    rcases h.hs with hs | hs
    · have e2 : s * (V1 * (y0 * S + t) - U1 * (x0 * S + r)) = y * S + (V1 * t - U1 * r) := by rw [ey, hs]; grind
      omega
    · have e2 : s * (V1 * (y0 * S + t) - U1 * (x0 * S + r)) = y * S - (V1 * t - U1 * r) := by rw [ey, hs]; grind
      omega
  · have key : 0 < s * (U0 * A - V0 * B) - s * (V1 * B - U1 * A) := by
      apply pos_of_mul L.hT
      have e : (s * (U0 * A - V0 * B) - s * (V1 * B - U1 * A)) * T = s * ((U0 + U1) * (A * T) - (V0 + V1) * (B * T)) := by grind
      rw [e, hA, hB]
      rcases h.hs with hs | hs
      · have e2 : s * ((U0 + U1) * (x0 * S + r) - (V0 + V1) * (y0 * S + t)) = (x - y) * S + ((U0 + U1) * r - (V0 + V1) * t) := by rw [ex, ey, hs]; grind
        omega
      · have e2 : s * ((U0 + U1) * (x0 * S + r) - (V0 + V1) * (y0 * S + t)) = (x - y) * S - ((U0 + U1) * r - (V0 + V1) * t) := by rw [ex, ey, hs]; grind
        omega
    omega
/-- What a leap leads to, at two numbers: nothing has been done, or both are later numbers of the algorithm. -/
def LeapTo (A B u0 v0 u1 v1 : Int) : Prop :=
  (v0 = 0 ∧ u0 = 1 ∧ u1 = 0 ∧ v1 = 1) ∨ (v0 ≠ 0 ∧ 0 ≤ u1 * A + v1 * B ∧ u1 * A + v1 * B < u0 * A + v0 * B ∧ u0 * A + v0 * B ≤ B)
/-- The next leap is as good. -/
theorem LeapSt.next {A B T S x0 y0 s U0 V0 U1 V1 x y : Int} (h : LeapSt x0 y0 s U0 V0 U1 V1 x y) (L : Lead A B T S x0 y0) (hy : 0 < y)
    (c1 : V0 + x / y * V1 ≤ x - x / y * y) (c2 : V0 + x / y * V1 + V1 ≤ y - (x - x / y * y)) (hl : LeapTo A B (s * U0) (-(s * V0)) (-(s * U1)) (s * V1)) :
    LeapTo A B (-(s * U1)) (s * V1) (s * (U0 + x / y * U1)) (-(s * (V0 + x / y * V1))) := by
  obtain ⟨h2, -, -⟩ := h.step hy
  obtain ⟨k1, k2⟩ := h2.sure L h.le c1 c2
  have hne : s * V1 ≠ 0 := by
    have := h.hV1
    rcases h.hs with e | e <;> rw [e] <;> omega
  refine .inr ⟨hne, ?_, ?_, ?_⟩
  · have e : s * (U0 + x / y * U1) * A + -(s * (V0 + x / y * V1)) * B = -s * ((V0 + x / y * V1) * B - (U0 + x / y * U1) * A) := by
      generalize x / y = q
      grind
    omega
  · have e : s * (U0 + x / y * U1) * A + -(s * (V0 + x / y * V1)) * B = -s * ((V0 + x / y * V1) * B - (U0 + x / y * U1) * A) := by
      generalize x / y = q
      grind
    have e2 : -(s * U1) * A + s * V1 * B = -s * (U1 * A - V1 * B) := by grind
    omega
  · rcases hl with ⟨-, -, g1, g2⟩ | ⟨-, g1, g2, g3⟩
    · rw [g1, g2]; omega
    · omega
end Go.Proofs.YtoocdokhljpokaaDoor
