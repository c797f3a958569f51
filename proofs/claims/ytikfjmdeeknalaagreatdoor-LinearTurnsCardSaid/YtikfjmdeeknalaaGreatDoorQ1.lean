/- Fractions in lowest terms, plainly: the parts of sums, products and quotients of rational numbers. No condition but those that each theorem states. -/
namespace Go.Proofs.YtikfjmdeeknalaaGreatDoor
set_option maxRecDepth 8000

/-- The parts of a rational number. -/
structure Low (p q : Int) (x : Rat) : Prop where
  num : x.num = p
  den : (x.den : Int) = q
theorem Low.pos {p q : Int} {x : Rat} (h : Low p q x) : 0 < q := by
  rw [← h.den]
  have := x.den_pos
  omega
theorem Low.cop {p q : Int} {x : Rat} (h : Low p q x) : Nat.Coprime p.natAbs q.natAbs := by
  rw [← h.num, ← h.den, Int.natAbs_natCast]
  exact x.reduced
theorem Low.self (x : Rat) : Low x.num x.den x := ⟨rfl, rfl⟩
theorem nat_cross {p q p' q' : Nat} (c : Nat.Coprime p q) (c' : Nat.Coprime p' q') (e : p * q' = p' * q) : q ∣ q' ∧ q' ∣ q := by
  constructor
  · exact (Nat.Coprime.symm c).dvd_of_dvd_mul_left (by rw [e]; exact Nat.dvd_mul_left _ _)
  · exact (Nat.Coprime.symm c').dvd_of_dvd_mul_left (by rw [← e]; exact Nat.dvd_mul_left _ _)
theorem cross {p q p' q' : Int} (hq : 0 < q) (hq' : 0 < q') (c : Nat.Coprime p.natAbs q.natAbs) (c' : Nat.Coprime p'.natAbs q'.natAbs) (e : p * q' = p' * q) : p = p' ∧ q = q' := by
  have h := nat_cross c c' (by rw [← Int.natAbs_mul, ← Int.natAbs_mul, e])
  have h1 : q.natAbs = q'.natAbs := Nat.dvd_antisymm h.1 h.2
  have h2 : q = q' := by omega
  subst h2
  exact ⟨Int.eq_of_mul_eq_mul_right (by omega) e, rfl⟩
/-- A number with these parts, if they have no common divisor. -/
theorem Low.of {p q : Int} {x : Rat} (hq : 0 < q) (c : Nat.Coprime p.natAbs q.natAbs) (e : p * (x.den : Int) = x.num * q) : Low p q x := by
  have := x.den_pos
  obtain ⟨h1, h2⟩ := cross hq (by omega) c (by rw [Int.natAbs_natCast]; exact x.reduced) e
  exact ⟨h1.symm, h2.symm⟩
theorem Low.eq {p q : Int} {x y : Rat} (h : Low p q x) (h' : Low p q y) : x = y := by
  apply Rat.ext
  · rw [h.num, h'.num]
  · have a := h.den
    have b := h'.den
    omega
theorem add_cross (x y : Rat) : (x + y).num * ((x.den : Int) * y.den) = (x.num * y.den + y.num * x.den) * (x + y).den := by
  have h := Rat.num_divInt_den (x + y)
  rw [Rat.add_def] at h
  have h2 := Rat.num_divInt_den (Rat.normalize (x.num * y.den + y.num * x.den) (x.den * y.den) (Nat.mul_ne_zero x.den_nz y.den_nz))
  have e := (Rat.normalize_eq_iff (n₁ := (x + y).num) (d₁ := (x + y).den) (n₂ := x.num * y.den + y.num * x.den) (d₂ := x.den * y.den) (x + y).den_nz (Nat.mul_ne_zero x.den_nz y.den_nz)).1 (by
    rw [← Rat.add_def]
    exact Rat.normalize_self (x + y))
  rw [Int.natCast_mul] at e
  exact e
theorem mul_cross (x y : Rat) : (x * y).num * ((x.den : Int) * y.den) = x.num * y.num * (x * y).den := by
  have e := (Rat.normalize_eq_iff (n₁ := (x * y).num) (d₁ := (x * y).den) (n₂ := x.num * y.num) (d₂ := x.den * y.den) (x * y).den_nz (Nat.mul_ne_zero x.den_nz y.den_nz)).1 (by
    rw [← Rat.mul_def]
    exact Rat.normalize_self (x * y))
  rw [Int.natCast_mul] at e
  exact e
theorem pos_right {a b : Int} (h : 0 < a * b) (ha : 0 < a) : 0 < b := by
  rcases Int.lt_or_le 0 b with h1 | h1
  · exact h1
  · have := Int.mul_le_mul_of_nonneg_left h1 (Int.le_of_lt ha)
    omega
theorem cop_mul {a b c : Int} (h1 : Nat.Coprime a.natAbs b.natAbs) (h2 : Nat.Coprime a.natAbs c.natAbs) : Nat.Coprime a.natAbs (b * c).natAbs := by
  rw [Int.natAbs_mul]
  exact h1.mul_right h2
theorem cop_of_dvd {a b c d : Int} (h : Nat.Coprime a.natAbs b.natAbs) (h1 : c ∣ a) (h2 : d ∣ b) : Nat.Coprime c.natAbs d.natAbs :=
  (h.coprime_dvd_left (Int.natAbs_dvd_natAbs.2 h1)).coprime_dvd_right (Int.natAbs_dvd_natAbs.2 h2)
/-- What is added with multiples of the divisor leaves common divisors as they are. -/
theorem cop_add {a b k : Int} (h : Nat.Coprime a.natAbs b.natAbs) : Nat.Coprime (a + k * b).natAbs b.natAbs := by
  have : Int.gcd (a + k * b) b = Int.gcd a b := by
    rw [Int.gcd_comm, Int.gcd_comm a]
    apply Nat.dvd_antisymm
    · refine Int.dvd_gcd (Int.gcd_dvd_left ..) ?_
      have d1 : ((Int.gcd b (a + k * b) : Nat) : Int) ∣ (a + k * b) - k * b := Int.dvd_sub (Int.gcd_dvd_right ..) (Int.dvd_trans (Int.gcd_dvd_left ..) (Int.dvd_mul_left _ _))
      have e : (a + k * b) - k * b = a := by omega
      rw [e] at d1
      exact d1
    · exact Int.dvd_gcd (Int.gcd_dvd_left ..) (Int.dvd_add (Int.gcd_dvd_right ..) (Int.dvd_trans (Int.gcd_dvd_left ..) (Int.dvd_mul_left _ _)))
  unfold Nat.Coprime at *
  unfold Int.gcd at this
  rw [this]
  exact h
/-- The parts of a sum, by the divisor of the denominators. -/
theorem sum_low {p1 q1 p2 q2 g q s P h P' g' : Int} {x y : Rat} (hx : Low p1 q1 x) (hy : Low p2 q2 y) (hg0 : 0 < g) (e1 : q1 = g * q) (e2 : q2 = g * s) (cqs : Nat.Coprime q.natAbs s.natAbs) (hP : P = p1 * s + p2 * q)
    (h0 : 0 < h) (e3 : P = h * P') (e4 : g = h * g') (cP : Nat.Coprime P'.natAbs g'.natAbs) : Low P' (q * (g' * s)) (x + y) := by
  have hq1 := hx.pos
  have hq2 := hy.pos
  have hq : 0 < q := by rw [e1] at hq1; exact pos_right hq1 hg0
  have hs : 0 < s := by rw [e2] at hq2; exact pos_right hq2 hg0
  have hg' : 0 < g' := by rw [e4] at hg0; exact pos_right hg0 h0
  have cx := hx.cop
  have cy := hy.cop
  have f1 : Nat.Coprime P.natAbs q.natAbs := by
    rw [hP]
    have : Nat.Coprime (p1 * s).natAbs q.natAbs := by
      apply Nat.Coprime.symm
      exact cop_mul (cop_of_dvd cx (Int.dvd_refl _) (by rw [e1]; exact Int.dvd_mul_left _ _)).symm cqs
    exact cop_add this
  have f2 : Nat.Coprime P.natAbs s.natAbs := by
    rw [hP, Int.add_comm]
    have : Nat.Coprime (p2 * q).natAbs s.natAbs := by
      apply Nat.Coprime.symm
      exact cop_mul (cop_of_dvd cy (Int.dvd_refl _) (by rw [e2]; exact Int.dvd_mul_left _ _)).symm cqs.symm
    exact cop_add this
  have hPd : P' ∣ P := by rw [e3]; exact Int.dvd_mul_left _ _
  refine Low.of (Int.mul_pos hq (Int.mul_pos hg' hs)) ?_ ?_
  · exact cop_mul (cop_of_dvd f1 hPd (Int.dvd_refl _)) (cop_mul cP (cop_of_dvd f2 hPd (Int.dvd_refl _)))
  · have h1 := add_cross x y
    rw [hx.num, hx.den, hy.num, hy.den] at h1
    have hqq : q1 * q2 ≠ 0 := by have := Int.mul_pos hq1 hq2; omega
    apply Int.eq_of_mul_eq_mul_right hqq
    have h2 : (x + y).num * (q * (g' * s)) * (q1 * q2) = (x + y).num * (q1 * q2) * (q * (g' * s)) := by grind
    rw [h2, h1]
    generalize ((x + y).den : Int) = D
    have h3 : p1 * q2 + p2 * q1 = g * P := by rw [e1, e2, hP]; grind
    rw [h3, e3]
    have h4 : q1 * q2 = g * (h * g') * (q * s) := by rw [e1, e2]; rw [← e4]; grind
    rw [h4]
    grind
/-- The parts of a product, by the divisors across. -/
theorem prod_low {p1 q1 p2 q2 g h a b c d : Int} {x y : Rat} (hx : Low p1 q1 x) (hy : Low p2 q2 y) (hg : 0 < g) (hh : 0 < h) (e1 : p1 = g * a) (e2 : q2 = g * b) (e3 : p2 = h * c) (e4 : q1 = h * d)
    (c1 : Nat.Coprime a.natAbs b.natAbs) (c2 : Nat.Coprime c.natAbs d.natAbs) : Low (a * c) (d * b) (x * y) := by
  have hq1 := hx.pos
  have hq2 := hy.pos
  have hb : 0 < b := by rw [e2] at hq2; exact pos_right hq2 hg
  have hd : 0 < d := by rw [e4] at hq1; exact pos_right hq1 hh
  have cx := hx.cop
  have cy := hy.cop
  have k1 : Nat.Coprime a.natAbs d.natAbs := cop_of_dvd cx (by rw [e1]; exact Int.dvd_mul_left _ _) (by rw [e4]; exact Int.dvd_mul_left _ _)
  have k2 : Nat.Coprime c.natAbs b.natAbs := cop_of_dvd cy (by rw [e3]; exact Int.dvd_mul_left _ _) (by rw [e2]; exact Int.dvd_mul_left _ _)
  refine Low.of (Int.mul_pos hd hb) ?_ ?_
  · apply Nat.Coprime.symm
    exact cop_mul (cop_mul k1 c1).symm (cop_mul c2 k2).symm
  · have h1 := mul_cross x y
    rw [hx.num, hx.den, hy.num, hy.den] at h1
    have hqq : q1 * q2 ≠ 0 := by have := Int.mul_pos hq1 hq2; omega
    apply Int.eq_of_mul_eq_mul_right hqq
    have h2 : (x * y).num * (d * b) * (q1 * q2) = (x * y).num * (q1 * q2) * (d * b) := by grind
    rw [h2, h1]
    generalize ((x * y).den : Int) = D
    rw [e1, e2, e3, e4]
    grind
/-- Two numbers, both divided by their greatest common divisor, which is not 0. -/
theorem gcd_parts {a b g : Int} (h : ((Int.gcd a b : Nat) : Int) = g) (h0 : 0 < g) : a = g * (a / g) ∧ b = g * (b / g) ∧ Nat.Coprime (a / g).natAbs (b / g).natAbs := by
  have d1 : g ∣ a := by rw [← h]; exact Int.gcd_dvd_left ..
  have d2 : g ∣ b := by rw [← h]; exact Int.gcd_dvd_right ..
  refine ⟨(Int.mul_ediv_cancel' d1).symm, (Int.mul_ediv_cancel' d2).symm, ?_⟩
  have hg : Int.gcd a b = g.natAbs := by omega
  have h3 : 0 < Int.gcd a b := by omega
  have e1 : (a / g).natAbs = a.natAbs / Int.gcd a b := by rw [hg]; exact Int.natAbs_ediv_of_dvd d1
  have e2 : (b / g).natAbs = b.natAbs / Int.gcd a b := by rw [hg]; exact Int.natAbs_ediv_of_dvd d2
  rw [e1, e2]
  exact Nat.coprime_div_gcd_div_gcd h3
/-- A number that is p / q, in lowest terms. -/
theorem ratio_low {p q g : Int} {z : Rat} (hq : 0 < q) (h : ((Int.gcd p q : Nat) : Int) = g) (e : z.num * q = p * z.den) : Low (p / g) (q / g) z := by
  have h0 : 0 < g := by
    have : 0 < Int.gcd p q := Int.gcd_pos_of_ne_zero_right _ (by omega)
    omega
  obtain ⟨e1, e2, c⟩ := gcd_parts h h0
  have h1 : 0 < q / g := pos_right (by rw [← e2]; exact hq) h0
  refine Low.of h1 c ?_
  have hg : g ≠ 0 := by omega
  apply Int.eq_of_mul_eq_mul_left hg
  have e3 : g * (p / g * (z.den : Int)) = p * z.den := by rw [← Int.mul_assoc, ← e1]
  have e4 : g * (z.num * (q / g)) = z.num * q := by
    have : g * (z.num * (q / g)) = z.num * (g * (q / g)) := by
      generalize q / g = k
      grind
    rw [this, ← e2]
  rw [e3, e4, e]
theorem sum_ratio {p1 q1 p2 q2 : Int} {x y : Rat} (hx : Low p1 q1 x) (hy : Low p2 q2 y) : (x + y).num * (q1 * q2) = (p1 * q2 + p2 * q1) * (x + y).den := by
  have h := add_cross x y
  rwa [hx.num, hx.den, hy.num, hy.den] at h
theorem prod_ratio {p1 q1 p2 q2 : Int} {x y : Rat} (hx : Low p1 q1 x) (hy : Low p2 q2 y) : (x * y).num * (q1 * q2) = p1 * p2 * (x * y).den := by
  have h := mul_cross x y
  rwa [hx.num, hx.den, hy.num, hy.den] at h
theorem Low.neg {p q : Int} {x : Rat} (h : Low p q x) : Low (-p) q (-x) := ⟨by rw [Rat.neg_num, h.num], by rw [Rat.neg_den]; exact h.den⟩
/-- How two numbers stand to each other. -/
def ordR (x y : Rat) : Int := if x < y then -1 else if x = y then 0 else 1
theorem ordR_cross {p1 q1 p2 q2 : Int} {x y : Rat} (hx : Low p1 q1 x) (hy : Low p2 q2 y) : (p1 * q2 < p2 * q1 ∧ ordR x y = -1) ∨ (p1 * q2 = p2 * q1 ∧ ordR x y = 0) ∨ (p2 * q1 < p1 * q2 ∧ ordR x y = 1) := by
  have hl := Rat.lt_iff x y
  rw [hx.num, hx.den, hy.num, hy.den] at hl
  unfold ordR
  by_cases h : x < y
  · exact .inl ⟨hl.1 h, by rw [if_pos h]⟩
  · rw [if_neg h]
    have h2 : ¬ p1 * q2 < p2 * q1 := fun e => h (hl.2 e)
    by_cases h3 : x = y
    · subst h3
      have a := hx.num.symm.trans hy.num
      have b := hx.den.symm.trans hy.den
      subst a b
      exact .inr (.inl ⟨rfl, by rw [if_pos rfl]⟩)
    · refine .inr (.inr ⟨?_, by rw [if_neg h3]⟩)
      rcases Int.lt_trichotomy (p1 * q2) (p2 * q1) with h4 | h4 | h4
      · exact absurd h4 h2
      · exact absurd (Low.eq hx ⟨hy.num.trans (cross hx.pos hy.pos hx.cop hy.cop h4).1.symm, hy.den.trans (cross hx.pos hy.pos hx.cop hy.cop h4).2.symm⟩) h3
      · exact h4
theorem Low.inv {p q : Int} {x : Rat} (h : Low p q x) (hp : 0 < p) : Low q p x⁻¹ := by
  have hx : x ≠ 0 := by
    intro e
    have := h.num
    rw [e] at this
    have h0 : (0 : Rat).num = 0 := rfl
    omega
  have h1 := mul_cross x x⁻¹
  rw [Rat.mul_inv_cancel x hx, h.num, h.den] at h1
  have e1 : (1 : Rat).num = 1 := rfl
  have e2 : (1 : Rat).den = 1 := rfl
  rw [e1, e2] at h1
  refine Low.of hp h.cop.symm ?_
  have := h1
  simp only [Int.one_mul, Int.natCast_one, Int.mul_one] at this
  rw [this, Int.mul_comm]
end Go.Proofs.YtikfjmdeeknalaaGreatDoor
