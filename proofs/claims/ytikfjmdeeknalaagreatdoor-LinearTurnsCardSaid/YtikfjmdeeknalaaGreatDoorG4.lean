/- Lehmer's leaps in Euclid's algorithm, plainly: the state of a leap, when a step is certain, and what a leap leads to. No condition but those that each theorem states. -/
import Derived.Test.YtikfjmdeeknalaaGreatDoorBm
namespace Go.Proofs.YtikfjmdeeknalaaGreatDoor
set_option maxRecDepth 8000

/-- A leap by the sizes of its numbers; s: the sign of the first. -/
structure LeapSt (x0 y0 s U0 V0 U1 V1 x y : Int) : Prop where
  hs : s = 1 ∨ s = -1
  hU0 : 0 ≤ U0
  hV0 : 0 ≤ V0
  hU1 : 0 ≤ U1
  hV1 : 1 ≤ V1
  det : U0 * V1 - U1 * V0 = s
  ex : x = s * (U0 * x0 - V0 * y0)
  ey : y = s * (V1 * y0 - U1 * x0)
  le : U1 ≤ V1
  mo : V0 ≤ V1
  alt : (U0 = 1 ∧ V0 = 0 ∧ U1 = 0 ∧ V1 = 1) ∨ (U0 ≤ V0 ∧ 1 ≤ V0)
  y0' : 0 ≤ y
  yx : y ≤ x
theorem LeapSt.start {x0 y0 : Int} (h0 : 0 ≤ y0) (h1 : y0 ≤ x0) : LeapSt x0 y0 1 1 0 0 1 x0 y0 :=
  ⟨.inl rfl, by omega, by omega, by omega, by omega, by omega, by omega, by omega, by omega, by omega, .inl ⟨rfl, rfl, rfl, rfl⟩, h0, h1⟩
theorem LeapSt.id {x0 y0 s U0 V0 U1 V1 x y : Int} (h : LeapSt x0 y0 s U0 V0 U1 V1 x y) : V1 * x + V0 * y = x0 := by
  have e1 := h.ex
  have e2 := h.ey
  have e3 := h.det
  have e4 : s * s = 1 := by rcases h.hs with e | e <;> rw [e] <;> rfl
  rw [e1, e2]
  have : V1 * (s * (U0 * x0 - V0 * y0)) + V0 * (s * (V1 * y0 - U1 * x0)) = s * (U0 * V1 - U1 * V0) * x0 := by grind
  rw [this, e3, e4, Int.one_mul]
/-- One step. -/
theorem LeapSt.step {x0 y0 s U0 V0 U1 V1 x y : Int} (h : LeapSt x0 y0 s U0 V0 U1 V1 x y) (hy : 0 < y) :
    LeapSt x0 y0 (-s) U1 V1 (U0 + x / y * U1) (V0 + x / y * V1) y (x - x / y * y) ∧ x - x / y * y < y ∧ 1 ≤ x / y := by
  have q1 : 1 ≤ x / y := by
    rw [Int.le_ediv_iff_mul_le hy]
    have := h.yx
    omega
  have hm := Int.emod_nonneg x (show y ≠ 0 by omega)
  have hm2 := Int.emod_lt_of_pos x hy
  have hd : x - x / y * y = x % y := by
    have := Int.mul_ediv_add_emod x y
    have e : y * (x / y) = x / y * y := Int.mul_comm _ _
    omega
  obtain ⟨r, hr⟩ : ∃ r, r = x % y := ⟨_, rfl⟩
  rw [← hr] at hm hm2 hd
  clear hr
  have e1 := h.ex
  have e2 := h.ey
  have e3 := h.det
  generalize x / y = q at *
  have p1 : 0 ≤ q * U1 := Int.mul_nonneg (by omega) h.hU1
  have p2 : V1 ≤ q * V1 := by
    have := Int.mul_le_mul_of_nonneg_right q1 (show 0 ≤ V1 by have := h.hV1; omega)
    omega
  have p3 : q * U1 ≤ q * V1 := Int.mul_le_mul_of_nonneg_left h.le (by omega)
  have a1 := h.hU0
  have a2 := h.hV0
  have a3 := h.hU1
  have a4 := h.hV1
  have a5 := h.le
  have a6 := h.alt
  have a7 := h.mo
  have a8 : U0 + q * U1 ≤ V0 + q * V1 := by
    rcases a6 with ⟨g1, g2, g3, g4⟩ | ⟨g1, -⟩
    · rw [g1, g2, g3, g4]; omega
    · omega
  refine ⟨⟨by rcases h.hs with e | e <;> omega, a3, by omega, by omega, by omega, by grind, ?_, ?_, by omega, by omega, .inr ⟨a5, a4⟩, by omega, by omega⟩, by omega, q1⟩
  · rw [e2]; grind
  · rw [e1, e2]; grind
/-- The sizes stay below the first number. -/
theorem LeapSt.bound {x0 y0 s U0 V0 U1 V1 x y : Int} (h : LeapSt x0 y0 s U0 V0 U1 V1 x y) (hx : 0 < x) : V1 ≤ x0 ∧ V1 * x ≤ x0 := by
  have h1 := h.id
  have h2 := Int.mul_nonneg h.hV0 h.y0'
  have h3 : V1 * 1 ≤ V1 * x := Int.mul_le_mul_of_nonneg_left (by omega) (by have := h.hV1; omega)
  omega
/-- Two numbers with the leading bits x0 and y0. -/
structure Lead (A B T S x0 y0 : Int) : Prop where
  hT : 0 < T
  hS : 0 < S
  a0 : x0 * S ≤ A * T
  a1 : A * T < (x0 + 1) * S
  b0 : y0 * S ≤ B * T
  b1 : B * T < (y0 + 1) * S
theorem dev {c d r t S M : Int} (hc : 0 ≤ c) (hd : 0 ≤ d) (hcM : c ≤ M) (hdM : d ≤ M) (hr0 : 0 ≤ r) (hr : r < S) (ht0 : 0 ≤ t) (ht : t < S) : -(M * S) + M ≤ c * r - d * t ∧ c * r - d * t ≤ M * S - M := by
  have h1 := Int.mul_nonneg hc hr0
  have h2 := Int.mul_nonneg hd ht0
  have h3 : c * r ≤ M * (S - 1) := Int.mul_le_mul hcM (by omega) hr0 (by omega)
  have h4 : d * t ≤ M * (S - 1) := Int.mul_le_mul hdM (by omega) ht0 (by omega)
  have h5 : M * (S - 1) = M * S - M := by grind
  omega
theorem pos_of_mul {a T : Int} (hT : 0 < T) (h : 0 < a * T) : 0 < a := by
  rcases Int.lt_or_le 0 a with h1 | h1
  · exact h1
  · have := Int.mul_le_mul_of_nonneg_right h1 (Int.le_of_lt hT)
    omega
/-- A step that is certain: the numbers are those of Euclid's algorithm, and become less. -/
theorem LeapSt.sure {A B T S x0 y0 s U0 V0 U1 V1 x y : Int} (h : LeapSt x0 y0 s U0 V0 U1 V1 x y) (L : Lead A B T S x0 y0) (hU : U0 ≤ V0) (c1 : V1 ≤ y) (c2 : V1 + V0 ≤ x - y) :
    0 < s * (V1 * B - U1 * A) ∧ s * (V1 * B - U1 * A) < s * (U0 * A - V0 * B) := by
  obtain ⟨r, hr⟩ : ∃ r, r = A * T - x0 * S := ⟨_, rfl⟩
  obtain ⟨t, ht⟩ : ∃ t, t = B * T - y0 * S := ⟨_, rfl⟩
  have hr0 : 0 ≤ r := by have := L.a0; omega
  have ht0 : 0 ≤ t := by have := L.b0; omega
  have ea : (x0 + 1) * S = x0 * S + S := by grind
  have eb : (y0 + 1) * S = y0 * S + S := by grind
  have hr1 : r < S := by have := L.a1; omega
  have ht1 : t < S := by have := L.b1; omega
  have d1 := dev (c := V1) (d := U1) (M := V1) (by have := h.hV1; omega) h.hU1 (Int.le_refl _) h.le ht0 ht1 hr0 hr1
  have d2 := dev (c := U0 + U1) (d := V0 + V1) (M := V0 + V1) (by have := h.hU0; have := h.hU1; omega) (by have := h.hV0; have := h.hV1; omega) (by have := h.le; omega) (Int.le_refl _) hr0 hr1 ht0 ht1
  have h1 := h.hV1
  have h2 := h.hV0
  have hS := L.hS
  have m1 : V1 * S ≤ y * S := Int.mul_le_mul_of_nonneg_right c1 (by omega)
  have m2 : (V1 + V0) * S ≤ (x - y) * S := Int.mul_le_mul_of_nonneg_right c2 (by omega)
  have ex := h.ex
  have ey := h.ey
  have hA : A * T = x0 * S + r := by omega
  have hB : B * T = y0 * S + t := by omega
  have m3 : (V1 + V0) * S = (V0 + V1) * S := by grind
  constructor
  · apply pos_of_mul L.hT
    have e : s * (V1 * B - U1 * A) * T = s * (V1 * (B * T) - U1 * (A * T)) := by grind
    rw [e, hA, hB]
    rcases h.hs with hs | hs
    · have e2 : s * (V1 * (y0 * S + t) - U1 * (x0 * S + r)) = y * S + (V1 * t - U1 * r) := by rw [ey, hs]; grind
      omega
    · have e2 : s * (V1 * (y0 * S + t) - U1 * (x0 * S + r)) = y * S - (V1 * t - U1 * r) := by rw [ey, hs]; grind
      omega
  · have key : 0 < s * (U0 * A - V0 * B) - s * (V1 * B - U1 * A) := by
      apply pos_of_mul L.hT
      have e : (s * (U0 * A - V0 * B) - s * (V1 * B - U1 * A)) * T = s * ((U0 + U1) * (A * T) - (V0 + V1) * (B * T)) := by grind
      rw [e, hA, hB]
      rcases h.hs with hs | hs
      · have e2 : s * ((U0 + U1) * (x0 * S + r) - (V0 + V1) * (y0 * S + t)) = (x - y) * S + ((U0 + U1) * r - (V0 + V1) * t) := by rw [ex, ey, hs]; grind
        omega
      · have e2 : s * ((U0 + U1) * (x0 * S + r) - (V0 + V1) * (y0 * S + t)) = (x - y) * S - ((U0 + U1) * r - (V0 + V1) * t) := by rw [ex, ey, hs]; grind
        omega
    omega
/-- What a leap leads to, at two numbers: nothing has been done, or both are later numbers of the algorithm. -/
def LeapTo (A B u0 v0 u1 v1 : Int) : Prop :=
  (v0 = 0 ∧ u0 = 1 ∧ u1 = 0 ∧ v1 = 1) ∨ (v0 ≠ 0 ∧ 0 ≤ u1 * A + v1 * B ∧ u1 * A + v1 * B < u0 * A + v0 * B ∧ u0 * A + v0 * B ≤ B)
/-- The next leap is as good. -/
theorem LeapSt.next {A B T S x0 y0 s U0 V0 U1 V1 x y : Int} (h : LeapSt x0 y0 s U0 V0 U1 V1 x y) (L : Lead A B T S x0 y0) (hy : 0 < y)
    (c1 : V0 + x / y * V1 ≤ x - x / y * y) (c2 : V0 + x / y * V1 + V1 ≤ y - (x - x / y * y)) (hl : LeapTo A B (s * U0) (-(s * V0)) (-(s * U1)) (s * V1)) :
    LeapTo A B (-(s * U1)) (s * V1) (s * (U0 + x / y * U1)) (-(s * (V0 + x / y * V1))) := by
  obtain ⟨h2, -, -⟩ := h.step hy
  obtain ⟨k1, k2⟩ := h2.sure L h.le c1 c2
  have hne : s * V1 ≠ 0 := by
    have := h.hV1
    rcases h.hs with e | e <;> rw [e] <;> omega
  refine .inr ⟨hne, ?_, ?_, ?_⟩
  · have e : s * (U0 + x / y * U1) * A + -(s * (V0 + x / y * V1)) * B = -s * ((V0 + x / y * V1) * B - (U0 + x / y * U1) * A) := by
      generalize x / y = q
      grind
    omega
  · have e : s * (U0 + x / y * U1) * A + -(s * (V0 + x / y * V1)) * B = -s * ((V0 + x / y * V1) * B - (U0 + x / y * U1) * A) := by
      generalize x / y = q
      grind
    have e2 : -(s * U1) * A + s * V1 * B = -s * (U1 * A - V1 * B) := by grind
    omega
  · rcases hl with ⟨-, -, g1, g2⟩ | ⟨-, g1, g2, g3⟩
    · rw [g1, g2]; omega
    · omega
end Go.Proofs.YtikfjmdeeknalaaGreatDoor

/- Leading bits, sums of multiples digit by digit, and divisors of such sums, plainly. No condition but those that each theorem states. -/
namespace Go.Proofs.YtikfjmdeeknalaaGreatDoor
set_option maxRecDepth 8000

theorem dvd_lin {g A B : Nat} {x u v : Int} (h1 : g ∣ A) (h2 : g ∣ B) (e : x = u * (A : Int) + v * (B : Int)) : (g : Int) ∣ x := by
  rw [e]
  exact Int.dvd_add (Int.dvd_trans (Int.natCast_dvd_natCast.2 h1) (Int.dvd_mul_left _ _)) (Int.dvd_trans (Int.natCast_dvd_natCast.2 h2) (Int.dvd_mul_left _ _))
/-- A leap keeps the greatest common divisor. -/
theorem gcd_lin {A B a b : Nat} {u0 v0 u1 v1 : Int} (ha : (a : Int) = u0 * A + v0 * B) (hb : (b : Int) = u1 * A + v1 * B) (det : u0 * v1 - u1 * v0 = 1 ∨ u0 * v1 - u1 * v0 = -1) : Nat.gcd a b = Nat.gcd A B := by
  apply Nat.dvd_antisymm
  · have g1 := Nat.gcd_dvd_left a b
    have g2 := Nat.gcd_dvd_right a b
    have eA : v1 * (u0 * (A : Int) + v0 * B) + -v0 * (u1 * A + v1 * B) = (u0 * v1 - u1 * v0) * A := by grind
    have eB : -u1 * (u0 * (A : Int) + v0 * B) + u0 * (u1 * A + v1 * B) = (u0 * v1 - u1 * v0) * B := by grind
    have fA : -v1 * (u0 * (A : Int) + v0 * B) + v0 * (u1 * A + v1 * B) = -(u0 * v1 - u1 * v0) * A := by grind
    have fB : u1 * (u0 * (A : Int) + v0 * B) + -u0 * (u1 * A + v1 * B) = -(u0 * v1 - u1 * v0) * B := by grind
    rw [← ha, ← hb] at eA eB fA fB
    rcases det with e | e
    · rw [e] at eA eB
      exact Nat.dvd_gcd (Int.natCast_dvd_natCast.1 (dvd_lin g1 g2 (by rw [eA]; omega))) (Int.natCast_dvd_natCast.1 (dvd_lin g1 g2 (by rw [eB]; omega)))
    · rw [e] at fA fB
      exact Nat.dvd_gcd (Int.natCast_dvd_natCast.1 (dvd_lin g1 g2 (by rw [fA]; omega))) (Int.natCast_dvd_natCast.1 (dvd_lin g1 g2 (by rw [fB]; omega)))
  · have g1 := Nat.gcd_dvd_left A B
    have g2 := Nat.gcd_dvd_right A B
    exact Nat.dvd_gcd (Int.natCast_dvd_natCast.1 (dvd_lin g1 g2 ha)) (Int.natCast_dvd_natCast.1 (dvd_lin g1 g2 hb))
/-- A digit, or 0 behind the end. -/
def dg (l : List Nat) (i : Nat) : Nat := l.getD i 0
theorem dg_at {l : List Nat} {i d : Nat} (h : l[i]? = some d) : dg l i = d := by simp [dg, List.getD, h]
theorem dg_out {l : List Nat} {i : Nat} (h : l.length ≤ i) : dg l i = 0 := by simp [dg, List.getD, List.getElem?_eq_none h]
theorem dg_lt {l : List Nat} (h : Sml l) (i : Nat) : dg l i < 1048576 := by
  rcases Nat.lt_or_ge i l.length with hlt | hge
  · rw [dg_at (List.getElem?_eq_getElem hlt)]; exact h _ (List.getElem_mem hlt)
  · rw [dg_out hge]; omega
theorem dval_take_dg (l : List Nat) (i : Nat) : dval (l.take (i + 1)) = dval (l.take i) + 1048576 ^ i * dg l i := by
  rcases Nat.lt_or_ge i l.length with hlt | hge
  · rw [List.take_succ_eq_append_getElem hlt, dval_snoc, dg_at (List.getElem?_eq_getElem hlt), List.length_take, Nat.min_eq_left (by omega)]
  · rw [List.take_of_length_le (by omega), List.take_of_length_le hge, dg_out hge]; omega
/-- Multiples of two numbers, added up digit by digit. -/
structure LinSt (u v : Int) (a b : List Nat) (i : Nat) (out : List Nat) (c : Int) : Prop where
  len : out.length = i
  sml : Sml out
  eq : (dval out : Int) + (1048576 ^ i : Nat) * c = u * dval (a.take i) + v * dval (b.take i)
  lo : -4294967296 ≤ c
  hi : c ≤ 4294967296
theorem LinSt.new (u v : Int) (a b : List Nat) : LinSt u v a b 0 [] 0 := ⟨rfl, Sml.nil, by simp [dval], by omega, by omega⟩
theorem mul_bd {u : Int} {x : Int} (h1 : -1073741824 ≤ u) (h2 : u ≤ 1073741824) (h3 : 0 ≤ x) (h4 : x ≤ 1048575) : -1125898833100800 ≤ u * x ∧ u * x ≤ 1125898833100800 := by
  have a1 : u * x ≤ 1073741824 * x := Int.mul_le_mul_of_nonneg_right h2 h3
  have a2 : -1073741824 * x ≤ u * x := Int.mul_le_mul_of_nonneg_right h1 h3
  omega
theorem LinSt.step {u v c : Int} {a b out : List Nat} {i : Nat} (h : LinSt u v a b i out c) (hu0 : -1073741824 ≤ u) (hu1 : u ≤ 1073741824) (hv0 : -1073741824 ≤ v) (hv1 : v ≤ 1073741824) (sa : Sml a) (sb : Sml b) :
    LinSt u v a b (i + 1) (out ++ [((c + (u * (dg a i : Nat) + v * (dg b i : Nat))) % 1048576).toNat]) ((c + (u * (dg a i : Nat) + v * (dg b i : Nat))) / 1048576) := by
  have hx := dg_lt sa i
  have hy := dg_lt sb i
  have b1 := mul_bd hu0 hu1 (show 0 ≤ ((dg a i : Nat) : Int) by omega) (by omega)
  have b2 := mul_bd hv0 hv1 (show 0 ≤ ((dg b i : Nat) : Int) by omega) (by omega)
  have e := h.eq
  have l1 := h.lo
  have l2 := h.hi
  obtain ⟨t, ht⟩ : ∃ t, t = c + (u * (dg a i : Nat) + v * (dg b i : Nat)) := ⟨_, rfl⟩
  rw [← ht]
  have hm0 := Int.emod_nonneg t (show (1048576 : Int) ≠ 0 by decide)
  have hm1 := Int.emod_lt_of_pos t (show (0 : Int) < 1048576 by decide)
  have hd := Int.mul_ediv_add_emod t 1048576
  refine ⟨by rw [List.length_append, h.len]; rfl, Sml.app.2 ⟨h.sml, fun d hd => ?_⟩, ?_, by omega, by omega⟩
  · obtain rfl := List.mem_singleton.1 hd
    omega
  · rw [dval_snoc, h.len, dval_take_dg, dval_take_dg, Nat.pow_succ]
    have hc : (((t % 1048576).toNat : Nat) : Int) = t % 1048576 := Int.toNat_of_nonneg hm0
    generalize t % 1048576 = r at hd hc ⊢
    generalize t / 1048576 = q at hd ⊢
    generalize (1048576 ^ i : Nat) = P at e ⊢
    simp only [Int.natCast_add, Int.natCast_mul, hc, show ((1048576 : Nat) : Int) = 1048576 from rfl]
    clear hc
    generalize (dval (a.take i) : Int) = X at e ⊢
    generalize (dval (b.take i) : Int) = Y at e ⊢
    generalize (dval out : Int) = Z at e ⊢
    generalize ((dg a i : Nat) : Int) = x at *
    generalize ((dg b i : Nat) : Int) = y at *
    grind
theorem LinSt.done {u v c : Int} {a b out : List Nat} {n m V : Nat} (h : LinSt u v a b n out c) (hn : a.length = n) (hb : b.length ≤ n) (hV : (V : Int) = u * dval a + v * dval b) (hm : m ≤ n) (hlt : V < 1048576 ^ m) : dval (out.take m) = V ∧ Sml (out.take m) := by
  have e := h.eq
  rw [List.take_of_length_le (by omega), List.take_of_length_le hb, ← hV] at e
  have h1 := dval_lt h.sml
  rw [h.len] at h1
  have hp : 1048576 ^ m ≤ 1048576 ^ n := Nat.pow_le_pow_right (by decide) hm
  generalize hP : (1048576 ^ n : Nat) = P at *
  have hc : c = 0 := by
    rcases Int.lt_trichotomy c 0 with h2 | h2 | h2
    · have := Int.mul_le_mul_of_nonneg_left (show c ≤ -1 by omega) (show 0 ≤ (P : Int) by omega)
      omega
    · exact h2
    · have := Int.mul_le_mul_of_nonneg_left (show 1 ≤ c by omega) (show 0 ≤ (P : Int) by omega)
      omega
  subst hc
  have e2 : dval out = V := by omega
  refine ⟨?_, h.sml.take m⟩
  have e3 : dval out = dval (out.take m) + 1048576 ^ m * dval (out.drop m) := by
    have := dval_app (out.take m) (out.drop m)
    rw [List.take_append_drop, List.length_take, h.len, Nat.min_eq_left hm] at this
    exact this
  rcases Nat.eq_zero_or_pos (dval (out.drop m)) with h0 | h0
  · rw [h0] at e3; omega
  · have := Nat.mul_le_mul_left (1048576 ^ m) (show 1 ≤ dval (out.drop m) by omega)
    omega
theorem dval4 {e : List Nat} (h : e.length ≤ 4) : dval e = dg e 0 + 1048576 * (dg e 1 + 1048576 * (dg e 2 + 1048576 * dg e 3)) := by
  match e, h with
  | [], _ => rfl
  | [a], _ => simp [dval, dg]
  | [a, b], _ => simp [dval, dg]
  | [a, b, c], _ => simp [dval, dg]
  | [a, b, c, d], _ => simp [dval, dg]
theorem dg_drop (l : List Nat) (k i : Nat) : dg (l.drop k) i = dg l (k + i) := by simp [dg, List.getD, List.getElem?_drop]
/-- The three highest digits, and all leading bits. -/
def topP (d : List Nat) (n : Nat) : Nat := (dg d (n - 1) * 1048576 + dg d (n - 2)) * 1048576 + dg d (n - 3)
def leadP (d : List Nat) (n y : Nat) : Nat := topP d n * 2 ^ y + dg d (n - 4) / 2 ^ (20 - y)
theorem lead_sure {d : List Nat} {n y : Nat} (hd : d.length ≤ n) (hn : 4 ≤ n) (hy : y ≤ 20) (hs : Sml d) :
    leadP d n y * 1048576 ^ (n - 3) ≤ dval d * 2 ^ y ∧ dval d * 2 ^ y < (leadP d n y + 1) * 1048576 ^ (n - 3) := by
  obtain ⟨k, rfl⟩ : ∃ k, n = k + 4 := ⟨n - 4, by omega⟩
  have e1 : dval d = dval (d.take k) + 1048576 ^ k * dval (d.drop k) := by
    rcases Nat.le_total k d.length with h | h
    · have := dval_app (d.take k) (d.drop k)
      rw [List.take_append_drop, List.length_take, Nat.min_eq_left h] at this
      exact this
    · rw [List.take_of_length_le h, List.drop_of_length_le h]; simp [dval]
  have e2 := dval4 (e := d.drop k) (by rw [List.length_drop]; omega)
  rw [dg_drop, dg_drop, dg_drop, dg_drop] at e2
  have h1 : dval (d.take k) < 1048576 ^ k := by
    have h := dval_lt (hs.take k)
    have h2 : 1048576 ^ (d.take k).length ≤ 1048576 ^ k := Nat.pow_le_pow_right (by decide) (by rw [List.length_take]; omega)
    omega
  have hH : 2 ^ (20 - y) * 2 ^ y = 1048576 := by rw [← Nat.pow_add, show 20 - y + y = 20 by omega]
  have hT : 0 < 2 ^ y := Nat.pow_pos (by decide)
  have hHp : 0 < 2 ^ (20 - y) := Nat.pow_pos (by decide)
  have q1 := Nat.div_add_mod (dg d k) (2 ^ (20 - y))
  have q2 := Nat.mod_lt (dg d k) hHp
  unfold leadP topP
  rw [show k + 4 - 3 = k + 1 by omega, show k + 4 - 4 = k by omega, show k + 4 - 1 = k + 3 by omega, show k + 4 - 2 = k + 2 by omega, Nat.pow_succ]
  rw [e1, e2, Nat.add_zero]
  generalize dg d k / 2 ^ (20 - y) = hi at *
  generalize dg d k % 2 ^ (20 - y) = lo at *
  generalize dg d k = x0 at *
  generalize dg d (k + 1) = x1
  generalize dg d (k + 2) = x2
  generalize dg d (k + 3) = x3
  generalize (1048576 ^ k : Nat) = P at *
  generalize dval (d.take k) = low at *
  generalize (2 ^ y : Nat) = T at *
  generalize (2 ^ (20 - y) : Nat) = H at *
  have key : (low + P * (x0 + 1048576 * (x1 + 1048576 * (x2 + 1048576 * x3)))) * T = (((x3 * 1048576 + x2) * 1048576 + x1) * T + hi) * (P * 1048576) + (low * T + P * (lo * T)) := by
    have : P * 1048576 = P * (H * T) := by rw [hH]
    rw [← q1]
    have e3 : (((x3 * 1048576 + x2) * 1048576 + x1) * T + hi) * (P * 1048576) = ((x3 * 1048576 + x2) * 1048576 + x1) * T * (P * 1048576) + hi * (P * (H * T)) := by rw [hH]; grind
    rw [e3]
    grind
  have b1 : low * T + P * (lo * T) < P * 1048576 := by
    have c1 : low * T < P * T := Nat.mul_lt_mul_of_pos_right h1 hT
    have c2 : (lo + 1) * T ≤ H * T := Nat.mul_le_mul_right T q2
    have c3 : P * ((lo + 1) * T) ≤ P * (H * T) := Nat.mul_le_mul_left P c2
    rw [hH] at c3
    have c4 : P * ((lo + 1) * T) = P * (lo * T) + P * T := by grind
    omega
  rw [key]
  constructor
  · exact Nat.le_add_right _ _
  · rw [Nat.add_mul _ 1, Nat.one_mul]
    exact Nat.add_lt_add_left b1 _
end Go.Proofs.YtikfjmdeeknalaaGreatDoor
