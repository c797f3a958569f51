/- Leading bits, sums of multiples digit by digit, and divisors of such sums, plainly. No condition but those that each theorem states. -/
import Derived.Test.YtoocdokhljpokaaDoorBp
import Derived.Test.YtoocdokhljpokaaDoorG3
namespace Go.Proofs.YtoocdokhljpokaaDoor
set_option maxRecDepth 8000

theorem dvd_lin {g A B : Nat} {x u v : Int} (h1 : g ∣ A) (h2 : g ∣ B) (e : x = u * (A : Int) + v * (B : Int)) : (g : Int) ∣ x := by
  rw [e]
  exact Int.dvd_add (Int.dvd_trans (Int.natCast_dvd_natCast.2 h1) (Int.dvd_mul_left _ _)) (Int.dvd_trans (Int.natCast_dvd_natCast.2 h2) (Int.dvd_mul_left _ _))
/-- A leap keeps the greatest common divisor. -/
theorem gcd_lin {A B a b : Nat} {u0 v0 u1 v1 : Int} (ha : (a : Int) = u0 * A + v0 * B) (hb : (b : Int) = u1 * A + v1 * B) (det : u0 * v1 - u1 * v0 = 1 ∨ u0 * v1 - u1 * v0 = -1) : Nat.gcd a b = Nat.gcd A B := by
  apply Nat.dvd_antisymm
  · have g1 := Nat.gcd_dvd_left a b
    have g2 := Nat.gcd_dvd_right a b
    have eA : v1 * (u0 * (A : Int) + v0 * B) + -v0 * (u1 * A + v1 * B) = (u0 * v1 - u1 * v0) * A := by grind
    have eB : -u1 * (u0 * (A : Int) + v0 * B) + u0 * (u1 * A + v1 * B) = (u0 * v1 - u1 * v0) * B := by grind
    have fA : -v1 * (u0 * (A : Int) + v0 * B) + v0 * (u1 * A + v1 * B) = -(u0 * v1 - u1 * v0) * A := by grind
    have fB : u1 * (u0 * (A : Int) + v0 * B) + -u0 * (u1 * A + v1 * B) = -(u0 * v1 - u1 * v0) * B := by grind
    rw [← ha, ← hb] at eA eB fA fB
    rcases det with e | e
    · rw [e] at eA eB
      exact Nat.dvd_gcd (Int.natCast_dvd_natCast.1 (dvd_lin g1 g2 (by rw [eA]; omega))) (Int.natCast_dvd_natCast.1 (dvd_lin g1 g2 (by rw [eB]; omega)))
    · rw [e] at fA fB
      exact Nat.dvd_gcd (Int.natCast_dvd_natCast.1 (dvd_lin g1 g2 (by rw [fA]; omega))) (Int.natCast_dvd_natCast.1 (dvd_lin g1 g2 (by rw [fB]; omega)))
  · have g1 := Nat.gcd_dvd_left A B
    have g2 := Nat.gcd_dvd_right A B
    exact Nat.dvd_gcd (Int.natCast_dvd_natCast.1 (dvd_lin g1 g2 ha)) (Int.natCast_dvd_natCast.1 (dvd_lin g1 g2 hb))
/-- A digit, or 0 behind the end. -/
def dg (l : List Nat) (i : Nat) : Nat := l.getD i 0
theorem dg_at {l : List Nat} {i d : Nat} (h : l[i]? = some d) : dg l i = d := by simp [dg, List.getD, h]
theorem dg_out {l : List Nat} {i : Nat} (h : l.length ≤ i) : dg l i = 0 := by simp [dg, List.getD, List.getElem?_eq_none h]
theorem dg_lt {l : List Nat} (h : Sml l) (i : Nat) : dg l i < 1048576 := by
  rcases Nat.lt_or_ge i l.length with hlt | hge
  · rw [dg_at (List.getElem?_eq_getElem hlt)]; exact h _ (List.getElem_mem hlt)
  · rw [dg_out hge]; omega
theorem dval_take_dg (l : List Nat) (i : Nat) : dval (l.take (i + 1)) = dval (l.take i) + 1048576 ^ i * dg l i := by
  rcases Nat.lt_or_ge i l.length with hlt | hge
  · rw [List.take_succ_eq_append_getElem hlt, dval_snoc, dg_at (List.getElem?_eq_getElem hlt), List.length_take, Nat.min_eq_left (by omega)]
  · rw [List.take_of_length_le (by omega), List.take_of_length_le hge, dg_out hge]; omega
/-- Multiples of two numbers, added up digit by digit. -/
structure LinSt (u v : Int) (a b : List Nat) (i : Nat) (out : List Nat) (c : Int) : Prop where
  len : out.length = i
  sml : Sml out
  eq : (dval out : Int) + (1048576 ^ i : Nat) * c = u * dval (a.take i) + v * dval (b.take i)
  lo : -4294967296 ≤ c
  hi : c ≤ 4294967296
theorem LinSt.new (u v : Int) (a b : List Nat) : LinSt u v a b 0 [] 0 := ⟨rfl, Sml.nil, by simp [dval], by omega, by omega⟩
theorem mul_bd {u : Int} {x : Int} (h1 : -1073741824 ≤ u) (h2 : u ≤ 1073741824) (h3 : 0 ≤ x) (h4 : x ≤ 1048575) : -1125898833100800 ≤ u * x ∧ u * x ≤ 1125898833100800 := by
  have a1 : u * x ≤ 1073741824 * x := Int.mul_le_mul_of_nonneg_right h2 h3
  have a2 : -1073741824 * x ≤ u * x := Int.mul_le_mul_of_nonneg_right h1 h3
  omega
theorem LinSt.step {u v c : Int} {a b out : List Nat} {i : Nat} (h : LinSt u v a b i out c) (hu0 : -1073741824 ≤ u) (hu1 : u ≤ 1073741824) (hv0 : -1073741824 ≤ v) (hv1 : v ≤ 1073741824) (sa : Sml a) (sb : Sml b) :
    LinSt u v a b (i + 1) (out ++ [((c + (u * (dg a i : Nat) + v * (dg b i : Nat))) % 1048576).toNat]) ((c + (u * (dg a i : Nat) + v * (dg b i : Nat))) / 1048576) := by
  have hx := dg_lt sa i
  have hy := dg_lt sb i
  have b1 := mul_bd hu0 hu1 (show 0 ≤ ((dg a i : Nat) : Int) by omega) (by omega)
  have b2 := mul_bd hv0 hv1 (show 0 ≤ ((dg b i : Nat) : Int) by omega) (by omega)
  have e := h.eq
  have l1 := h.lo
  have l2 := h.hi
  obtain ⟨t, ht⟩ : ∃ t, t = c + (u * (dg a i : Nat) + v * (dg b i : Nat)) := ⟨_, rfl⟩
  rw [← ht]
  have hm0 := Int.emod_nonneg t (show (1048576 : Int) ≠ 0 by decide)
  have hm1 := Int.emod_lt_of_pos t (show (0 : Int) < 1048576 by decide)
  have hd := Int.mul_ediv_add_emod t 1048576
  refine ⟨by rw [List.length_append, h.len]; rfl, Sml.app.2 ⟨h.sml, fun d hd => ?_⟩, ?_, by omega, by omega⟩
  · obtain rfl := List.mem_singleton.1 hd
    omega
  · rw [dval_snoc, h.len, dval_take_dg, dval_take_dg, Nat.pow_succ]
    have hc : (((t % 1048576).toNat : Nat) : Int) = t % 1048576 := Int.toNat_of_nonneg hm0
    generalize t % 1048576 = r at hd hc ⊢
    generalize t / 1048576 = q at hd ⊢
    generalize (1048576 ^ i : Nat) = P at e ⊢
    simp only [Int.natCast_add, Int.natCast_mul, hc, show ((1048576 : Nat) : Int) = 1048576 from rfl]
    clear hc
    generalize (dval (a.take i) : Int) = X at e ⊢
    generalize (dval (b.take i) : Int) = Y at e ⊢
    generalize (dval out : Int) = Z at e ⊢
    generalize ((dg a i : Nat) : Int) = x at *
    generalize ((dg b i : Nat) : Int) = y at *
    grind
theorem LinSt.done {u v c : Int} {a b out : List Nat} {n m V : Nat} (h : LinSt u v a b n out c) (hn : a.length = n) (hb : b.length ≤ n) (hV : (V : Int) = u * dval a + v * dval b) (hm : m ≤ n) (hlt : V < 1048576 ^ m) : dval (out.take m) = V ∧ Sml (out.take m) := by
  have e := h.eq
  rw [List.take_of_length_le (by omega), List.take_of_length_le hb, ← hV] at e
  have h1 := dval_lt h.sml
  rw [h.len] at h1
  have hp : 1048576 ^ m ≤ 1048576 ^ n := Nat.pow_le_pow_right (by decide) hm
  generalize hP : (1048576 ^ n : Nat) = P at *
  have hc : c = 0 := by
    rcases Int.lt_trichotomy c 0 with h2 | h2 | h2
    · have := Int.mul_le_mul_of_nonneg_left (show c ≤ -1 by omega) (show 0 ≤ (P : Int) by omega)
      omega
    · exact h2
    · have := Int.mul_le_mul_of_nonneg_left (show 1 ≤ c by omega) (show 0 ≤ (P : Int) by omega)
      omega
  subst hc
  have e2 : dval out = V := by omega
  refine ⟨?_, h.sml.take m⟩
  have e3 : dval out = dval (out.take m) + 1048576 ^ m * dval (out.drop m) := by
    have := dval_app (out.take m) (out.drop m)
    rw [List.take_append_drop, List.length_take, h.len, Nat.min_eq_left hm] at this
    exact this
  rcases Nat.eq_zero_or_pos (dval (out.drop m)) with h0 | h0
  · rw [h0] at e3; omega
  · have := Nat.mul_le_mul_left (1048576 ^ m) (show 1 ≤ dval (out.drop m) by omega)
    omega
theorem dval4 {e : List Nat} (h : e.length ≤ 4) : dval e = dg e 0 + 1048576 * (dg e 1 + 1048576 * (dg e 2 + 1048576 * dg e 3)) := by
  match e, h with
  | [], _ => rfl
  | [a], _ => simp [dval, dg]
  | [a, b], _ => simp [dval, dg]
  | [a, b, c], _ => simp [dval, dg]
  | [a, b, c, d], _ => simp [dval, dg]
theorem dg_drop (l : List Nat) (k i : Nat) : dg (l.drop k) i = dg l (k + i) := by simp [dg, List.getD, List.getElem?_drop]
/-- The three highest digits, and all leading bits. -/
def topP (d : List Nat) (n : Nat) : Nat := (dg d (n - 1) * 1048576 + dg d (n - 2)) * 1048576 + dg d (n - 3)
def leadP (d : List Nat) (n y : Nat) : Nat := topP d n * 2 ^ y + dg d (n - 4) / 2 ^ (20 - y)
theorem lead_sure {d : List Nat} {n y : Nat} (hd : d.length ≤ n) (hn : 4 ≤ n) (hy : y ≤ 20) (hs : Sml d) :
    leadP d n y * 1048576 ^ (n - 3) ≤ dval d * 2 ^ y ∧ dval d * 2 ^ y < (leadP d n y + 1) * 1048576 ^ (n - 3) := by
  obtain ⟨k, rfl⟩ : ∃ k, n = k + 4 := ⟨n - 4, by omega⟩
  have e1 : dval d = dval (d.take k) + 1048576 ^ k * dval (d.drop k) := by
    rcases Nat.le_total k d.length with h | h
    · have := dval_app (d.take k) (d.drop k)
      rw [List.take_append_drop, List.length_take, Nat.min_eq_left h] at this
      exact this
    · rw [List.take_of_length_le h, List.drop_of_length_le h]; simp [dval]
  have e2 := dval4 (e := d.drop k) (by rw [List.length_drop]; omega)
  rw [dg_drop, dg_drop, dg_drop, dg_drop] at e2
  have h1 : dval (d.take k) < 1048576 ^ k := by
    have h := dval_lt (hs.take k)
    have h2 : 1048576 ^ (d.take k).length ≤ 1048576 ^ k := Nat.pow_le_pow_right (by decide) (by rw [List.length_take]; omega)
    omega
  have hH : 2 ^ (20 - y) * 2 ^ y = 1048576 := by rw [← Nat.pow_add, show 20 - y + y = 20 by omega]
  have hT : 0 < 2 ^ y := Nat.pow_pos (by decide)
  have hHp : 0 < 2 ^ (20 - y) := Nat.pow_pos (by decide)
  have q1 := Nat.div_add_mod (dg d k) (2 ^ (20 - y))
  have q2 := Nat.mod_lt (dg d k) hHp
  unfold leadP topP
  rw [show k + 4 - 3 = k + 1 by omega, show k + 4 - 4 = k by omega, show k + 4 - 1 = k + 3 by omega, show k + 4 - 2 = k + 2 by omega, Nat.pow_succ]
  rw [e1, e2, Nat.add_zero]
  generalize dg d k / 2 ^ (20 - y) = hi at *
  generalize dg d k % 2 ^ (20 - y) = lo at *
  generalize dg d k = x0 at *
  generalize dg d (k + 1) = x1
  generalize dg d (k + 2) = x2
  generalize dg d (k + 3) = x3
  generalize (1048576 ^ k : Nat) = P at *
  generalize dval (d.take k) = low at *
  generalize (2 ^ y : Nat) = T at *
  generalize (2 ^ (20 - y) : Nat) = H at *
  have key : (low + P * (x0 + 1048576 * (x1 + 1048576 * (x2 + 1048576 * x3)))) * T = (((x3 * 1048576 + x2) * 1048576 + x1) * T + hi) * (P * 1048576) + (low * T + P * (lo * T)) := by
    have : P * 1048576 = P * (H * T) := by rw [hH]
    rw [← q1]
    have e3 : (((x3 * 1048576 + x2) * 1048576 + x1) * T + hi) * (P * 1048576) = ((x3 * 1048576 + x2) * 1048576 + x1) * T * (P * 1048576) + hi * (P * (H * T)) := by rw [hH]; grind
    rw [e3]
    grind
  have b1 : low * T + P * (lo * T) < P * 1048576 := by
    have c1 : low * T < P * T := Nat.mul_lt_mul_of_pos_right h1 hT
    have c2 : (lo + 1) * T ≤ H * T := Nat.mul_le_mul_right T q2
    have c3 : P * ((lo + 1) * T) ≤ P * (H * T) := Nat.mul_le_mul_left P c2
    rw [hH] at c3
    have c4 : P * ((lo + 1) * T) = P * (lo * T) + P * T := by grind
    omega
  rw [key]
  constructor
  · exact Nat.le_add_right _ _
  · rw [Nat.add_mul _ 1, Nat.one_mul]
    exact Nat.add_lt_add_left b1 _
end Go.Proofs.YtoocdokhljpokaaDoor
