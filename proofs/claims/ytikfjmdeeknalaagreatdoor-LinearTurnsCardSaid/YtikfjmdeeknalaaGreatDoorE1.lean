/- Long division, plainly: shifts, the guess of a digit, the loop's state. Conditions: as each theorem states them. -/
import Derived.Test.YtikfjmdeeknalaaGreatDoorBw
namespace Go.Proofs.YtikfjmdeeknalaaGreatDoor
set_option maxRecDepth 8000

/-- Shifting digits up: i digits are done. -/
structure ShlSt (D : List Nat) (m i : Nat) (S : List Nat) (q : Nat) : Prop where
  len : S.length = D.length + 1
  sml : Sml (S.take i)
  eq : dval (S.take i) + 1048576 ^ i * q = dval (D.take i) * m
  hi : q < m
theorem ShlSt.new {D : List Nat} {m : Nat} (hm : 0 < m) {S : List Nat} (h : S.length = D.length + 1) : ShlSt D m 0 S 0 := ⟨h, by simp [Sml], by simp [dval], hm⟩
theorem ShlSt.step {D S : List Nat} {m i q d : Nat} (h : ShlSt D m i S q) (hd : D[i]? = some d) (hdl : d < 1048576) : ShlSt D m (i + 1) (S.set i ((q + d * m) % 1048576)) ((q + d * m) / 1048576) := by
  have hi := (List.getElem?_eq_some_iff.1 hd).1
  have hiS : i < S.length := by rw [h.len]; omega
  have hq := h.hi
  have hdm : d * m ≤ 1048575 * m := Nat.mul_le_mul_right _ (by omega)
  refine ⟨by rw [List.length_set]; exact h.len, sml_snoc h.sml hiS (Nat.mod_lt _ (by decide)), ?_, by omega⟩
  rw [dval_set_take hiS, dval_take_succ hd, Nat.add_mul]
  have k := h.eq
  have e4 : q + d * m = (q + d * m) % 1048576 + 1048576 * ((q + d * m) / 1048576) := by omega
  have hP : 1048576 ^ (i + 1) = 1048576 ^ i * 1048576 := Nat.pow_succ _ _
  rw [hP]
  generalize (q + d * m) % 1048576 = r at *
  generalize (q + d * m) / 1048576 = Q at *
  generalize 1048576 ^ i = A at *
  generalize dval (S.take i) = X at *
  generalize dval (D.take i) = Y at *
  have e5 : A * q + A * d * m = A * r + A * 1048576 * Q := by
    rw [Nat.mul_assoc, ← Nat.mul_add, e4, Nat.mul_add, Nat.mul_assoc]
  omega
theorem ShlSt.done {D S : List Nat} {m q : Nat} (h : ShlSt D m D.length S q) (hm : m ≤ 1048576) : Sml (S.set D.length q) ∧ dval (S.set D.length q) = dval D * m ∧ (S.set D.length q).length = D.length + 1 := by
  have hi : D.length < S.length := by rw [h.len]; omega
  have hq := h.hi
  have e : (S.set D.length q).take (D.length + 1) = S.set D.length q := List.take_of_length_le (by rw [List.length_set, h.len]; exact Nat.le_refl _)
  refine ⟨?_, ?_, by rw [List.length_set]; exact h.len⟩
  · rw [← e]
    exact sml_snoc h.sml hi (by omega)
  · rw [← e, dval_set_take hi, h.eq, List.take_length]

theorem guess_core {P T S lo bl : Nat} (hlo : lo < P) (hbl : bl < P) (hS : 549755813888 ≤ S) (hlt : lo + P * T < (bl + P * S) * 1048576) :
    T / S ≤ 1048576 ∧ (lo + P * T) / (bl + P * S) ≤ T / S ∧ T / S ≤ (lo + P * T) / (bl + P * S) + 1 := by
  have hS0 : 0 < S := by omega
  have hP0 : 0 < P := by omega
  have hPS : 0 < P * S := Nat.mul_pos hP0 hS0
  have h1 : T / S ≤ 1048576 := by
    have a1 : P * T < P * ((S + 1) * 1048576) := by
      have b1 : (bl + P * S) * 1048576 ≤ (P + P * S) * 1048576 := Nat.mul_le_mul_right _ (by omega)
      have b2 : (P + P * S) * 1048576 = P * ((S + 1) * 1048576) := by
        rw [← Nat.mul_assoc, Nat.mul_add, Nat.mul_one, Nat.add_comm]
      omega
    have a2 : T < (S + 1) * 1048576 := Nat.lt_of_mul_lt_mul_left a1
    have a3 : T / S < 1048577 := by rw [Nat.div_lt_iff_lt_mul hS0]; omega
    omega
  refine ⟨h1, ?_, ?_⟩
  · rw [Nat.le_div_iff_mul_le hS0]
    have a1 := Nat.div_mul_le_self (lo + P * T) (bl + P * S)
    generalize (lo + P * T) / (bl + P * S) = Q at *
    have a2 : Q * (P * S) ≤ Q * (bl + P * S) := Nat.mul_le_mul_left _ (by omega)
    have a3 : Q * (P * S) = P * (Q * S) := by rw [← Nat.mul_assoc, Nat.mul_comm Q P, Nat.mul_assoc]
    have a4 : P * (Q * S) < P * (T + 1) := by rw [Nat.mul_add, Nat.mul_one]; omega
    have a5 := Nat.lt_of_mul_lt_mul_left a4
    omega
  · have a1 := Nat.div_mul_le_self T S
    generalize T / S = q at *
    cases q with
    | zero => exact Nat.zero_le _
    | succ k =>
      apply Nat.succ_le_succ
      rw [Nat.le_div_iff_mul_le (by omega)]
      have a2 : k * (bl + P * S) = k * bl + P * (k * S) := by rw [Nat.mul_add, ← Nat.mul_assoc, ← Nat.mul_assoc, Nat.mul_comm k P]
      have a3 : k * bl ≤ P * k := by rw [Nat.mul_comm P k]; exact Nat.mul_le_mul_left _ (by omega)
      have a4 : (k + 1) * S = k * S + S := by rw [Nat.add_mul, Nat.one_mul]
      have a5 : P * (k + k * S) ≤ P * T := Nat.mul_le_mul_left _ (by omega)
      rw [Nat.mul_add] at a5
      omega
/-- The value of digits by their highest ones. -/
theorem dval_top2 {b : List Nat} {k b1 b0 : Nat} (hl : b.length = k + 2) (h1 : b[k + 1]? = some b1) (h0 : b[k]? = some b0) : dval b = dval (b.take k) + 1048576 ^ k * (b1 * 1048576 + b0) := by
  rw [dval_split b k (by omega), dval_drop_at h0, dval_drop_at h1, List.drop_of_length_le (by omega)]
  show _ + _ * (b0 + 1048576 * (b1 + 1048576 * 0)) = _
  congr 2
  omega
theorem dval_top3 {D : List Nat} {k d2 d1 d0 : Nat} (hl : D.length = k + 3) (h2 : D[k + 2]? = some d2) (h1 : D[k + 1]? = some d1) (h0 : D[k]? = some d0) : dval D = dval (D.take k) + 1048576 ^ k * (d2 * 1099511627776 + d1 * 1048576 + d0) := by
  rw [dval_split D k (by omega), dval_drop_at h0, dval_drop_at h1, dval_drop_at h2, List.drop_of_length_le (by omega)]
  show _ + _ * (d0 + 1048576 * (d1 + 1048576 * (d2 + 1048576 * 0))) = _
  congr 2
  omega
theorem guess {D b : List Nat} {k d2 d1 d0 b1 b0 : Nat} (hD : D.length = k + 3) (hb : b.length = k + 2) (sD : Sml D) (sb : Sml b) (h2 : D[k + 2]? = some d2) (h1 : D[k + 1]? = some d1) (h0 : D[k]? = some d0) (g1 : b[k + 1]? = some b1) (g0 : b[k]? = some b0)
    (ht : 524288 ≤ b1) (hlt : dval D < dval b * 1048576) :
    (d2 * 1099511627776 + d1 * 1048576 + d0) / (b1 * 1048576 + b0) ≤ 1048576 ∧ dval D / dval b ≤ (d2 * 1099511627776 + d1 * 1048576 + d0) / (b1 * 1048576 + b0) ∧ (d2 * 1099511627776 + d1 * 1048576 + d0) / (b1 * 1048576 + b0) ≤ dval D / dval b + 1 := by
  have l1 := dval_lt (sD.take k)
  have l2 := dval_lt (sb.take k)
  rw [List.length_take, Nat.min_eq_left (by omega)] at l1 l2
  rw [dval_top3 hD h2 h1 h0, dval_top2 hb g1 g0] at hlt ⊢
  exact guess_core l1 l2 (by omega) hlt
theorem qr_intE {a b : Nat} (hb : 0 < b) : ((a : Int) = (b : Int) * ((a / b : Nat) : Int) + ((a % b : Nat) : Int)) ∧ ((a % b : Nat) : Int) < b := by
  have h1 := Nat.div_add_mod a b
  have h2 := Nat.mod_lt a hb
  refine ⟨?_, by omega⟩
  rw [← Int.natCast_mul, ← Int.natCast_add, h1]
/-- The first guess is too great. -/
theorem red_neg {D b q0 E E' : Nat} {W t t' : Int} (hb : 0 < b) (h0 : D / b ≤ q0) (h1 : q0 ≤ D / b + 1) (hE : (E : Int) + W * t = D + -(q0 : Int) * b) (hEl : (E : Int) < W) (hbW : (b : Int) < W) (ht : t < 0) (hE' : (E' : Int) + W * t' = E + 1 * b) (hEl' : (E' : Int) < W) :
    q0 = D / b + 1 ∧ E' = D % b := by
  obtain ⟨e1, e2⟩ := qr_intE (a := D) hb
  generalize hQ : D / b = Q at *
  generalize hR : D % b = r at *
  have hW : 0 < W := by omega
  have c1 : q0 = Q + 1 := by
    rcases Nat.lt_or_ge q0 (Q + 1) with h | h
    · exfalso
      have : q0 = Q := by omega
      subst this
      have hm : W * t ≤ W * (-1) := Int.mul_le_mul_of_nonneg_left (by omega) (by omega)
      have hn : -(q0 : Int) * b = -((b : Int) * q0) := by rw [Int.neg_mul, Int.mul_comm]
      omega
    · omega
  refine ⟨c1, ?_⟩
  subst c1
  have hn : -((Q + 1 : Nat) : Int) * b = -((b : Int) * Q) - b := by
    rw [Int.neg_mul, Int.mul_comm, Int.natCast_add, Int.mul_add]
    simp
    omega
  have ht1 : t = -1 := by
    rcases Int.lt_or_le t (-1) with h | h
    · exfalso
      have hm : W * t ≤ W * (-2) := Int.mul_le_mul_of_nonneg_left (by omega) (by omega)
      omega
    · omega
  subst ht1
  have ht2 : t' = 1 := by
    rcases Int.lt_trichotomy t' 1 with h | h | h
    · exfalso
      have hm : W * t' ≤ W * 0 := Int.mul_le_mul_of_nonneg_left (by omega) (by omega)
      omega
    · exact h
    · exfalso
      have hm : W * 2 ≤ W * t' := Int.mul_le_mul_of_nonneg_left (by omega) (by omega)
      omega
  subst ht2
  omega
/-- The first guess is the digit. -/
theorem red_pos {D b q0 E : Nat} {W t : Int} (hb : 0 < b) (h0 : D / b ≤ q0) (hE : (E : Int) + W * t = D + -(q0 : Int) * b) (hDl : (D : Int) < W) (ht : 0 ≤ t) :
    q0 = D / b ∧ E = D % b := by
  obtain ⟨e1, e2⟩ := qr_intE (a := D) hb
  generalize hQ : D / b = Q at *
  generalize hR : D % b = r at *
  have hm : (b : Int) * Q ≤ (b : Int) * q0 := Int.mul_le_mul_of_nonneg_left (by omega) (by omega)
  have hn : -(q0 : Int) * b = -((b : Int) * q0) := by rw [Int.neg_mul, Int.mul_comm]
  have ht0 : t = 0 := by
    rcases Int.lt_or_le 0 t with h | h
    · exfalso
      have hm2 : W * 1 ≤ W * t := Int.mul_le_mul_of_nonneg_left (by omega) (by omega)
      have hm3 : (0 : Int) ≤ b * q0 := Int.mul_nonneg (by omega) (by omega)
      omega
    · omega
  subst ht0
  have c1 : q0 = Q := by
    rcases Nat.lt_or_ge Q q0 with h | h
    · exfalso
      have hm2 : (b : Int) * (Q + 1) ≤ b * q0 := Int.mul_le_mul_of_nonneg_left (by omega) (by omega)
      rw [Int.mul_add] at hm2
      omega
    · omega
  subst c1
  exact ⟨rfl, by omega⟩

/-- The state of the long division: digits from i on are known. -/
structure LongSt (A b : Nat) (m n i : Nat) (R q : List Nat) : Prop where
  lenR : R.length = m + n
  lenq : q.length = m
  smlR : Sml R
  smlq : Sml q
  eq : dval R + 1048576 ^ i * (b * dval (q.drop i)) = A
  lt : dval (R.drop i) < b
/-- What a digit is taken from. -/
def win (R : List Nat) (i n : Nat) : List Nat := (R.drop i).take (n + 1)
section
variable {A b m n i : Nat} {R q : List Nat}
theorem LongSt.new {R : List Nat} {m n : Nat} (hR : R.length = m + n) (hs : Sml R) (h : dval R = A) (hlt : dval (R.drop m) < b) : LongSt A b m n m R (List.replicate m 0) :=
  ⟨hR, by simp, hs, Sml.zeros _, by rw [List.drop_of_length_le (by simp)]; simpa [dval] using h, hlt⟩
theorem LongSt.win_len (h : LongSt A b m n (i + 1) R q) (hi : i < m) : (win R i n).length = n + 1 := by
  unfold win
  rw [List.length_take, List.length_drop, h.lenR]
  omega
theorem LongSt.win_val (h : LongSt A b m n (i + 1) R q) (hi : i < m) (hb : b < 1048576 ^ n) : dval (win R i n) = dval (R.drop i) ∧ dval (R.drop (i + (n + 1))) = 0 ∧ dval (win R i n) < b * 1048576 ∧ Sml (win R i n) := by
  have hl := h.lt
  have h0 : dval (R.drop (i + (n + 1))) = 0 := by
    have e := dval_split (R.drop (i + 1)) n (by rw [List.length_drop, h.lenR]; omega)
    rw [List.drop_drop, show i + 1 + n = i + (n + 1) by omega] at e
    rcases Nat.eq_zero_or_pos (dval (R.drop (i + (n + 1)))) with hz | hz
    · exact hz
    · exfalso
      have : 1048576 ^ n * 1 ≤ 1048576 ^ n * dval (R.drop (i + (n + 1))) := Nat.mul_le_mul_left _ hz
      omega
  have e := dval_split (R.drop i) (n + 1) (by rw [List.length_drop, h.lenR]; omega)
  rw [List.drop_drop, h0, Nat.mul_zero, Nat.add_zero] at e
  obtain ⟨d, hd⟩ : ∃ d, R[i]? = some d := ⟨_, List.getElem?_eq_getElem (by rw [h.lenR]; omega)⟩
  have hdl := h.smlR.at_ hd
  have e2 := dval_drop_at hd
  exact ⟨e.symm, h0, by unfold win; omega, (h.smlR.drop i).take _⟩
theorem LongSt.step (h : LongSt A b m n (i + 1) R q) (hi : i < m) (hb : b < 1048576 ^ n) {E : List Nat} (hE : E.length = n + 1) (sE : Sml E) (vE : dval E = dval (win R i n) % b) :
    LongSt A b m n i (midL R i (n + 1) E) (q.set i (dval (win R i n) / b)) := by
  obtain ⟨h1, h2, h3, h4⟩ := h.win_val hi hb
  have hl := h.lt
  have hb0 : 0 < b := by omega
  have hiq : i < q.length := by rw [h.lenq]; exact hi
  have hQ : dval (win R i n) / b < 1048576 := by rw [Nat.div_lt_iff_lt_mul hb0, Nat.mul_comm]; exact h3
  have hq : (q.set i (dval (win R i n) / b)).drop i = (dval (win R i n) / b) :: q.drop (i + 1) := by
    rw [List.drop_eq_getElem_cons (by simp; omega), drop_set_lt _ (by omega)]
    simp
  have hm : (midL R i (n + 1) E).drop i = E ++ R.drop (i + (n + 1)) := by
    unfold midL
    rw [List.drop_append_of_le_length (by rw [List.length_take, h.lenR]; omega), List.drop_of_length_le (by rw [List.length_take]; omega)]
    rfl
  have ht : (midL R i (n + 1) E).take i = R.take i := by
    unfold midL
    rw [List.take_append_of_le_length (by rw [List.length_take, h.lenR]; omega), List.take_take, Nat.min_self]
  have hv : dval ((midL R i (n + 1) E).drop i) = dval E := by rw [hm, dval_app, h2]; simp
  refine ⟨by rw [midL_len (by rw [h.lenR]; omega) hE]; exact h.lenR, by rw [List.length_set]; exact h.lenq, ?_, h.smlq.set hQ i, ?_, ?_⟩
  · unfold midL
    exact Sml.app.2 ⟨h.smlR.take _, Sml.app.2 ⟨sE, h.smlR.drop _⟩⟩
  · have e1 := dval_split (midL R i (n + 1) E) i (by rw [midL_len (by rw [h.lenR]; omega) hE, h.lenR]; omega)
    rw [ht, hv, vE] at e1
    have e2 := dval_split R i (by rw [h.lenR]; omega)
    have e3 := h.eq
    rw [e2, ← h1] at e3
    have e4 := Nat.div_add_mod (dval (win R i n)) b
    rw [e1, hq, ← e3]
    show dval (R.take i) + 1048576 ^ i * (dval (win R i n) % b) + 1048576 ^ i * (b * (dval (win R i n) / b + 1048576 * dval (q.drop (i + 1)))) = _
    have hP : 1048576 ^ (i + 1) = 1048576 ^ i * 1048576 := Nat.pow_succ _ _
    rw [hP]
    generalize 1048576 ^ i = P at *
    generalize dval (win R i n) / b = Q at *
    generalize dval (win R i n) % b = r at *
    generalize dval (q.drop (i + 1)) = X at *
    rw [← e4]
    grind
  · rw [hv, vE]
    exact Nat.mod_lt _ hb0
theorem LongSt.done (h : LongSt A b m n 0 R q) (hb : b < 1048576 ^ n) : dval (R.take n) = A % b ∧ dval q = A / b ∧ Sml (R.take n) := by
  have e := h.eq
  have hl := h.lt
  simp only [List.drop_zero, Nat.pow_zero, Nat.one_mul] at e hl
  have h0 : dval (R.take n) = dval R := by
    have e2 := dval_split R n (by rw [h.lenR]; omega)
    rcases Nat.eq_zero_or_pos (dval (R.drop n)) with hz | hz
    · rw [e2, hz]; simp
    · exfalso
      have : 1048576 ^ n * 1 ≤ 1048576 ^ n * dval (R.drop n) := Nat.mul_le_mul_left _ hz
      omega
  refine ⟨?_, ?_, h.smlR.take _⟩
  · rw [h0, ← e, Nat.add_mul_mod_self_left, Nat.mod_eq_of_lt hl]
  · rw [← e, Nat.add_mul_div_left _ _ (by omega), Nat.div_eq_of_lt hl, Nat.zero_add]
end
/-- A shifted quotient and remainder. -/
theorem shift_qr {a b m : Nat} (hm : 0 < m) : a * m / (b * m) = a / b ∧ a * m % (b * m) / m = a % b := by
  refine ⟨Nat.mul_div_mul_right _ _ hm, ?_⟩
  rw [Nat.mul_mod_mul_right, Nat.mul_div_cancel _ hm]
end Go.Proofs.YtikfjmdeeknalaaGreatDoor
