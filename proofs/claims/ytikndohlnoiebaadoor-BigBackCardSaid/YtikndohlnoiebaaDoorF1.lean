/- Multiplying digits by an int of at most 40 bits, step by step, plainly. Conditions: none. -/
import Derived.Test.YtikndohlnoiebaaDoorBm
namespace Go.Proofs.YtikndohlnoiebaaDoor
set_option maxRecDepth 8000

/-- Digits times a number below 2^40, with another one added: i digits are done. -/
structure MbSt (D : List Nat) (y p i : Nat) (E : List Nat) (t : Nat) : Prop where
  len : E.length = D.length
  sml : Sml E
  low : E.drop i = D.drop i
  eq : dval (E.take i) + 1048576 ^ i * t = dval (D.take i) * y + p
  hi : t < 1099511627776
theorem MbSt.new {D : List Nat} {y p : Nat} (h : Sml D) (hp : p < 1099511627776) : MbSt D y p 0 D p := ⟨rfl, h, rfl, by simp [dval], hp⟩
theorem MbSt.step {D : List Nat} {y p i : Nat} {E : List Nat} {t d : Nat} (h : MbSt D y p i E t) (hd : D[i]? = some d) (hy : y ≤ 1099511627776) :
    d < 1048576 ∧ t + d * y < 1152921504606846976 ∧ MbSt D y p (i + 1) (E.set i ((t + d * y) % 1048576)) ((t + d * y) / 1048576) := by
  have hi := (List.getElem?_eq_some_iff.1 hd).1
  have hiE : i < E.length := by rw [h.len]; exact hi
  have hdl : d < 1048576 := h.sml.at_ ((at_low h.low).trans hd)
  have hdy : d * y ≤ 1048575 * 1099511627776 := Nat.mul_le_mul (by omega) hy
  have hh := h.hi
  have hb : t + d * y < 1152921504606846976 := by omega
  refine ⟨hdl, hb, by rw [List.length_set]; exact h.len, h.sml.set (by omega) _, by rw [drop_set_lt _ (by omega)]; exact drop_succ_of h.low, ?_, by omega⟩
  rw [dval_set_take hiE, dval_take_succ hd, Nat.pow_succ]
  have k := h.eq
  have e4 : t + d * y = (t + d * y) % 1048576 + 1048576 * ((t + d * y) / 1048576) := (Nat.mod_add_div _ _).symm
  generalize hr : (t + d * y) % 1048576 = r at *
  generalize hQ : (t + d * y) / 1048576 = Q at *
  generalize 1048576 ^ i = P at *
  generalize dval (E.take i) = X at *
  generalize dval (D.take i) = Y at *
  have e5 : (Y + P * d) * y + p = X + P * (t + d * y) := by
    rw [Nat.add_mul, Nat.mul_add]
    have : P * d * y = P * (d * y) := Nat.mul_assoc _ _ _
    omega
  rw [e5, e4, Nat.mul_add]
  have : P * 1048576 * Q = P * (1048576 * Q) := Nat.mul_assoc _ _ _
  omega
/-- Behind all digits: what is left is written behind. -/
structure MtSt (v : Nat) (m : Nat) (F : List Nat) (t : Nat) : Prop where
  sml : Sml F
  eq : dval F + 1048576 ^ F.length * t = v
  top : 0 < t ∨ NoZ F
  len : F.length ≤ m
  hi : t < 1048576 ^ (m - F.length)
theorem MbSt.over {D : List Nat} {y p : Nat} {E : List Nat} {t : Nat} (h : MbSt D y p D.length E t) (hn : Norm D) (hy : 1048576 ≤ y) : MtSt (dval D * y + p) (D.length + 2) E t := by
  have k := h.eq
  rw [List.take_length, List.take_of_length_le (by rw [h.len]; exact Nat.le_refl _)] at k
  refine ⟨h.sml, by rw [h.len]; exact k, ?_, by rw [h.len]; omega, ?_⟩
  · by_cases hD : D = []
    · subst hD
      have : E = [] := List.eq_nil_of_length_eq_zero h.len
      subst this
      exact .inr hn.2
    · refine .inl ?_
      rcases Nat.eq_zero_or_pos t with h0 | h0
      · exfalso
        rw [h0, Nat.mul_zero, Nat.add_zero] at k
        have h1 := dval_lt h.sml
        rw [h.len] at h1
        have h2 := norm_pos hn hD
        obtain ⟨q, hq⟩ : ∃ q, D.length = q + 1 := ⟨D.length - 1, by have := List.length_pos_iff.2 hD; omega⟩
        rw [hq, Nat.add_sub_cancel] at h2
        rw [hq, Nat.pow_succ] at h1
        have h3 : 1048576 ^ q * 1048576 ≤ dval D * y := Nat.mul_le_mul h2 hy
        omega
      · exact h0
  · rw [h.len, show D.length + 2 - D.length = 2 by omega]
    exact h.hi
theorem MtSt.step {v m : Nat} {F : List Nat} {t : Nat} (h : MtSt v m F t) (ht : 0 < t) : MtSt v m (F ++ [t % 1048576]) (t / 1048576) := by
  have hlen : F.length < m := by
    have h1 := h.len
    have h2 := h.hi
    rcases Nat.lt_or_ge F.length m with h3 | h3
    · exact h3
    · rw [show m - F.length = 0 by omega] at h2
      omega
  refine ⟨Sml.app.2 ⟨h.sml, fun x hx => by simp at hx; omega⟩, ?_, ?_, by simp; omega, ?_⟩
  · rw [dval_snoc, List.length_append, List.length_singleton, Nat.pow_succ]
    have k := h.eq
    have e4 : t = t % 1048576 + 1048576 * (t / 1048576) := (Nat.mod_add_div _ _).symm
    generalize hr : t % 1048576 = r at *
    generalize hQ : t / 1048576 = Q at *
    generalize 1048576 ^ F.length = P at *
    rw [e4, Nat.mul_add] at k
    have : P * 1048576 * Q = P * (1048576 * Q) := Nat.mul_assoc _ _ _
    omega
  · rcases Nat.eq_zero_or_pos (t / 1048576) with h0 | h0
    · refine .inr ?_
      unfold NoZ
      simp
      omega
    · exact .inl h0
  · rw [List.length_append, List.length_singleton]
    have h2 := h.hi
    obtain ⟨q, hq⟩ : ∃ q, m - F.length = q + 1 := ⟨m - F.length - 1, by omega⟩
    rw [hq, Nat.pow_succ] at h2
    rw [show m - (F.length + 1) = q by omega]
    omega
theorem MtSt.done {v m : Nat} {F : List Nat} (h : MtSt v m F 0) : Norm F ∧ dval F = v ∧ F.length ≤ m := by
  refine ⟨⟨h.sml, ?_⟩, ?_, h.len⟩
  · rcases h.top with h0 | h0
    · omega
    · exact h0
  · have := h.eq
    rw [Nat.mul_zero, Nat.add_zero] at this
    exact this
end Go.Proofs.YtikndohlnoiebaaDoor
