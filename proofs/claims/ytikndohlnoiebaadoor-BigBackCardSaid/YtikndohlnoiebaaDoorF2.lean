/- Which texts are a big integer's, and which one, plainly. No condition. -/
import Derived.Lib.ItoaNum
import Derived.Lib.ItoaMem
namespace Go.Proofs.YtikndohlnoiebaaDoor
set_option maxRecDepth 8000
open Go.Lib

/-- The value of a list of digits. -/
def vl (l : List UInt8) : Nat := l.foldl (fun a c => 10 * a + (c.toNat - 48)) 0
def dgB (c : UInt8) : Bool := decide (48 ≤ c.toNat ∧ c.toNat ≤ 57)

theorem vl_snoc (l : List UInt8) (c : UInt8) : vl (l ++ [c]) = 10 * vl l + (c.toNat - 48) := by unfold vl; simp
theorem vl_mono (l t : List UInt8) : vl l ≤ vl (l ++ t) := by
  induction t generalizing l with
  | nil => simp
  | cons c t ih =>
    have h := ih (l ++ [c])
    rw [List.append_assoc] at h
    rw [vl_snoc] at h
    simp only [List.singleton_append] at h
    omega

theorem dg_byte {d : Nat} (h : d < 10) : (UInt8.ofNat (48 + d)).toNat = 48 + d := by
  rw [UInt8.toNat_ofNat']
  omega
theorem dgB_byte {d : Nat} (h : d < 10) : dgB (UInt8.ofNat (48 + d)) = true := by
  unfold dgB
  rw [dg_byte h]
  simp
  omega
theorem byte_of_dg {c : UInt8} (h : dgB c = true) : ∃ d, d < 10 ∧ c = UInt8.ofNat (48 + d) ∧ c.toNat = 48 + d := by
  unfold dgB at h
  have h' := of_decide_eq_true h
  refine ⟨c.toNat - 48, by omega, ?_, by omega⟩
  apply UInt8.toNat_inj.1
  rw [dg_byte (by omega)]
  omega

theorem dc_small {n : Nat} (h : n < 10) : decDigits n = [UInt8.ofNat (48 + n)] := decDigits_one h
theorem dc_big {n : Nat} (h : ¬ n < 10) : decDigits n = decDigits (n / 10) ++ [UInt8.ofNat (48 + n % 10)] := by
  rw [decDigits, dif_neg h]

theorem dc_ne (n : Nat) : decDigits n ≠ [] := by
  by_cases h : n < 10
  · rw [dc_small h]; simp
  · rw [dc_big h]; simp
theorem dc_all (n : Nat) : (decDigits n).all dgB = true := by
  induction n using Nat.strongRecOn with
  | _ n ih =>
    by_cases h : n < 10
    · rw [dc_small h]
      rw [List.all_cons, dgB_byte h]
      rfl
    · rw [dc_big h, List.all_append, ih (n / 10) (by omega)]
      rw [List.all_cons, dgB_byte (show n % 10 < 10 by omega)]
      rfl
theorem vl_dec (n : Nat) : vl (decDigits n) = n := by
  induction n using Nat.strongRecOn with
  | _ n ih =>
    by_cases h : n < 10
    · rw [dc_small h]
      unfold vl
      simp only [List.foldl_cons, List.foldl_nil]
      rw [dg_byte h]
      omega
    · rw [dc_big h, vl_snoc, ih (n / 10) (by omega), dg_byte (by omega)]
      omega
theorem dc_head (n : Nat) (h : 0 < n) : (decDigits n).head? ≠ some 48 := by
  induction n using Nat.strongRecOn with
  | _ n ih =>
    by_cases h10 : n < 10
    · rw [dc_small h10]
      simp only [List.head?_cons]
      intro e
      have e' := congrArg UInt8.toNat (Option.some.inj e)
      rw [dg_byte h10] at e'
      have h48 : (48 : UInt8).toNat = 48 := rfl
      omega
    · rw [dc_big h10]
      have := ih (n / 10) (by omega) (by omega)
      cases hd : decDigits (n / 10) with
      | nil => exact absurd hd (dc_ne _)
      | cons a t => rw [hd] at this; simpa using this
theorem dc_lead (n : Nat) (h : 1 < (decDigits n).length) : (decDigits n).head? ≠ some 48 := by
  by_cases h0 : n = 0
  · subst h0
    rw [dc_small (by omega)] at h
    simp at h
  · exact dc_head n (by omega)

theorem dc_of_snoc (k : Nat) : ∀ l : List UInt8, l.length = k + 1 → l.all dgB = true → (1 < l.length → l.head? ≠ some 48) → decDigits (vl l) = l ∧ (l.head? ≠ some 48 → 0 < vl l) := by
  induction k with
  | zero =>
    intro l hl ha _
    match l, hl with
    | [c], _ =>
      obtain ⟨d, hd, rfl, hc⟩ := byte_of_dg (c := c) (by simpa using ha)
      have hv : vl [UInt8.ofNat (48 + d)] = d := by
        unfold vl
        simp only [List.foldl_cons, List.foldl_nil]
        rw [dg_byte hd]
        omega
      rw [hv]
      refine ⟨dc_small hd, fun hne => ?_⟩
      rcases Nat.eq_zero_or_pos d with h0 | h0
      · subst h0
        exact absurd rfl hne
      · exact h0
  | succ k ih =>
    intro l hl ha hlead
    obtain ⟨l', c, rfl⟩ : ∃ l' c, l = l' ++ [c] := by
      rcases List.eq_nil_or_concat l with h | ⟨l', c, h⟩
      · subst h; simp at hl
      · exact ⟨l', c, by simpa using h⟩
    have hl' : l'.length = k + 1 := by simp at hl; omega
    rw [List.all_append, Bool.and_eq_true] at ha
    obtain ⟨d, hd, hcd, hc⟩ := byte_of_dg (c := c) (by simpa using ha.2)
    have hhead : l'.head? ≠ some 48 := by
      have := hlead (by simp; omega)
      cases hx : l' with
      | nil => rw [hx] at hl'; simp at hl'
      | cons a t => rw [hx] at this; simpa using this
    obtain ⟨h1, h2⟩ := ih l' hl' ha.1 (fun _ => hhead)
    have h0 := h2 hhead
    rw [vl_snoc, hc]
    have e : 10 * vl l' + (48 + d - 48) = 10 * vl l' + d := by omega
    rw [e, dc_big (by omega), show (10 * vl l' + d) / 10 = vl l' by omega, show (10 * vl l' + d) % 10 = d by omega, h1, hcd]
    exact ⟨rfl, fun _ => by omega⟩
theorem dc_of {l : List UInt8} (h0 : l ≠ []) (ha : l.all dgB = true) (hlead : 1 < l.length → l.head? ≠ some 48) : decDigits (vl l) = l := by
  obtain ⟨k, hk⟩ : ∃ k, l.length = k + 1 := ⟨l.length - 1, by have := List.length_pos_iff.2 h0; omega⟩
  exact (dc_of_snoc k l hk ha hlead).1

theorem snoc_ind {p : List UInt8 → Prop} (h0 : p []) (h1 : ∀ l c, p l → p (l ++ [c])) : ∀ l, p l := by
  have key : ∀ l : List UInt8, p l.reverse := by
    intro l
    induction l with
    | nil => exact h0
    | cons c l ih => rw [List.reverse_cons]; exact h1 _ c ih
  intro l
  have := key l.reverse
  rwa [List.reverse_reverse] at this
theorem vl_app (a : List UInt8) : ∀ b : List UInt8, vl (a ++ b) = vl a * 10 ^ b.length + vl b := by
  refine snoc_ind (by simp [vl]) (fun b c ih => ?_)
  · rw [← List.append_assoc, vl_snoc, vl_snoc, ih, List.length_append, List.length_singleton, Nat.pow_succ]
    generalize vl a = A
    generalize 10 ^ b.length = P
    generalize vl b = B
    have : A * (P * 10) = A * P * 10 := (Nat.mul_assoc _ _ _).symm
    rw [Nat.mul_add, this]
    omega
theorem vl_lt : ∀ l : List UInt8, l.all dgB = true → vl l < 10 ^ l.length := by
  refine snoc_ind (fun _ => by simp [vl]) (fun b c ih h => ?_)
  · rw [List.all_append, Bool.and_eq_true] at h
    have hc := h.2
    obtain ⟨d, hd, _, e⟩ := byte_of_dg (c := c) (by simpa using hc)
    have := ih h.1
    rw [vl_snoc, List.length_append, List.length_singleton, Nat.pow_succ, e]
    omega
/-- A text of decimal digits, as Read asks. -/
def digOk (l : List UInt8) : Bool := decide (l ≠ []) && l.all dgB && (decide (l.head? ≠ some 48) || decide (l = [48]))
/-- What Read reads. -/
def txtOk : List UInt8 → Option Int
  | [] => none
  | c :: r => if c.toNat = 45 then (if digOk r && decide (r ≠ [48]) then some (-(vl r : Int)) else none) else if digOk (c :: r) then some (vl (c :: r) : Int) else none
theorem digOk_dec {l : List UInt8} (h : digOk l = true) : decDigits (vl l) = l ∧ (l ≠ [48] → 0 < vl l) := by
  unfold digOk at h
  simp only [Bool.and_eq_true, Bool.or_eq_true, decide_eq_true_eq] at h
  obtain ⟨⟨h0, h1⟩, h2⟩ := h
  obtain ⟨k, hk⟩ : ∃ k, l.length = k + 1 := ⟨l.length - 1, by have := List.length_pos_iff.2 h0; omega⟩
  have h3 := dc_of_snoc k l hk h1 (fun hl => by
    rcases h2 with h2 | h2
    · exact h2
    · rw [h2] at hl; simp at hl)
  refine ⟨h3.1, fun hne => h3.2 ?_⟩
  rcases h2 with h2 | h2
  · exact h2
  · exact absurd h2 hne
theorem dec_digOk (n : Nat) : digOk (decDigits n) = true ∧ (0 < n → decDigits n ≠ [48]) := by
  have h1 := dc_ne n
  have h2 := dc_all n
  have h3 : 0 < n → decDigits n ≠ [48] := fun hn e => by
    have := dc_head n hn
    rw [e] at this
    exact this rfl
  refine ⟨?_, h3⟩
  unfold digOk
  simp only [Bool.and_eq_true, Bool.or_eq_true, decide_eq_true_eq]
  refine ⟨⟨h1, h2⟩, ?_⟩
  rcases Nat.eq_zero_or_pos n with h0 | h0
  · subst h0; exact .inr (by rw [dc_small (by omega)]; rfl)
  · exact .inl (dc_head n h0)
theorem txtOk_itoa {l : List UInt8} {z : Int} (h : txtOk l = some z) : itoa z = l ∧ z.natAbs < 10 ^ l.length := by
  cases l with
  | nil => cases h
  | cons c r =>
    rw [txtOk] at h
    split at h
    · rename_i hc
      split at h
      · rename_i hd
        injection h with h
        subst h
        rw [Bool.and_eq_true, decide_eq_true_eq] at hd
        obtain ⟨e1, e2⟩ := digOk_dec hd.1
        have hp := e2 hd.2
        have hc2 : c = 45 := UInt8.toNat_inj.1 hc
        have ha : r.all dgB = true := by
          have := hd.1
          unfold digOk at this
          simp only [Bool.and_eq_true] at this
          exact this.1.2
        have hl := vl_lt r ha
        refine ⟨by rw [itoa_neg _ hp, e1, hc2], ?_⟩
        rw [List.length_cons, Nat.pow_succ]
        omega
      · cases h
    · split at h
      · rename_i hd
        injection h with h
        subst h
        have ha : (c :: r).all dgB = true := by
          have := hd
          unfold digOk at this
          simp only [Bool.and_eq_true] at this
          exact this.1.2
        have hl := vl_lt (c :: r) ha
        refine ⟨by rw [itoa_nonneg]; exact (digOk_dec hd).1, by omega⟩
      · cases h
theorem itoa_txtOk (z : Int) : txtOk (itoa z) = some z := by
  rcases Int.lt_or_le z 0 with hz | hz
  · obtain ⟨u, rfl⟩ : ∃ u : Nat, z = -(u : Int) := ⟨z.natAbs, by omega⟩
    rw [itoa_neg u (by omega)]
    obtain ⟨h1, h2⟩ := dec_digOk u
    have h3 := h2 (by omega)
    rw [txtOk, if_pos (by rfl), if_pos (by rw [h1, Bool.true_and]; simpa using h3), vl_dec]
  · obtain ⟨u, rfl⟩ : ∃ u : Nat, z = u := ⟨z.toNat, by omega⟩
    rw [itoa_nonneg]
    obtain ⟨h1, _⟩ := dec_digOk u
    have h2 := dc_all u
    cases hd : decDigits u with
    | nil => exact absurd hd (dc_ne u)
    | cons c r =>
      rw [hd] at h1 h2
      rw [List.all_cons, Bool.and_eq_true] at h2
      obtain ⟨d, hdd, _, e⟩ := byte_of_dg h2.1
      rw [txtOk, if_neg (by omega), if_pos h1, ← hd, vl_dec]
end Go.Proofs.YtikndohlnoiebaaDoor
