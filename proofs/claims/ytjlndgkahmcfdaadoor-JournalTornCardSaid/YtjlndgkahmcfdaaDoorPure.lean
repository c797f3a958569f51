/- Plain facts on decimal numerals: which lists of bytes begin with the numeral of a number and a given byte. No program, no condition. -/
import Derived.Lib.ItoaNum
import Derived.Lib.ItoaMem
namespace Go.Proofs.YtjlndgkahmcfdaaDoor
set_option maxRecDepth 8000
open Go.Lib

/-- The value of a list of digits. -/
def val (l : List UInt8) : Nat := l.foldl (fun a c => 10 * a + (c.toNat - 48)) 0
def isDig (c : UInt8) : Bool := decide (48 ≤ c.toNat ∧ c.toNat ≤ 57)

theorem val_snoc (l : List UInt8) (c : UInt8) : val (l ++ [c]) = 10 * val l + (c.toNat - 48) := by unfold val; simp
theorem val_mono (l t : List UInt8) : val l ≤ val (l ++ t) := by
  induction t generalizing l with
  | nil => simp
  | cons c t ih =>
    have h := ih (l ++ [c])
    rw [List.append_assoc] at h
    rw [val_snoc] at h
    simp only [List.singleton_append] at h
    omega

theorem dig_byte {d : Nat} (h : d < 10) : (UInt8.ofNat (48 + d)).toNat = 48 + d := by
  rw [UInt8.toNat_ofNat']
  omega
theorem isDig_byte {d : Nat} (h : d < 10) : isDig (UInt8.ofNat (48 + d)) = true := by
  unfold isDig
  rw [dig_byte h]
  simp
  omega
theorem byte_of_dig {c : UInt8} (h : isDig c = true) : ∃ d, d < 10 ∧ c = UInt8.ofNat (48 + d) ∧ c.toNat = 48 + d := by
  unfold isDig at h
  have h' := of_decide_eq_true h
  refine ⟨c.toNat - 48, by omega, ?_, by omega⟩
  apply UInt8.toNat_inj.1
  rw [dig_byte (by omega)]
  omega

theorem decDigits_small {n : Nat} (h : n < 10) : decDigits n = [UInt8.ofNat (48 + n)] := decDigits_one h
theorem decDigits_big {n : Nat} (h : ¬ n < 10) : decDigits n = decDigits (n / 10) ++ [UInt8.ofNat (48 + n % 10)] := by
  rw [decDigits, dif_neg h]

theorem decDigits_ne (n : Nat) : decDigits n ≠ [] := by
  by_cases h : n < 10
  · rw [decDigits_small h]; simp
  · rw [decDigits_big h]; simp
theorem decDigits_all (n : Nat) : (decDigits n).all isDig = true := by
  induction n using Nat.strongRecOn with
  | _ n ih =>
    by_cases h : n < 10
    · rw [decDigits_small h]
      rw [List.all_cons, isDig_byte h]
      rfl
    · rw [decDigits_big h, List.all_append, ih (n / 10) (by omega)]
      rw [List.all_cons, isDig_byte (show n % 10 < 10 by omega)]
      rfl
theorem val_decDigits (n : Nat) : val (decDigits n) = n := by
  induction n using Nat.strongRecOn with
  | _ n ih =>
    by_cases h : n < 10
    · rw [decDigits_small h]
      unfold val
      simp only [List.foldl_cons, List.foldl_nil]
      rw [dig_byte h]
      omega
    · rw [decDigits_big h, val_snoc, ih (n / 10) (by omega), dig_byte (by omega)]
      omega
theorem decDigits_head (n : Nat) (h : 0 < n) : (decDigits n).head? ≠ some 48 := by
  induction n using Nat.strongRecOn with
  | _ n ih =>
    by_cases h10 : n < 10
    · rw [decDigits_small h10]
      simp only [List.head?_cons]
      intro e
      have e' := congrArg UInt8.toNat (Option.some.inj e)
      rw [dig_byte h10] at e'
      have h48 : (48 : UInt8).toNat = 48 := rfl
      omega
    · rw [decDigits_big h10]
      have := ih (n / 10) (by omega) (by omega)
      cases hd : decDigits (n / 10) with
      | nil => exact absurd hd (decDigits_ne _)
      | cons a t => rw [hd] at this; simpa using this
theorem decDigits_lead (n : Nat) (h : 1 < (decDigits n).length) : (decDigits n).head? ≠ some 48 := by
  by_cases h0 : n = 0
  · subst h0
    rw [decDigits_small (by omega)] at h
    simp at h
  · exact decDigits_head n (by omega)

theorem dec_of_snoc (k : Nat) : ∀ l : List UInt8, l.length = k + 1 → l.all isDig = true → (1 < l.length → l.head? ≠ some 48) → decDigits (val l) = l ∧ (l.head? ≠ some 48 → 0 < val l) := by
  induction k with
  | zero =>
    intro l hl ha _
    match l, hl with
    | [c], _ =>
      obtain ⟨d, hd, rfl, hc⟩ := byte_of_dig (c := c) (by simpa using ha)
      have hv : val [UInt8.ofNat (48 + d)] = d := by
        unfold val
        simp only [List.foldl_cons, List.foldl_nil]
        rw [dig_byte hd]
        omega
      rw [hv]
      refine ⟨decDigits_small hd, fun hne => ?_⟩
      rcases Nat.eq_zero_or_pos d with h0 | h0
      · subst h0
        exact absurd rfl hne
      · exact h0
  | succ k ih =>
    intro l hl ha hlead
    obtain ⟨l', c, rfl⟩ : ∃ l' c, l = l' ++ [c] := by
      rcases List.eq_nil_or_concat l with h | ⟨l', c, h⟩
      · subst h; simp at hl
      · exact ⟨l', c, by simpa using h⟩
    have hl' : l'.length = k + 1 := by simp at hl; omega
    rw [List.all_append, Bool.and_eq_true] at ha
    obtain ⟨d, hd, hcd, hc⟩ := byte_of_dig (c := c) (by simpa using ha.2)
    have hhead : l'.head? ≠ some 48 := by
      have := hlead (by simp; omega)
      cases hx : l' with
      | nil => rw [hx] at hl'; simp at hl'
      | cons a t => rw [hx] at this; simpa using this
    obtain ⟨h1, h2⟩ := ih l' hl' ha.1 (fun _ => hhead)
    have h0 := h2 hhead
    rw [val_snoc, hc]
    have e : 10 * val l' + (48 + d - 48) = 10 * val l' + d := by omega
    rw [e, decDigits_big (by omega), show (10 * val l' + d) / 10 = val l' by omega, show (10 * val l' + d) % 10 = d by omega, h1, hcd]
    exact ⟨rfl, fun _ => by omega⟩
theorem dec_of {l : List UInt8} (h0 : l ≠ []) (ha : l.all isDig = true) (hlead : 1 < l.length → l.head? ≠ some 48) : decDigits (val l) = l := by
  obtain ⟨k, hk⟩ : ∃ k, l.length = k + 1 := ⟨l.length - 1, by have := List.length_pos_iff.2 h0; omega⟩
  exact (dec_of_snoc k l hk ha hlead).1

/-- The digits ahead. -/
def run (l : List UInt8) : Nat := (l.takeWhile isDig).length

theorem run_of {l : List UInt8} {k : Nat} (hk : k ≤ l.length) (ha : (l.take k).all isDig = true) (hn : ∀ c, l[k]? = some c → isDig c = false) : run l = k := by
  induction l generalizing k with
  | nil => simp at hk; subst hk; rfl
  | cons a l ih =>
    cases k with
    | zero =>
      have := hn a rfl
      unfold run
      rw [List.takeWhile_cons, this]
      rfl
    | succ k =>
      rw [List.take_succ_cons, List.all_cons, Bool.and_eq_true] at ha
      have := ih (k := k) (by simpa using hk) ha.2 (fun c hc => hn c (by simpa using hc))
      unfold run at this ⊢
      rw [List.takeWhile_cons, ha.1]
      simp [this]
theorem run_le (l : List UInt8) : run l ≤ l.length := by
  unfold run
  exact (List.takeWhile_prefix isDig).length_le
theorem run_all (l : List UInt8) : (l.take (run l)).all isDig = true := by
  have h := List.prefix_iff_eq_take.1 (List.takeWhile_prefix (p := isDig) (l := l))
  unfold run
  rw [← h]
  induction l with
  | nil => rfl
  | cons a l ih =>
    rw [List.takeWhile_cons]
    split
    · rename_i hc
      rw [List.all_cons, hc, Bool.true_and]
      exact ih (List.prefix_iff_eq_take.1 (List.takeWhile_prefix isDig))
    · rfl
theorem run_stop (l : List UInt8) : ∀ c, l[run l]? = some c → isDig c = false := by
  induction l with
  | nil => intro c h; simp at h
  | cons a l ih =>
    intro c h
    unfold run at h ih
    rw [List.takeWhile_cons] at h
    split at h
    · exact ih c (by simpa using h)
    · rename_i hc
      simp at h
      subst h
      simpa using hc
theorem run_ge {l : List UInt8} {k : Nat} (hk : k ≤ l.length) (ha : (l.take k).all isDig = true) : k ≤ run l := by
  induction l generalizing k with
  | nil => simp at hk; omega
  | cons a l ih =>
    cases k with
    | zero => omega
    | succ k =>
      rw [List.take_succ_cons, List.all_cons, Bool.and_eq_true] at ha
      have := ih (k := k) (by simpa using hk) ha.2
      unfold run at this ⊢
      rw [List.takeWhile_cons, ha.1]
      simp
      omega

/-- What the digits of l are read as: a number of at most m whose numeral stands ahead, with the byte c behind it. -/
def digP (c : UInt8) (m : Nat) (l : List UInt8) : Option (Nat × List UInt8) :=
  if run l = 0 ∨ (1 < run l ∧ l.head? = some 48) ∨ m < val (l.take (run l)) ∨ l[run l]? ≠ some c then none else some (val (l.take (run l)), l.drop (run l + 1))

theorem head_take {l : List UInt8} {k : Nat} (h : 0 < k) : (l.take k).head? = l.head? := by
  cases l with
  | nil => simp
  | cons a l =>
    cases k with
    | zero => omega
    | succ k => simp

theorem digP_some {c : UInt8} (hc : isDig c = false) {m : Nat} {l : List UInt8} {n : Nat} {r : List UInt8} : digP c m l = some (n, r) ↔ n ≤ m ∧ l = decDigits n ++ c :: r := by
  constructor
  · intro h
    unfold digP at h
    split at h
    · cases h
    · rename_i hh
      simp only [not_or, Nat.not_lt, not_and, Classical.not_not, ne_eq] at hh
      obtain ⟨h0, h1, h2, h3⟩ := hh
      simp only [Option.some.injEq, Prod.mk.injEq] at h
      obtain ⟨rfl, rfl⟩ := h
      refine ⟨h2, ?_⟩
      have hlen : (l.take (run l)).length = run l := by rw [List.length_take]; have := run_le l; omega
      rw [dec_of (by intro e; rw [e] at hlen; simp at hlen; omega) (run_all l) (by rw [hlen, head_take (by omega)]; exact h1)]
      have hlt : run l < l.length := (List.getElem?_eq_some_iff.1 h3).1
      have hd : l.drop (run l) = c :: l.drop (run l + 1) := by
        rw [List.drop_eq_getElem_cons hlt]
        rw [(List.getElem?_eq_some_iff.1 h3).2]
      rw [← hd, List.take_append_drop]
  · rintro ⟨hn, rfl⟩
    have hr : run (decDigits n ++ c :: r) = (decDigits n).length := by
      refine run_of (by simp) ?_ ?_
      · rw [List.take_left]; exact decDigits_all n
      · intro d hd
        rw [List.getElem?_append_right (Nat.le_refl _)] at hd
        simp at hd
        subst hd
        exact hc
    have hpos := List.length_pos_iff.2 (decDigits_ne n)
    unfold digP
    rw [hr, List.take_left, val_decDigits]
    rw [if_neg]
    · congr 2
      rw [← List.drop_drop, List.drop_left]
      rfl
    · simp only [not_or, Nat.not_lt, not_and, Classical.not_not, ne_eq]
      refine ⟨by omega, fun h1 => ?_, hn, ?_⟩
      · have := decDigits_lead n h1
        cases hd : decDigits n with
        | nil => exact absurd hd (decDigits_ne n)
        | cons a t => rw [hd] at this; simpa using this
      · rw [List.getElem?_append_right (Nat.le_refl _)]
        simp

/-- The ways of the walk. -/
theorem digP_none_big {c : UInt8} {m : Nat} {l : List UInt8} {k : Nat} (hk : k ≤ l.length) (ha : (l.take k).all isDig = true) (hv : m < val (l.take k)) : digP c m l = none := by
  unfold digP
  refine if_pos (.inr (.inr (.inl ?_)))
  have h := run_ge hk ha
  have e : l.take (run l) = l.take k ++ (l.take (run l)).drop k := by
    have e' := (List.take_append_drop k (l.take (run l))).symm
    rw [List.take_take, Nat.min_eq_left h] at e'
    exact e'
  rw [e]
  exact Nat.lt_of_lt_of_le hv (val_mono _ _)
theorem digP_none_zero {c : UInt8} {m : Nat} {l : List UInt8} (h : run l = 0) : digP c m l = none := if_pos (.inl h)
theorem digP_none_lead {c : UInt8} {m : Nat} {l : List UInt8} (h : 1 < run l) (h0 : l.head? = some 48) : digP c m l = none := if_pos (.inr (.inl ⟨h, h0⟩))
theorem digP_none_end {c : UInt8} {m : Nat} {l : List UInt8} (h : l[run l]? ≠ some c) : digP c m l = none := if_pos (.inr (.inr (.inr h)))
theorem digP_yes {c : UInt8} {m : Nat} {l : List UInt8} (h0 : run l ≠ 0) (h1 : 1 < run l → l.head? ≠ some 48) (h2 : val (l.take (run l)) ≤ m) (h3 : l[run l]? = some c) : digP c m l = some (val (l.take (run l)), l.drop (run l + 1)) := by
  unfold digP
  rw [if_neg]
  simp only [not_or, Nat.not_lt, not_and, Classical.not_not, ne_eq]
  exact ⟨h0, h1, h2, h3⟩

end Go.Proofs.YtjlndgkahmcfdaaDoor
