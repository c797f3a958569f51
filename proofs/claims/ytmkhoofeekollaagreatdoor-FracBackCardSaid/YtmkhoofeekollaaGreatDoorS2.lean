/- Read of any string by the text that it is, or is not, for the law FracBack. Conditions: lengths; the tables of math/bits and strconv as their texts lay them; the variable MaxLen of internal/bytealg holds an int. -/
import Derived.Test.YtmkhoofeekollaaGreatDoorS1
import Derived.Test.YtmkhoofeekollaaGreatDoorF6
namespace Go.Proofs.YtmkhoofeekollaaGreatDoor
set_option maxRecDepth 20000
open Go.RowKit
open Go.Lib
theorem dgB_byte {d : Nat} (h : d < 10) : dgB (UInt8.ofNat (48 + d)) = true := by
  unfold dgB
  rw [dg_byte h]
  simp
  omega
theorem dc_ne (n : Nat) : decDigits n ≠ [] := by
  by_cases h : n < 10
  · rw [dc_small h]; simp
  · rw [dc_big h]; simp
theorem dc_head (n : Nat) (h : 0 < n) : (decDigits n).head? ≠ some 48 := by
  induction n using Nat.strongRecOn with
  | _ n ih =>
    by_cases h10 : n < 10
    · rw [dc_small h10]
      simp only [List.head?_cons]
      intro e
      have e' := congrArg UInt8.toNat (Option.some.inj e)
      rw [dg_byte h10] at e'
      have h48 : (48 : UInt8).toNat = 48 := rfl
      omega
    · rw [dc_big h10]
      have := ih (n / 10) (by omega) (by omega)
      cases hd : decDigits (n / 10) with
      | nil => exact absurd hd (dc_ne _)
      | cons a t => rw [hd] at this; simpa using this
theorem dc_all (n : Nat) : (decDigits n).all dgB = true := by
  induction n using Nat.strongRecOn with
  | _ n ih =>
    by_cases h : n < 10
    · rw [dc_small h]
      rw [List.all_cons, dgB_byte h]
      rfl
    · rw [dc_big h, List.all_append, ih (n / 10) (by omega)]
      rw [List.all_cons, dgB_byte (show n % 10 < 10 by omega)]
      rfl
theorem vl_dec (n : Nat) : vl (decDigits n) = n := by
  induction n using Nat.strongRecOn with
  | _ n ih =>
    by_cases h : n < 10
    · rw [dc_small h]
      unfold vl
      simp only [List.foldl_cons, List.foldl_nil]
      rw [dg_byte h]
      omega
    · rw [dc_big h, vl_snoc, ih (n / 10) (by omega), dg_byte (by omega)]
      omega
theorem dec_digOk (n : Nat) : digOk (decDigits n) = true ∧ (0 < n → decDigits n ≠ [48]) := by
  have h1 := dc_ne n
  have h2 := dc_all n
  have h3 : 0 < n → decDigits n ≠ [48] := fun hn e => by
    have := dc_head n hn
    rw [e] at this
    exact this rfl
  refine ⟨?_, h3⟩
  unfold digOk
  simp only [Bool.and_eq_true, Bool.or_eq_true, decide_eq_true_eq]
  refine ⟨⟨h1, h2⟩, ?_⟩
  rcases Nat.eq_zero_or_pos n with h0 | h0
  · subst h0; exact .inr (by rw [dc_small (by omega)]; rfl)
  · exact .inl (dc_head n h0)
theorem itoa_txtOk (z : Int) : txtOk (itoa z) = some z := by
  rcases Int.lt_or_le z 0 with hz | hz
  · obtain ⟨u, rfl⟩ : ∃ u : Nat, z = -(u : Int) := ⟨z.natAbs, by omega⟩
    rw [itoa_neg u (by omega)]
    obtain ⟨h1, h2⟩ := dec_digOk u
    have h3 := h2 (by omega)
    rw [txtOk, if_pos (by rfl), if_pos (by rw [h1, Bool.true_and]; simpa using h3), vl_dec]
  · obtain ⟨u, rfl⟩ : ∃ u : Nat, z = u := ⟨z.toNat, by omega⟩
    rw [itoa_nonneg]
    obtain ⟨h1, _⟩ := dec_digOk u
    have h2 := dc_all u
    cases hd : decDigits u with
    | nil => exact absurd hd (dc_ne u)
    | cons c r =>
      rw [hd] at h1 h2
      rw [List.all_cons, Bool.and_eq_true] at h2
      obtain ⟨d, hdd, _, e⟩ := byte_of_dg h2.1
      rw [txtOk, if_neg (by omega), if_pos h1, ← hd, vl_dec]

theorem index47 (b : List UInt8) : ∀ a : List UInt8, (∀ c ∈ a, c ≠ 47) → Lib.index (a ++ 47 :: b) [47] = (a.length : Int)
  | [], _ => by simp [Lib.index, List.isPrefixOf]
  | c :: a, h => by
    have h1 : c ≠ 47 := h c (by simp)
    have ih := index47 b a (fun d hd => h d (by simp [hd]))
    have h2 : ([47] : List UInt8).isPrefixOf (c :: (a ++ 47 :: b)) = false := by
      simp only [List.isPrefixOf, Bool.and_eq_false_iff, beq_eq_false_iff_ne]
      exact .inl fun e => h1 e.symm
    have h3 : ((a.length : Int) == -1) = false := by rw [beq_eq_false_iff_ne]; omega
    rw [List.cons_append, Lib.index, h2, ih]
    simp only [h3, Bool.false_eq_true, if_false, List.length_cons]
    omega
theorem index47_no : ∀ a : List UInt8, (∀ c ∈ a, c ≠ 47) → Lib.index a [47] = -1
  | [], _ => rfl
  | c :: a, h => by
    have h1 : c ≠ 47 := h c (by simp)
    have ih := index47_no a (fun d hd => h d (by simp [hd]))
    have h2 : ([47] : List UInt8).isPrefixOf (c :: a) = false := by
      simp only [List.isPrefixOf, Bool.and_eq_false_iff, beq_eq_false_iff_ne]
      exact .inl fun e => h1 e.symm
    rw [Lib.index, h2, ih]
    rfl
theorem cut47 {a b : List UInt8} (h : ∀ c ∈ a, c ≠ 47) : Lib.cut (a ++ 47 :: b) [47] = (a, b, true) := by
  unfold Lib.cut
  rw [index47 b a h, if_pos (by omega)]
  simp
theorem cut47_no {a : List UInt8} (h : ∀ c ∈ a, c ≠ 47) : Lib.cut a [47] = (a, [], false) := by
  unfold Lib.cut
  rw [index47_no a h, if_neg (by decide)]
theorem split47 : ∀ l : List UInt8, (∀ c ∈ l, c ≠ 47) ∨ ∃ a b, l = a ++ 47 :: b ∧ ∀ c ∈ a, c ≠ 47
  | [] => .inl (by simp)
  | c :: l => by
    by_cases h : c = 47
    · exact .inr ⟨[], l, by rw [h]; rfl, by simp⟩
    · rcases split47 l with g | ⟨a, b, rfl, g⟩
      · refine .inl fun d hd => ?_
        rcases List.mem_cons.1 hd with rfl | hd
        · exact h
        · exact g d hd
      · refine .inr ⟨c :: a, b, rfl, fun d hd => ?_⟩
        rcases List.mem_cons.1 hd with rfl | hd
        · exact h
        · exact g d hd
theorem itoa_no47 (z : Int) : ∀ c ∈ Lib.itoa z, c ≠ 47 := by
  have key : ∀ u : Nat, ∀ c ∈ Lib.decDigits u, c ≠ 47 := fun u c hc e => by
    have := List.all_eq_true.1 (dc_all u) c hc
    subst e
    exact absurd this (by decide)
  intro c hc
  rcases Int.lt_or_le z 0 with hz | hz
  · obtain ⟨u, rfl⟩ : ∃ u : Nat, z = -(u : Int) := ⟨z.natAbs, by omega⟩
    rw [Lib.itoa_neg u (by omega)] at hc
    rcases List.mem_cons.1 hc with rfl | hc
    · decide
    · exact key u c hc
  · obtain ⟨u, rfl⟩ : ∃ u : Nat, z = u := ⟨z.toNat, by omega⟩
    rw [Lib.itoa_nonneg] at hc
    exact key u c hc
theorem cut_txtF (x : Rat) : Lib.cut (txtF x) [47] = (Lib.itoa x.num, Lib.itoa (x.den : Int), true) := by
  unfold txtF
  rw [List.append_assoc]
  exact cut47 (itoa_no47 _)
/-- What a string is, to Read. -/
theorem read_plain (l : List UInt8) (h : ∀ x, txtF x ≠ l) : (∃ p q, txtOk (Lib.cut l [47]).1 = some p ∧ txtOk (Lib.cut l [47]).2.1 = some q ∧ ¬ (0 < q ∧ Int.gcd p q = 1)) ∨ (txtOk (Lib.cut l [47]).1 = none ∨ txtOk (Lib.cut l [47]).2.1 = none) := by
  cases h1 : txtOk (Lib.cut l [47]).1 with
  | none => exact .inr (.inl rfl)
  | some p =>
    cases h2 : txtOk (Lib.cut l [47]).2.1 with
    | none => exact .inr (.inr rfl)
    | some q =>
      refine .inl ⟨p, q, rfl, rfl, fun ⟨hq, hg⟩ => ?_⟩
      rcases split47 l with g | ⟨a, b, rfl, g⟩
      · rw [cut47_no g] at h2
        cases h2
      · rw [cut47 g] at h1 h2
        obtain ⟨d, rfl⟩ : ∃ d : Nat, q = d := ⟨q.toNat, by omega⟩
        refine h ⟨p, d, by omega, by simpa [Nat.Coprime, Int.gcd] using hg⟩ ?_
        unfold txtF
        dsimp only
        rw [(txtOk_itoa h1).1, (txtOk_itoa h2).1, List.append_assoc]
        rfl
section
variable {w : World}
theorem read_yes (s : ByteArray) (x : Rat) (h : s.data.toList = txtF x) (z1 : (Lib.itoa x.num).length ≤ 402) (z2 : (Lib.itoa (x.den : Int)).length ≤ 402) (hT : TabZ w) (hM : MaxL w) :
    Calls Tryz.prog 27 #[.string s] w (OkR w 67 x) := by
  have hs : s.size = (txtF x).length := by rw [← h, size_list]
  have hl : (txtF x).length = (Lib.itoa x.num).length + 1 + (Lib.itoa (x.den : Int)).length := by unfold txtF; simp; omega
  refine read_two2 s (p := x.num) (q := (x.den : Int)) (by omega) hT hM ?_ ?_ ?_ ?_ ⟨rfl, rfl⟩ <;> rw [h, cut_txtF]
  · exact itoa_txtOk _
  · show txtOk (Lib.itoa (x.den : Int)) = some (x.den : Int)
    exact itoa_txtOk _
  · exact z1
  · exact z2
theorem read_no (s : ByteArray) (h : ∀ x, txtF x ≠ s.data.toList) (hs : s.size ≤ 402) (hT : TabZ w) (hM : MaxL w) :
    Calls Tryz.prog 27 #[.string s] w (fun e w' => e = .returned (.tuple #[.agg #[.int .i64 0, .slice none 0 0, .int .i64 0, .slice none 0 0], .int .i64 2]) ∧ Below w.heap.size w w') := by
  have hl : s.data.toList.length ≤ 402 := by rw [size_list]; exact hs
  have z : (Lib.cut s.data.toList [47]).1.length ≤ 402 ∧ (Lib.cut s.data.toList [47]).2.1.length ≤ 402 := by
    rcases split47 s.data.toList with g | ⟨a, b, e, g⟩
    · rw [cut47_no g]; exact ⟨hl, by simp⟩
    · rw [e, List.length_append, List.length_cons] at hl
      rw [e, cut47 g]
      exact ⟨by show a.length ≤ 402; omega, by show b.length ≤ 402; omega⟩
  rcases read_plain _ h with ⟨p, q, t1, t2, hx⟩ | ht
  · exact read_not2 s (by omega) hT hM t1 t2 z.1 z.2 hx
  · exact read_bad s (by omega) hT hM ht z.1 z.2
/-- How large what is read can be. -/
theorem read_sz {x : Rat} (h : (txtF x).length ≤ 300) : Sz 50 x.num ∧ Sz 50 (x.den : Int) ∧ (Lib.itoa x.num).length ≤ 402 ∧ (Lib.itoa (x.den : Int)).length ≤ 402 := by
  have hl : (txtF x).length = (Lib.itoa x.num).length + 1 + (Lib.itoa (x.den : Int)).length := by unfold txtF; simp; omega
  have p : (10 : Nat) ^ 300 ≤ 1048576 ^ 50 := by decide +kernel
  have key : ∀ z : Int, (Lib.itoa z).length ≤ 300 → Sz 50 z := fun z hz =>
    Nat.lt_of_lt_of_le (txtOk_itoa (itoa_txtOk z)).2 (Nat.le_trans (Nat.pow_le_pow_right (by decide) hz) p)
  exact ⟨key _ (by omega), key _ (by omega), by omega, by omega⟩
end
end Go.Proofs.YtmkhoofeekollaaGreatDoor
