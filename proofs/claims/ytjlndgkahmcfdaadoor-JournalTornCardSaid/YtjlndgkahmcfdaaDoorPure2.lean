/- Plain facts: what a reader reads is exactly an encoding that stands ahead. No program, no condition. -/
import Derived.Test.YtjlndgkahmcfdaaDoorRd2
import Derived.Test.YtjlndgkahmcfdaaDoorWr
namespace Go.Proofs.YtjlndgkahmcfdaaDoor
set_option maxRecDepth 8000
open Go.Lib

/-- p reads exactly the encodings by enc of what is ok. -/
def Codec {α : Type} (p : List UInt8 → Option (α × List UInt8)) (enc : α → List UInt8) (ok : α → Prop) : Prop := ∀ l x r, p l = some (x, r) ↔ ok x ∧ l = enc x ++ r

theorem num_codec : Codec numP (fun n : Nat => wInt n) (fun n => n ≤ 9223372036854775807) := by
  intro l n r
  unfold numP
  rw [digP_some (by decide)]
  unfold wInt
  show _ ↔ n ≤ 9223372036854775807 ∧ l = (itoa (n : Int) ++ [59]) ++ r
  rw [itoa_nonneg, List.append_assoc]
  rfl

theorem dig_head (n : Nat) (t : List UInt8) : ∀ r, decDigits n ++ t ≠ 45 :: r := by
  intro r h
  have ha := decDigits_all n
  cases hd : decDigits n with
  | nil => exact absurd hd (decDigits_ne n)
  | cons a u =>
    rw [hd] at h ha
    have : a = 45 := by injection h
    subst this
    rw [List.all_cons] at ha
    have h45 : isDig 45 = false := by decide
    rw [h45] at ha
    cases ha

theorem intP_plain {l : List UInt8} (h : ∀ r, l ≠ 45 :: r) : intP l = match numP l with
    | some (n, r') => some ((n : Int), r')
    | none => none := by
  unfold intP
  split
  · rename_i r
    exact absurd rfl (h r)
  · rfl

theorem int_codec : Codec intP wInt (fun n => -9223372036854775808 ≤ n ∧ n ≤ 9223372036854775807) := by
  intro l v r
  by_cases hm : ∃ t, l = 45 :: t
  · obtain ⟨t, rfl⟩ := hm
    have hI : intP (45 :: t) = match digP 59 9223372036854775808 t with
      | some (n, r') => if n = 0 then none else some (-(n : Int), r')
      | none => none := rfl
    rw [hI]
    constructor
    · intro h
      cases ho : digP 59 9223372036854775808 t with
      | none => rw [ho] at h; cases h
      | some o =>
        obtain ⟨n, r'⟩ := o
        rw [ho] at h
        have h : (if n = 0 then none else some (-(n : Int), r')) = some (v, r) := h
        by_cases hn : n = 0
        · rw [if_pos hn] at h; cases h
        · rw [if_neg hn] at h
          simp only [Option.some.injEq, Prod.mk.injEq] at h
          obtain ⟨rfl, rfl⟩ := h
          obtain ⟨h1, h2⟩ := (digP_some (by decide)).1 ho
          refine ⟨by omega, ?_⟩
          unfold wInt
          rw [itoa_neg n (by omega), h2]
          simp
    · rintro ⟨h1, h2⟩
      by_cases hv : v < 0
      · obtain ⟨n, rfl⟩ : ∃ n : Nat, v = -(n : Int) := ⟨v.natAbs, by omega⟩
        unfold wInt at h2
        rw [itoa_neg n (by omega)] at h2
        have h3 : t = decDigits n ++ 59 :: r := by simpa using h2
        rw [(digP_some (by decide)).2 ⟨by omega, h3⟩]
        show (if n = 0 then none else some (-(n : Int), r)) = _
        rw [if_neg (by omega)]
      · obtain ⟨n, rfl⟩ : ∃ n : Nat, v = (n : Int) := ⟨v.toNat, by omega⟩
        unfold wInt at h2
        rw [itoa_nonneg, List.append_assoc] at h2
        exact absurd h2.symm (dig_head n _ _)
  · have hp : ∀ t, l ≠ 45 :: t := fun t h => hm ⟨t, h⟩
    rw [intP_plain hp]
    constructor
    · intro h
      cases ho : numP l with
      | none => rw [ho] at h; cases h
      | some o =>
        obtain ⟨n, r'⟩ := o
        rw [ho] at h
        have h : some ((n : Int), r') = some (v, r) := h
        simp only [Option.some.injEq, Prod.mk.injEq] at h
        obtain ⟨rfl, rfl⟩ := h
        obtain ⟨h1, h2⟩ := (num_codec _ _ _).1 ho
        exact ⟨by omega, h2⟩
    · rintro ⟨h1, h2⟩
      by_cases hv : v < 0
      · obtain ⟨n, rfl⟩ : ∃ n : Nat, v = -(n : Int) := ⟨v.natAbs, by omega⟩
        unfold wInt at h2
        rw [itoa_neg n (by omega)] at h2
        exact absurd h2 (hp _)
      · obtain ⟨n, rfl⟩ : ∃ n : Nat, v = (n : Int) := ⟨v.toNat, by omega⟩
        rw [(num_codec l n r).2 ⟨by omega, h2⟩]

theorem text_codec : Codec textP wText (fun s => s.length ≤ 9223372036854775807) := by
  intro l s r
  constructor
  · intro h
    cases ho : digP 58 9223372036854775807 l with
    | none => rw [text_none ho] at h; cases h
    | some o =>
      obtain ⟨n, t⟩ := o
      by_cases h1 : t.length < n
      · rw [text_short ho h1] at h; cases h
      · by_cases h2 : (t.drop n).head? = some 44
        · rw [text_good ho (by omega) h2] at h
          simp only [Option.some.injEq, Prod.mk.injEq] at h
          obtain ⟨rfl, rfl⟩ := h
          obtain ⟨h3, h4⟩ := (digP_some (by decide)).1 ho
          have hl : (t.take n).length = n := by rw [List.length_take]; omega
          refine ⟨by omega, ?_⟩
          unfold wText
          rw [hl, h4]
          have ht : t = t.take n ++ 44 :: (t.drop n).tail := by
            cases hd : t.drop n with
            | nil => rw [hd] at h2; cases h2
            | cons a u =>
              rw [hd] at h2
              have : a = 44 := Option.some.inj h2
              subst this
              rw [List.tail_cons, ← hd, List.take_append_drop]
          have hx : decDigits n ++ 58 :: (t.take n ++ [44]) ++ (t.drop n).tail = decDigits n ++ 58 :: (t.take n ++ 44 :: (t.drop n).tail) := by simp
          rw [hx, ← ht]
        · rw [text_bad ho h2] at h; cases h
  · rintro ⟨h1, rfl⟩
    have ho : digP 58 9223372036854775807 (wText s ++ r) = some (s.length, s ++ 44 :: r) := (digP_some (by decide)).2 ⟨h1, by unfold wText; simp⟩
    rw [text_good ho (by simp) (by simp)]
    simp

end Go.Proofs.YtjlndgkahmcfdaaDoor
