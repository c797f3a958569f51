/- Plain facts: what a reader reads is exactly an encoding that stands ahead. No program, no condition. -/
import Derived.Test.YtkkaancpokahcaaDoorRd2
import Derived.Test.YtkkaancpokahcaaDoorWl
namespace Go.Proofs.YtkkaancpokahcaaDoor
open Go.Lib

/-- How many values, one after the other. -/
def elemsP {α : Type} (p : List UInt8 → Option (α × List UInt8)) : Nat → List UInt8 → Option (List α × List UInt8)
  | 0, l => some ([], l)
  | n + 1, l => match p l with
    | none => none
    | some (x, r) => match elemsP p n r with
      | none => none
      | some (xs, r') => some (x :: xs, r')
/-- A list's encoding ahead. -/
def listP {α : Type} (p : List UInt8 → Option (α × List UInt8)) (l : List UInt8) : Option (List α × List UInt8) :=
  match digP 91 9223372036854775807 l with
  | none => none
  | some (n, r) => match elemsP p n r with
    | none => none
    | some (xs, r') => if r'.head? = some 93 then some (xs, r'.tail) else none

/-- p reads exactly the encodings by enc of what is ok. -/
def Codec {α : Type} (p : List UInt8 → Option (α × List UInt8)) (enc : α → List UInt8) (ok : α → Prop) : Prop := ∀ l x r, p l = some (x, r) ↔ ok x ∧ l = enc x ++ r

theorem num_codec : Codec numP (fun n : Nat => wInt n) (fun n => n ≤ 9223372036854775807) := by
  intro l n r
  unfold numP
  rw [digP_some (by decide)]
  unfold wInt
  show _ ↔ n ≤ 9223372036854775807 ∧ l = (itoa (n : Int) ++ [59]) ++ r
  rw [itoa_nonneg, List.append_assoc]
  rfl

theorem dig_head (n : Nat) (t : List UInt8) : ∀ r, decDigits n ++ t ≠ 45 :: r := by
  intro r h
  have ha := decDigits_all n
  cases hd : decDigits n with
  | nil => exact absurd hd (decDigits_ne n)
  | cons a u =>
    rw [hd] at h ha
    have : a = 45 := by injection h
    subst this
    rw [List.all_cons] at ha
    have h45 : isDig 45 = false := by decide
    rw [h45] at ha
    cases ha

theorem intP_plain {l : List UInt8} (h : ∀ r, l ≠ 45 :: r) : intP l = match numP l with
    | some (n, r') => some ((n : Int), r')
    | none => none := by
  unfold intP
  split
  · rename_i r
    exact absurd rfl (h r)
  · rfl

theorem int_codec : Codec intP wInt (fun n => -9223372036854775808 ≤ n ∧ n ≤ 9223372036854775807) := by
  intro l v r
  by_cases hm : ∃ t, l = 45 :: t
  · obtain ⟨t, rfl⟩ := hm
    have hI : intP (45 :: t) = match digP 59 9223372036854775808 t with
      | some (n, r') => if n = 0 then none else some (-(n : Int), r')
      | none => none := rfl
    rw [hI]
    constructor
    · intro h
      cases ho : digP 59 9223372036854775808 t with
      | none => rw [ho] at h; cases h
      | some o =>
        obtain ⟨n, r'⟩ := o
        rw [ho] at h
        have h : (if n = 0 then none else some (-(n : Int), r')) = some (v, r) := h
        by_cases hn : n = 0
        · rw [if_pos hn] at h; cases h
        · rw [if_neg hn] at h
          simp only [Option.some.injEq, Prod.mk.injEq] at h
          obtain ⟨rfl, rfl⟩ := h
          obtain ⟨h1, h2⟩ := (digP_some (by decide)).1 ho
          refine ⟨by omega, ?_⟩
          unfold wInt
          rw [itoa_neg n (by omega), h2]
          simp
    · rintro ⟨h1, h2⟩
      by_cases hv : v < 0
      · obtain ⟨n, rfl⟩ : ∃ n : Nat, v = -(n : Int) := ⟨v.natAbs, by omega⟩
        unfold wInt at h2
        rw [itoa_neg n (by omega)] at h2
        have h3 : t = decDigits n ++ 59 :: r := by simpa using h2
        rw [(digP_some (by decide)).2 ⟨by omega, h3⟩]
        show (if n = 0 then none else some (-(n : Int), r)) = _
        rw [if_neg (by omega)]
      · obtain ⟨n, rfl⟩ : ∃ n : Nat, v = (n : Int) := ⟨v.toNat, by omega⟩
        unfold wInt at h2
        rw [itoa_nonneg, List.append_assoc] at h2
        exact absurd h2.symm (dig_head n _ _)
  · have hp : ∀ t, l ≠ 45 :: t := fun t h => hm ⟨t, h⟩
    rw [intP_plain hp]
    constructor
    · intro h
      cases ho : numP l with
      | none => rw [ho] at h; cases h
      | some o =>
        obtain ⟨n, r'⟩ := o
        rw [ho] at h
        have h : some ((n : Int), r') = some (v, r) := h
        simp only [Option.some.injEq, Prod.mk.injEq] at h
        obtain ⟨rfl, rfl⟩ := h
        obtain ⟨h1, h2⟩ := (num_codec _ _ _).1 ho
        exact ⟨by omega, h2⟩
    · rintro ⟨h1, h2⟩
      by_cases hv : v < 0
      · obtain ⟨n, rfl⟩ : ∃ n : Nat, v = -(n : Int) := ⟨v.natAbs, by omega⟩
        unfold wInt at h2
        rw [itoa_neg n (by omega)] at h2
        exact absurd h2 (hp _)
      · obtain ⟨n, rfl⟩ : ∃ n : Nat, v = (n : Int) := ⟨v.toNat, by omega⟩
        rw [(num_codec l n r).2 ⟨by omega, h2⟩]

theorem text_codec : Codec textP wText (fun s => s.length ≤ 9223372036854775807) := by
  intro l s r
  constructor
  · intro h
    cases ho : digP 58 9223372036854775807 l with
    | none => rw [text_none ho] at h; cases h
    | some o =>
      obtain ⟨n, t⟩ := o
      by_cases h1 : t.length < n
      · rw [text_short ho h1] at h; cases h
      · by_cases h2 : (t.drop n).head? = some 44
        · rw [text_good ho (by omega) h2] at h
          simp only [Option.some.injEq, Prod.mk.injEq] at h
          obtain ⟨rfl, rfl⟩ := h
          obtain ⟨h3, h4⟩ := (digP_some (by decide)).1 ho
          have hl : (t.take n).length = n := by rw [List.length_take]; omega
          refine ⟨by omega, ?_⟩
          unfold wText
          rw [hl, h4]
          have ht : t = t.take n ++ 44 :: (t.drop n).tail := by
            cases hd : t.drop n with
            | nil => rw [hd] at h2; cases h2
            | cons a u =>
              rw [hd] at h2
              have : a = 44 := Option.some.inj h2
              subst this
              rw [List.tail_cons, ← hd, List.take_append_drop]
          have hx : decDigits n ++ 58 :: (t.take n ++ [44]) ++ (t.drop n).tail = decDigits n ++ 58 :: (t.take n ++ 44 :: (t.drop n).tail) := by simp
          rw [hx, ← ht]
        · rw [text_bad ho h2] at h; cases h
  · rintro ⟨h1, rfl⟩
    have ho : digP 58 9223372036854775807 (wText s ++ r) = some (s.length, s ++ 44 :: r) := (digP_some (by decide)).2 ⟨h1, by unfold wText; simp⟩
    rw [text_good ho (by simp) (by simp)]
    simp

theorem elems_codec {α : Type} {p : List UInt8 → Option (α × List UInt8)} {enc : α → List UInt8} {ok : α → Prop} (hc : Codec p enc ok) : ∀ (n : Nat) (l : List UInt8) (xs : List α) (r : List UInt8),
    elemsP p n l = some (xs, r) ↔ xs.length = n ∧ (∀ x ∈ xs, ok x) ∧ l = xs.flatMap enc ++ r := by
  intro n
  induction n with
  | zero =>
    intro l xs r
    unfold elemsP
    constructor
    · intro h
      simp only [Option.some.injEq, Prod.mk.injEq] at h
      obtain ⟨rfl, rfl⟩ := h
      simp
    · rintro ⟨h1, _, h3⟩
      have : xs = [] := List.eq_nil_of_length_eq_zero h1
      subst this
      simp at h3
      rw [h3]
  | succ n ih =>
    intro l xs r
    unfold elemsP
    constructor
    · intro h
      cases ho : p l with
      | none => rw [ho] at h; cases h
      | some o =>
        obtain ⟨x, t⟩ := o
        rw [ho] at h
        cases he : elemsP p n t with
        | none => simp only [he] at h; cases h
        | some q =>
          obtain ⟨ys, t'⟩ := q
          simp only [he, Option.some.injEq, Prod.mk.injEq] at h
          obtain ⟨rfl, rfl⟩ := h
          obtain ⟨h1, h2⟩ := (hc _ _ _).1 ho
          obtain ⟨h3, h4, h5⟩ := (ih _ _ _).1 he
          refine ⟨by simp [h3], fun y hy => ?_, ?_⟩
          · rcases List.mem_cons.1 hy with rfl | hy
            · exact h1
            · exact h4 y hy
          · rw [h2, h5]; simp
    · rintro ⟨h1, h2, h3⟩
      cases xs with
      | nil => simp at h1
      | cons x ys =>
        have ho : p l = some (x, ys.flatMap enc ++ r) := (hc _ _ _).2 ⟨h2 x (by simp), by rw [h3]; simp⟩
        have he : elemsP p n (ys.flatMap enc ++ r) = some (ys, r) := (ih _ _ _).2 ⟨by simpa using h1, fun y hy => h2 y (by simp [hy]), rfl⟩
        simp only [ho, he]

theorem list_codec {α : Type} {p : List UInt8 → Option (α × List UInt8)} {enc : α → List UInt8} {ok : α → Prop} (hc : Codec p enc ok) : Codec (listP p) (wList enc) (fun xs => xs.length ≤ 9223372036854775807 ∧ ∀ x ∈ xs, ok x) := by
  intro l xs r
  unfold listP
  constructor
  · intro h
    cases ho : digP 91 9223372036854775807 l with
    | none => simp only [ho] at h; cases h
    | some o =>
      obtain ⟨n, t⟩ := o
      simp only [ho] at h
      cases he : elemsP p n t with
      | none => simp only [he] at h; cases h
      | some q =>
        obtain ⟨ys, t'⟩ := q
        simp only [he] at h
        by_cases hh : t'.head? = some 93
        · rw [if_pos hh] at h
          simp only [Option.some.injEq, Prod.mk.injEq] at h
          obtain ⟨rfl, rfl⟩ := h
          obtain ⟨h1, h2⟩ := (digP_some (by decide)).1 ho
          obtain ⟨h3, h4, h5⟩ := (elems_codec hc _ _ _ _).1 he
          refine ⟨⟨by omega, h4⟩, ?_⟩
          unfold wList
          rw [h2, h5, h3]
          cases ht : t' with
          | nil => rw [ht] at hh; cases hh
          | cons a u =>
            rw [ht] at hh
            have : a = 93 := Option.some.inj hh
            subst this
            simp
        · rw [if_neg hh] at h; cases h
  · rintro ⟨⟨h1, h2⟩, rfl⟩
    have ho : digP 91 9223372036854775807 (wList enc xs ++ r) = some (xs.length, xs.flatMap enc ++ 93 :: r) := (digP_some (by decide)).2 ⟨h1, by unfold wList; simp⟩
    have he : elemsP p xs.length (xs.flatMap enc ++ 93 :: r) = some (xs, 93 :: r) := (elems_codec hc _ _ _ _).2 ⟨rfl, h2, rfl⟩
    simp only [ho, he]
    simp

/-- The state of a loop over the elements: xs have been read, k are to come. -/
theorem elems_step {α : Type} {p : List UInt8 → Option (α × List UInt8)} {N k : Nat} {r0 r t : List UInt8} {xs : List α} {x : α}
    (h : elemsP p N r0 = (elemsP p (k + 1) r).map fun q => (xs ++ q.1, q.2)) (hp : p r = some (x, t)) : elemsP p N r0 = (elemsP p k t).map fun q => ((xs ++ [x]) ++ q.1, q.2) := by
  rw [h]
  rw [elemsP]
  simp only [hp]
  cases he : elemsP p k t with
  | none => rfl
  | some q => simp
theorem elems_fail {α : Type} {p : List UInt8 → Option (α × List UInt8)} {N k : Nat} {r0 r : List UInt8} {xs : List α}
    (h : elemsP p N r0 = (elemsP p (k + 1) r).map fun q => (xs ++ q.1, q.2)) (hp : p r = none) : elemsP p N r0 = none := by
  rw [h]
  rw [elemsP]
  simp only [hp]
  rfl
theorem elems_done {α : Type} {p : List UInt8 → Option (α × List UInt8)} {N : Nat} {r0 r : List UInt8} {xs : List α}
    (h : elemsP p N r0 = (elemsP p 0 r).map fun q => (xs ++ q.1, q.2)) : elemsP p N r0 = some (xs, r) := by
  rw [h]
  simp [elemsP]

end Go.Proofs.YtkkaancpokahcaaDoor
