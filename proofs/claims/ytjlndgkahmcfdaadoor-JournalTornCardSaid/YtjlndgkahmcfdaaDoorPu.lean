/- Plain lists: bytes put into a string at an offset; functions that are changed at one place. No condition. -/
namespace Go.Proofs.YtjlndgkahmcfdaaDoor
set_option maxRecDepth 8000

/-- f, but v at x. -/
def upd {α : Type} (f : Int → α) (x : Int) (v : α) : Int → α := fun y => if y = x then v else f y
theorem upd_same {α : Type} (f : Int → α) (x : Int) (v : α) : upd f x v x = v := by simp [upd]
theorem upd_other {α : Type} {f : Int → α} {x y : Int} (v : α) (h : y ≠ x) : upd f x v y = f y := by simp [upd, h]
theorem upd_self {α : Type} (f : Int → α) (x : Int) : upd f x (f x) = f := by
  funext y
  unfold upd
  split
  · rename_i h; rw [h]
  · rfl

/-- b, with bytes 0 up to the length n. -/
def extB (b : List UInt8) (n : Nat) : List UInt8 := b ++ List.replicate (n - b.length) 0
theorem extB_len (b : List UInt8) (n : Nat) : (extB b n).length = max b.length n := by simp [extB]; omega
theorem extB_le {b : List UInt8} {n : Nat} (h : n ≤ b.length) : extB b n = b := by
  unfold extB
  rw [Nat.sub_eq_zero_of_le h]
  simp

/-- s put into b at the offset a. -/
def putB (b : List UInt8) (a : Nat) (s : List UInt8) : List UInt8 :=
  (extB b (a + s.length)).take a ++ (s ++ (extB b (a + s.length)).drop (a + s.length))
theorem putB_len (b : List UInt8) (a : Nat) (s : List UInt8) : (putB b a s).length = max b.length (a + s.length) := by
  have := extB_len b (a + s.length)
  simp [putB]
  omega

/-- Byte i of b, or 0 behind its end. -/
def atB (b : List UInt8) (i : Nat) : UInt8 := b[i]?.getD 0
theorem atB_ge {b : List UInt8} {i : Nat} (h : b.length ≤ i) : atB b i = 0 := by
  unfold atB
  rw [List.getElem?_eq_none h]
  rfl
theorem atB_lt {b : List UInt8} {i : Nat} (h : i < b.length) : b[i]? = some (atB b i) := by
  unfold atB
  rw [List.getElem?_eq_getElem h]
  rfl
theorem ext_atB {b c : List UInt8} (hl : b.length = c.length) (h : ∀ i, i < b.length → atB b i = atB c i) : b = c := by
  apply List.ext_getElem?
  intro i
  rcases Nat.lt_or_ge i b.length with hi | hi
  · rw [atB_lt hi, atB_lt (by omega), h i hi]
  · rw [List.getElem?_eq_none hi, List.getElem?_eq_none (by omega)]
theorem extB_at (b : List UInt8) (n i : Nat) : atB (extB b n) i = atB b i := by
  unfold atB extB
  rcases Nat.lt_or_ge i b.length with hi | hi
  · rw [List.getElem?_append_left hi]
  · rw [List.getElem?_append_right hi, List.getElem?_replicate, List.getElem?_eq_none hi]
    split <;> rfl
theorem putB_at (b : List UInt8) (a : Nat) (s : List UInt8) (i : Nat) : atB (putB b a s) i = if a ≤ i ∧ i < a + s.length then atB s (i - a) else atB b i := by
  have hl := extB_len b (a + s.length)
  have ht : ((extB b (a + s.length)).take a).length = a := by rw [List.length_take]; omega
  have e : atB (putB b a s) i = ((putB b a s)[i]?).getD 0 := rfl
  rw [e]
  unfold putB
  rcases Nat.lt_or_ge i a with h | h
  · rw [List.getElem?_append_left (by omega), List.getElem?_take, if_pos h, if_neg (by omega), ← extB_at b (a + s.length) i]
    rfl
  · rw [List.getElem?_append_right (by omega), ht]
    rcases Nat.lt_or_ge (i - a) s.length with h2 | h2
    · rw [List.getElem?_append_left h2, if_pos (by omega)]
      rfl
    · rw [List.getElem?_append_right h2, if_neg (by omega), List.getElem?_drop, ← extB_at b (a + s.length) i, show a + s.length + (i - a - s.length) = i from by omega]
      rfl
theorem take_atB {b : List UInt8} {n i : Nat} (h : i < n) : atB (b.take n) i = atB b i := by
  unfold atB
  rw [List.getElem?_take, if_pos h]
theorem drop_atB {b : List UInt8} {n i : Nat} : atB (b.drop n) i = atB b (n + i) := by
  unfold atB
  rw [List.getElem?_drop]

end Go.Proofs.YtjlndgkahmcfdaaDoor
