/- Digits to the base 2^20, plainly. Conditions: none. -/
import Derived.Test.YtoocdokhljpokaaDoorMem
namespace Go.Proofs.YtoocdokhljpokaaDoor
set_option maxRecDepth 8000

/-- The value of digits, the lowest first. -/
def dval : List Nat → Nat
  | [] => 0
  | d :: l => d + 1048576 * dval l
/-- All are digits. -/
def Sml (l : List Nat) : Prop := ∀ d ∈ l, d < 1048576
/-- The last one is not 0. -/
def NoZ (l : List Nat) : Prop := l.getLast? ≠ some 0
def Norm (l : List Nat) : Prop := Sml l ∧ NoZ l
theorem Sml.nil : Sml [] := fun d h => by cases h
theorem Norm.nil : Norm [] := ⟨Sml.nil, by simp [NoZ]⟩
theorem Sml.tail {d : Nat} {l : List Nat} (h : Sml (d :: l)) : Sml l := fun x hx => h x (List.mem_cons_of_mem _ hx)
theorem Sml.head {d : Nat} {l : List Nat} (h : Sml (d :: l)) : d < 1048576 := h d List.mem_cons_self
theorem Sml.app {a b : List Nat} : Sml (a ++ b) ↔ Sml a ∧ Sml b := by
  constructor
  · intro h; exact ⟨fun x hx => h x (List.mem_append_left _ hx), fun x hx => h x (List.mem_append_right _ hx)⟩
  · rintro ⟨h1, h2⟩ x hx
    rcases List.mem_append.1 hx with hx | hx
    · exact h1 x hx
    · exact h2 x hx
theorem Sml.take {l : List Nat} (h : Sml l) (k : Nat) : Sml (l.take k) := fun x hx => h x (List.mem_of_mem_take hx)
theorem Sml.drop {l : List Nat} (h : Sml l) (k : Nat) : Sml (l.drop k) := fun x hx => h x (List.mem_of_mem_drop hx)
theorem Sml.at_ {l : List Nat} (h : Sml l) {i x : Nat} (e : l[i]? = some x) : x < 1048576 := h x (List.mem_of_getElem? e)
theorem Norm.tail {d : Nat} {l : List Nat} (h : Norm (d :: l)) : Norm l := by
  refine ⟨h.1.tail, ?_⟩
  cases l with
  | nil => simp [NoZ]
  | cons e l => have := h.2; simpa [NoZ] using this
theorem dval_app : ∀ a b : List Nat, dval (a ++ b) = dval a + 1048576 ^ a.length * dval b
  | [], b => by simp [dval]
  | d :: a, b => by
    show d + 1048576 * dval (a ++ b) = d + 1048576 * dval a + 1048576 ^ (a.length + 1) * dval b
    rw [dval_app a b, Nat.mul_add, Nat.pow_succ, Nat.add_assoc]
    congr 2
    rw [← Nat.mul_assoc, Nat.mul_comm 1048576 (1048576 ^ a.length)]
theorem dval_snoc (a : List Nat) (d : Nat) : dval (a ++ [d]) = dval a + 1048576 ^ a.length * d := by
  rw [dval_app]; simp [dval]
theorem dval_lt : ∀ {l : List Nat}, Sml l → dval l < 1048576 ^ l.length
  | [], _ => by simp [dval]
  | d :: l, h => by
    have ih := dval_lt h.tail
    have hd := h.head
    show d + 1048576 * dval l < 1048576 ^ (l.length + 1)
    rw [Nat.pow_succ]
    generalize 1048576 ^ l.length = P at *
    omega
theorem norm_pos {l : List Nat} (h : Norm l) (hl : l ≠ []) : 1048576 ^ (l.length - 1) ≤ dval l := by
  obtain ⟨a, d, rfl⟩ : ∃ a d, l = a ++ [d] := ⟨l.dropLast, l.getLast hl, (List.dropLast_concat_getLast hl).symm⟩
  have hd : d ≠ 0 := by have := h.2; simpa [NoZ] using this
  rw [dval_snoc, List.length_append]
  show 1048576 ^ (a.length + 1 - 1) ≤ _
  rw [Nat.add_sub_cancel]
  have : 1048576 ^ a.length * 1 ≤ 1048576 ^ a.length * d := Nat.mul_le_mul_left _ (by omega)
  omega
theorem dval_zero {l : List Nat} (h : Norm l) : dval l = 0 ↔ l = [] := by
  constructor
  · intro e
    by_cases hl : l = []
    · exact hl
    · have h1 := norm_pos h hl
      have h2 : 0 < 1048576 ^ (l.length - 1) := Nat.pow_pos (by decide)
      omega
  · rintro rfl; rfl
theorem norm_inj : ∀ {a b : List Nat}, Norm a → Norm b → dval a = dval b → a = b
  | [], b, _, hb, e => ((dval_zero hb).1 e.symm).symm
  | d :: a, [], ha, _, e => (dval_zero ha).1 e
  | d :: a, x :: b, ha, hb, e => by
    have e' : d + 1048576 * dval a = x + 1048576 * dval b := e
    have h1 := ha.1.head
    have h2 := hb.1.head
    have e1 : d = x := by omega
    have e2 : dval a = dval b := by omega
    rw [e1, norm_inj ha.tail hb.tail e2]
theorem dval_short {a b : List Nat} (ha : Sml a) (hb : Norm b) (h : a.length < b.length) : dval a < dval b := by
  have h1 := dval_lt ha
  have h2 := norm_pos hb (by intro e; subst e; simp at h)
  have h3 : 1048576 ^ a.length ≤ 1048576 ^ (b.length - 1) := Nat.pow_le_pow_right (by decide) (by omega)
  omega
/-- Two lists that are equal above a digit. -/
theorem dval_top {a b : List Nat} (ha : Sml a) {i x y : Nat} (hx : a[i]? = some x) (hy : b[i]? = some y) (hd : a.drop (i + 1) = b.drop (i + 1)) (h : x < y) : dval a < dval b := by
  have hi := (List.getElem?_eq_some_iff.1 hx).1
  have hj := (List.getElem?_eq_some_iff.1 hy).1
  have hxe := (List.getElem?_eq_some_iff.1 hx).2
  have hye := (List.getElem?_eq_some_iff.1 hy).2
  have ea : a = a.take i ++ (x :: a.drop (i + 1)) := by rw [← hxe, List.getElem_cons_drop, List.take_append_drop]
  have eb : b = b.take i ++ (y :: b.drop (i + 1)) := by rw [← hye, List.getElem_cons_drop, List.take_append_drop]
  have la : (a.take i).length = i := by rw [List.length_take]; omega
  have lb : (b.take i).length = i := by rw [List.length_take]; omega
  have va : dval a = dval (a.take i) + 1048576 ^ i * (x + 1048576 * dval (a.drop (i + 1))) := by
    conv => lhs; rw [ea]
    rw [dval_app, la]; rfl
  have vb : dval b = dval (b.take i) + 1048576 ^ i * (y + 1048576 * dval (a.drop (i + 1))) := by
    conv => lhs; rw [eb]
    rw [dval_app, lb, ← hd]; rfl
  have h1 := dval_lt (ha.take i)
  rw [la] at h1
  rw [va, vb, Nat.mul_add, Nat.mul_add]
  have h2 : 1048576 ^ i * (x + 1) ≤ 1048576 ^ i * y := Nat.mul_le_mul_left _ (by omega)
  rw [Nat.mul_add] at h2
  omega
/-- Zeros at the end. -/
theorem dval_cut0 (l : List Nat) : dval (l ++ [0]) = dval l := by rw [dval_snoc]; simp
theorem dval_take0 {l : List Nat} {k : Nat} (h : ∀ i, k ≤ i → i < l.length → l[i]? = some 0) : dval (l.take k) = dval l := by
  have e := dval_app (l.take k) (l.drop k)
  rw [List.take_append_drop] at e
  have h0 : ∀ m : List Nat, (∀ i, i < m.length → m[i]? = some 0) → dval m = 0 := by
    intro m
    induction m with
    | nil => intro _; rfl
    | cons d m ih =>
      intro hm
      have h1 : d = 0 := by have := hm 0 (by simp); simpa using this
      have h2 := ih (fun i hi => by have := hm (i + 1) (by simp; omega); simpa using this)
      show d + 1048576 * dval m = 0
      rw [h1, h2]
  rw [h0 (l.drop k) (fun i hi => by
    rw [List.getElem?_drop]
    rw [List.length_drop] at hi
    exact h (k + i) (by omega) (by omega))] at e
  simpa using e.symm

/-- What a right big integer is: sign, digits, value. -/
structure Rep (s : Int) (l : List Nat) (x : Int) : Prop where
  norm : Norm l
  eq : x = s * (dval l : Int)
  sign : (s = 1 ∧ l ≠ []) ∨ (s = -1 ∧ l ≠ []) ∨ (s = 0 ∧ l = [])
theorem Rep.pos {s x : Int} {l : List Nat} (h : Rep s l x) (hl : l ≠ []) : 0 < dval l := by
  have h1 := norm_pos h.norm hl
  have h2 : 0 < 1048576 ^ (l.length - 1) := Nat.pow_pos (by decide)
  omega
theorem Rep.cases {s x : Int} {l : List Nat} (h : Rep s l x) : (s = 1 ∧ l ≠ [] ∧ 0 < x ∧ x = dval l) ∨ (s = -1 ∧ l ≠ [] ∧ x < 0 ∧ -x = dval l) ∨ (s = 0 ∧ l = [] ∧ x = 0) := by
  rcases h.sign with ⟨h1, h2⟩ | ⟨h1, h2⟩ | ⟨h1, h2⟩
  · have := h.pos h2; have e := h.eq; rw [h1, Int.one_mul] at e; exact .inl ⟨h1, h2, by omega, e⟩
  · have := h.pos h2; have e := h.eq; rw [h1] at e; exact .inr (.inl ⟨h1, h2, by omega, by omega⟩)
  · have e := h.eq; rw [h1, Int.zero_mul] at e; exact .inr (.inr ⟨h1, h2, e⟩)
theorem Rep.inj {s s' x : Int} {l l' : List Nat} (h : Rep s l x) (h' : Rep s' l' x) : s = s' ∧ l = l' := by
  rcases h.cases with ⟨a1, a2, a3, a4⟩ | ⟨a1, a2, a3, a4⟩ | ⟨a1, a2, a3⟩ <;> rcases h'.cases with ⟨b1, b2, b3, b4⟩ | ⟨b1, b2, b3, b4⟩ | ⟨b1, b2, b3⟩ <;> first | omega | skip
  · exact ⟨a1.trans b1.symm, norm_inj h.norm h'.norm (by omega)⟩
  · exact ⟨a1.trans b1.symm, norm_inj h.norm h'.norm (by omega)⟩
  · exact ⟨a1.trans b1.symm, a2.trans b2.symm⟩
theorem Rep.zero : Rep 0 [] 0 := ⟨Norm.nil, rfl, .inr (.inr ⟨rfl, rfl⟩)⟩
/-- Normal digits with a sign; none are 0. -/
theorem Rep.of {s : Int} {l : List Nat} (h : Norm l) (hs : s = 1 ∨ s = -1) (hl : l ≠ []) : Rep s l (s * dval l) := by
  refine ⟨h, rfl, ?_⟩
  rcases hs with hs | hs
  · exact .inl ⟨hs, hl⟩
  · exact .inr (.inl ⟨hs, hl⟩)

end Go.Proofs.YtoocdokhljpokaaDoor
