/- Digits to the base 2^20, plainly. Conditions: none. -/
import Derived.Test.YtikfjmdeeknalaaGreatDoorMem
namespace Go.Proofs.YtikfjmdeeknalaaGreatDoor
set_option maxRecDepth 8000

/-- The value of digits, the lowest first. -/
def dval : List Nat → Nat
  | [] => 0
  | d :: l => d + 1048576 * dval l
/-- All are digits. -/
def Sml (l : List Nat) : Prop := ∀ d ∈ l, d < 1048576
/-- The last one is not 0. -/
def NoZ (l : List Nat) : Prop := l.getLast? ≠ some 0
def Norm (l : List Nat) : Prop := Sml l ∧ NoZ l
theorem Sml.nil : Sml [] := fun d h => by cases h
theorem Norm.nil : Norm [] := ⟨Sml.nil, by simp [NoZ]⟩
theorem Sml.tail {d : Nat} {l : List Nat} (h : Sml (d :: l)) : Sml l := fun x hx => h x (List.mem_cons_of_mem _ hx)
theorem Sml.head {d : Nat} {l : List Nat} (h : Sml (d :: l)) : d < 1048576 := h d List.mem_cons_self
theorem Sml.app {a b : List Nat} : Sml (a ++ b) ↔ Sml a ∧ Sml b := by
  constructor
  · intro h; exact ⟨fun x hx => h x (List.mem_append_left _ hx), fun x hx => h x (List.mem_append_right _ hx)⟩
  · rintro ⟨h1, h2⟩ x hx
    rcases List.mem_append.1 hx with hx | hx
    · exact h1 x hx
    · exact h2 x hx
theorem Sml.take {l : List Nat} (h : Sml l) (k : Nat) : Sml (l.take k) := fun x hx => h x (List.mem_of_mem_take hx)
theorem Sml.drop {l : List Nat} (h : Sml l) (k : Nat) : Sml (l.drop k) := fun x hx => h x (List.mem_of_mem_drop hx)
theorem Sml.at_ {l : List Nat} (h : Sml l) {i x : Nat} (e : l[i]? = some x) : x < 1048576 := h x (List.mem_of_getElem? e)
theorem Norm.tail {d : Nat} {l : List Nat} (h : Norm (d :: l)) : Norm l := by
  refine ⟨h.1.tail, ?_⟩
  cases l with
  | nil => simp [NoZ]
  | cons e l => have := h.2; simpa [NoZ] using this
theorem dval_app : ∀ a b : List Nat, dval (a ++ b) = dval a + 1048576 ^ a.length * dval b
  | [], b => by simp [dval]
  | d :: a, b => by
    show d + 1048576 * dval (a ++ b) = d + 1048576 * dval a + 1048576 ^ (a.length + 1) * dval b
    rw [dval_app a b, Nat.mul_add, Nat.pow_succ, Nat.add_assoc]
    congr 2
    rw [← Nat.mul_assoc, Nat.mul_comm 1048576 (1048576 ^ a.length)]
theorem dval_snoc (a : List Nat) (d : Nat) : dval (a ++ [d]) = dval a + 1048576 ^ a.length * d := by
  rw [dval_app]; simp [dval]
theorem dval_lt : ∀ {l : List Nat}, Sml l → dval l < 1048576 ^ l.length
  | [], _ => by simp [dval]
  | d :: l, h => by
    have ih := dval_lt h.tail
    have hd := h.head
    show d + 1048576 * dval l < 1048576 ^ (l.length + 1)
    rw [Nat.pow_succ]
    generalize 1048576 ^ l.length = P at *
    omega
theorem norm_pos {l : List Nat} (h : Norm l) (hl : l ≠ []) : 1048576 ^ (l.length - 1) ≤ dval l := by
  obtain ⟨a, d, rfl⟩ : ∃ a d, l = a ++ [d] := ⟨l.dropLast, l.getLast hl, (List.dropLast_concat_getLast hl).symm⟩
  have hd : d ≠ 0 := by have := h.2; simpa [NoZ] using this
  rw [dval_snoc, List.length_append]
  show 1048576 ^ (a.length + 1 - 1) ≤ _
  rw [Nat.add_sub_cancel]
  have : 1048576 ^ a.length * 1 ≤ 1048576 ^ a.length * d := Nat.mul_le_mul_left _ (by omega)
  omega
theorem dval_zero {l : List Nat} (h : Norm l) : dval l = 0 ↔ l = [] := by
  constructor
  · intro e
    by_cases hl : l = []
    · exact hl
    · have h1 := norm_pos h hl
      have h2 : 0 < 1048576 ^ (l.length - 1) := Nat.pow_pos (by decide)
      omega
  · rintro rfl; rfl
theorem norm_inj : ∀ {a b : List Nat}, Norm a → Norm b → dval a = dval b → a = b
  | [], b, _, hb, e => ((dval_zero hb).1 e.symm).symm
  | d :: a, [], ha, _, e => (dval_zero ha).1 e
  | d :: a, x :: b, ha, hb, e => by
    have e' : d + 1048576 * dval a = x + 1048576 * dval b := e
    have h1 := ha.1.head
    have h2 := hb.1.head
    have e1 : d = x := by omega
    have e2 : dval a = dval b := by omega
    rw [e1, norm_inj ha.tail hb.tail e2]
theorem dval_short {a b : List Nat} (ha : Sml a) (hb : Norm b) (h : a.length < b.length) : dval a < dval b := by
  have h1 := dval_lt ha
  have h2 := norm_pos hb (by intro e; subst e; simp at h)
  have h3 : 1048576 ^ a.length ≤ 1048576 ^ (b.length - 1) := Nat.pow_le_pow_right (by decide) (by omega)
  omega
/-- Two lists that are equal above a digit. -/
theorem dval_top {a b : List Nat} (ha : Sml a) {i x y : Nat} (hx : a[i]? = some x) (hy : b[i]? = some y) (hd : a.drop (i + 1) = b.drop (i + 1)) (h : x < y) : dval a < dval b := by
  have hi := (List.getElem?_eq_some_iff.1 hx).1
  have hj := (List.getElem?_eq_some_iff.1 hy).1
  have hxe := (List.getElem?_eq_some_iff.1 hx).2
  have hye := (List.getElem?_eq_some_iff.1 hy).2
  have ea : a = a.take i ++ (x :: a.drop (i + 1)) := by rw [← hxe, List.getElem_cons_drop, List.take_append_drop]
  have eb : b = b.take i ++ (y :: b.drop (i + 1)) := by rw [← hye, List.getElem_cons_drop, List.take_append_drop]
  have la : (a.take i).length = i := by rw [List.length_take]; omega
  have lb : (b.take i).length = i := by rw [List.length_take]; omega
  have va : dval a = dval (a.take i) + 1048576 ^ i * (x + 1048576 * dval (a.drop (i + 1))) := by
    conv => lhs; rw [ea]
    rw [dval_app, la]; rfl
  have vb : dval b = dval (b.take i) + 1048576 ^ i * (y + 1048576 * dval (a.drop (i + 1))) := by
    conv => lhs; rw [eb]
    rw [dval_app, lb, ← hd]; rfl
  have h1 := dval_lt (ha.take i)
  rw [la] at h1
  rw [va, vb, Nat.mul_add, Nat.mul_add]
  have h2 : 1048576 ^ i * (x + 1) ≤ 1048576 ^ i * y := Nat.mul_le_mul_left _ (by omega)
  rw [Nat.mul_add] at h2
  omega
/-- Zeros at the end. -/
theorem dval_cut0 (l : List Nat) : dval (l ++ [0]) = dval l := by rw [dval_snoc]; simp
theorem dval_take0 {l : List Nat} {k : Nat} (h : ∀ i, k ≤ i → i < l.length → l[i]? = some 0) : dval (l.take k) = dval l := by
  have e := dval_app (l.take k) (l.drop k)
  rw [List.take_append_drop] at e
  have h0 : ∀ m : List Nat, (∀ i, i < m.length → m[i]? = some 0) → dval m = 0 := by
    intro m
    induction m with
    | nil => intro _; rfl
    | cons d m ih =>
      intro hm
      have h1 : d = 0 := by have := hm 0 (by simp); simpa using this
      have h2 := ih (fun i hi => by have := hm (i + 1) (by simp; omega); simpa using this)
      show d + 1048576 * dval m = 0
      rw [h1, h2]
  rw [h0 (l.drop k) (fun i hi => by
    rw [List.getElem?_drop]
    rw [List.length_drop] at hi
    exact h (k + i) (by omega) (by omega))] at e
  simpa using e.symm

/-- What a right big integer is: sign, digits, value. -/
structure Rep (s : Int) (l : List Nat) (x : Int) : Prop where
  norm : Norm l
  eq : x = s * (dval l : Int)
  sign : (s = 1 ∧ l ≠ []) ∨ (s = -1 ∧ l ≠ []) ∨ (s = 0 ∧ l = [])
theorem Rep.pos {s x : Int} {l : List Nat} (h : Rep s l x) (hl : l ≠ []) : 0 < dval l := by
  have h1 := norm_pos h.norm hl
  have h2 : 0 < 1048576 ^ (l.length - 1) := Nat.pow_pos (by decide)
  omega
theorem Rep.cases {s x : Int} {l : List Nat} (h : Rep s l x) : (s = 1 ∧ l ≠ [] ∧ 0 < x ∧ x = dval l) ∨ (s = -1 ∧ l ≠ [] ∧ x < 0 ∧ -x = dval l) ∨ (s = 0 ∧ l = [] ∧ x = 0) := by
  rcases h.sign with ⟨h1, h2⟩ | ⟨h1, h2⟩ | ⟨h1, h2⟩
  · have := h.pos h2; have e := h.eq; rw [h1, Int.one_mul] at e; exact .inl ⟨h1, h2, by omega, e⟩
  · have := h.pos h2; have e := h.eq; rw [h1] at e; exact .inr (.inl ⟨h1, h2, by omega, by omega⟩)
  · have e := h.eq; rw [h1, Int.zero_mul] at e; exact .inr (.inr ⟨h1, h2, e⟩)
theorem Rep.inj {s s' x : Int} {l l' : List Nat} (h : Rep s l x) (h' : Rep s' l' x) : s = s' ∧ l = l' := by
  rcases h.cases with ⟨a1, a2, a3, a4⟩ | ⟨a1, a2, a3, a4⟩ | ⟨a1, a2, a3⟩ <;> rcases h'.cases with ⟨b1, b2, b3, b4⟩ | ⟨b1, b2, b3, b4⟩ | ⟨b1, b2, b3⟩ <;> first | omega | skip
  · exact ⟨a1.trans b1.symm, norm_inj h.norm h'.norm (by omega)⟩
  · exact ⟨a1.trans b1.symm, norm_inj h.norm h'.norm (by omega)⟩
  · exact ⟨a1.trans b1.symm, a2.trans b2.symm⟩
theorem Rep.zero : Rep 0 [] 0 := ⟨Norm.nil, rfl, .inr (.inr ⟨rfl, rfl⟩)⟩
/-- Normal digits with a sign; none are 0. -/
theorem Rep.of {s : Int} {l : List Nat} (h : Norm l) (hs : s = 1 ∨ s = -1) (hl : l ≠ []) : Rep s l (s * dval l) := by
  refine ⟨h, rfl, ?_⟩
  rcases hs with hs | hs
  · exact .inl ⟨hs, hl⟩
  · exact .inr (.inl ⟨hs, hl⟩)

end Go.Proofs.YtikfjmdeeknalaaGreatDoor

/- Arithmetic on digits, step by step, plainly. Conditions: none. -/
namespace Go.Proofs.YtikfjmdeeknalaaGreatDoor
set_option maxRecDepth 8000

theorem dval_take_succ {D : List Nat} {i d : Nat} (h : D[i]? = some d) : dval (D.take (i + 1)) = dval (D.take i) + 1048576 ^ i * d := by
  have hi := (List.getElem?_eq_some_iff.1 h).1
  have e : D.take (i + 1) = D.take i ++ [d] := by
    rw [List.take_add_one, h]; rfl
  rw [e, dval_snoc, List.length_take, Nat.min_eq_left (by omega)]
theorem dval_set_take {E : List Nat} {i : Nat} (hi : i < E.length) (v : Nat) : dval ((E.set i v).take (i + 1)) = dval (E.take i) + 1048576 ^ i * v := by
  rw [dval_take_succ (d := v) (by simp [hi]), List.take_set_of_le (by omega)]
theorem drop_set_lt {α : Type} {E : List α} {i j : Nat} (v : α) (h : i < j) : (E.set i v).drop j = E.drop j := by
  apply List.ext_getElem?
  intro k
  rw [List.getElem?_drop, List.getElem?_drop, List.getElem?_set_ne (by omega)]
theorem take_set_ge {α : Type} {E : List α} {i j : Nat} (v : α) (h : j ≤ i) : (E.set i v).take j = E.take j := List.take_set_of_le h
theorem Sml.set {l : List Nat} (h : Sml l) {v : Nat} (hv : v < 1048576) (i : Nat) : Sml (l.set i v) := fun x hx => by
  rcases List.mem_or_eq_of_mem_set hx with h1 | h1
  · exact h x h1
  · omega
theorem dval_split (l : List Nat) (i : Nat) (hi : i ≤ l.length) : dval l = dval (l.take i) + 1048576 ^ i * dval (l.drop i) := by
  have := dval_app (l.take i) (l.drop i)
  rw [List.take_append_drop, List.length_take, Nat.min_eq_left hi] at this
  exact this
theorem at_low {α : Type} {E D : List α} {i : Nat} (h : E.drop i = D.drop i) : E[i]? = D[i]? := by
  have := congrArg (fun l : List α => l[0]?) h
  simpa [List.getElem?_drop] using this
theorem drop_succ_of {α : Type} {E D : List α} {i : Nat} (h : E.drop i = D.drop i) : E.drop (i + 1) = D.drop (i + 1) := by
  rw [← List.drop_drop, ← List.drop_drop, h]
theorem dval_drop_at {D : List Nat} {i d : Nat} (h : D[i]? = some d) : dval (D.drop i) = d + 1048576 * dval (D.drop (i + 1)) := by
  have := List.drop_eq_getElem_cons (List.getElem?_eq_some_iff.1 h).1
  rw [this, (List.getElem?_eq_some_iff.1 h).2]; rfl
theorem dval_set_add {P : List Nat} {j p : Nat} (h : P[j]? = some p) (v : Nat) : dval (P.set j (p + v)) = dval P + 1048576 ^ j * v := by
  have hj := (List.getElem?_eq_some_iff.1 h).1
  rw [dval_split (P.set j (p + v)) (j + 1) (by simp; omega), dval_set_take hj, drop_set_lt _ (by omega), dval_split P (j + 1) (by omega), dval_take_succ h, Nat.mul_add]
  omega
theorem dval_zeros (n : Nat) : dval (List.replicate n 0) = 0 := by
  induction n with
  | zero => rfl
  | succ n ih => rw [List.replicate_succ]; show 0 + 1048576 * _ = 0; rw [ih]
theorem Sml.zeros (n : Nat) : Sml (List.replicate n 0) := fun x hx => by
  have := List.eq_of_mem_replicate hx; omega
theorem iW_pos (n : Nat) : (0 : Int) < 1048576 ^ n := Int.pow_pos (by decide)
theorem cast_pow (n : Nat) : ((1048576 ^ n : Nat) : Int) = 1048576 ^ n := Int.natCast_pow 1048576 n

/-- Adding a multiple of digits to digits: i digits are done, j of the other ones. -/
structure AddSt (D b : List Nat) (f : Int) (i j : Nat) (E : List Nat) (q : Int) : Prop where
  len : E.length = D.length
  sml : Sml E
  low : E.drop i = D.drop i
  eq : (dval (E.take i) : Int) + 1048576 ^ i * q = dval (D.take i) + f * dval (b.take j)
  lo : -1048576 ≤ q
  hi : q ≤ 1048576
theorem AddSt.new {D b : List Nat} {f : Int} (h : Sml D) : AddSt D b f 0 0 D 0 := ⟨rfl, h, rfl, by simp [dval], by decide, by decide⟩
theorem AddSt.step {D b : List Nat} {f : Int} {i j j' : Nat} {E : List Nat} {q t : Int} {d z : Nat} (h : AddSt D b f i j E q) (hd : D[i]? = some d) (ht : (t : Int) = q + (d + z * f))
    (hz : (dval (b.take j') : Int) = dval (b.take j) + 1048576 ^ i * z) (hzl : z < 1048576) (f0 : -1048576 ≤ f) (f1 : f ≤ 1048576) : AddSt D b f (i + 1) j' (E.set i (t % 1048576).toNat) (t / 1048576) := by
  have hi := (List.getElem?_eq_some_iff.1 hd).1
  have hiE : i < E.length := by rw [h.len]; exact hi
  have hdl : d < 1048576 := h.sml.at_ ((at_low h.low).trans hd)
  have b1 : (z : Int) * f ≤ (1048575 : Int) * 1048576 := by
    have h1 : (z : Int) * f ≤ (z : Int) * 1048576 := Int.mul_le_mul_of_nonneg_left f1 (by omega)
    omega
  have b2 : -((1048575 : Int) * 1048576) ≤ (z : Int) * f := by
    have h1 : (z : Int) * (-1048576) ≤ (z : Int) * f := Int.mul_le_mul_of_nonneg_left f0 (by omega)
    omega
  have e1 := dval_take_succ hd
  have e2 := dval_set_take hiE (t % 1048576).toNat
  have e3 : ((t % 1048576).toNat : Int) = t % 1048576 := by omega
  have e4 : t = t % 1048576 + 1048576 * (t / 1048576) := by omega
  have hlo := h.lo
  have hhi := h.hi
  refine ⟨by rw [List.length_set]; exact h.len, h.sml.set (by omega) _, by rw [drop_set_lt _ (by omega)]; exact drop_succ_of h.low, ?_, by omega, by omega⟩
  rw [e2, e1, hz]
  have k := h.eq
  simp only [Int.natCast_add, Int.natCast_mul, cast_pow]
  rw [e3]
  generalize hr : t % 1048576 = r at *
  generalize hQ : t / 1048576 = Q at *
  have hP : (1048576 : Int) ^ (i + 1) = 1048576 ^ i * 1048576 := Int.pow_succ _ _
  rw [hP]
  generalize (1048576 : Int) ^ i = P at *
  generalize (dval (E.take i) : Int) = X at *
  generalize (dval (D.take i) : Int) = Y at *
  generalize (dval (b.take j) : Int) = Z at *
  clear e1 e2 hz hP b1 b2 e3
  grind
theorem AddSt.step1 {D b : List Nat} {f : Int} {i : Nat} {E : List Nat} {q : Int} {d x : Nat} (h : AddSt D b f i i E q) (hd : D[i]? = some d) (hb : b[i]? = some x) (hx : x < 1048576) (f0 : -1048576 ≤ f) (f1 : f ≤ 1048576) :
    AddSt D b f (i + 1) (i + 1) (E.set i ((q + (d + x * f)) % 1048576).toNat) ((q + (d + x * f)) / 1048576) :=
  h.step hd rfl (by rw [dval_take_succ hb]; simp only [Int.natCast_add, Int.natCast_mul, cast_pow]) hx f0 f1
theorem AddSt.step2 {D b : List Nat} {f : Int} {i j : Nat} {E : List Nat} {q : Int} {d : Nat} (h : AddSt D b f i j E q) (hd : D[i]? = some d) (f0 : -1048576 ≤ f) (f1 : f ≤ 1048576) :
    AddSt D b f (i + 1) j (E.set i ((q + d) % 1048576).toNat) ((q + d) / 1048576) :=
  h.step (z := 0) hd (by simp) (by simp) (by decide) f0 f1
theorem AddSt.done {D b : List Nat} {f : Int} {i : Nat} {E : List Nat} {q : Int} (h : AddSt D b f i b.length E q) (hi : i ≤ D.length) (hq : i = D.length ∨ q = 0) : (dval E : Int) + 1048576 ^ D.length * q = dval D + f * dval b := by
  have k := h.eq
  rw [List.take_length] at k
  rcases hq with rfl | rfl
  · rw [List.take_of_length_le (by rw [h.len]; exact Nat.le_refl _), List.take_length] at k
    exact k
  · rw [dval_split E i (by rw [h.len]; exact hi), dval_split D i hi, h.low]
    simp only [Int.natCast_add, Int.natCast_mul, cast_pow]
    simp only [Int.mul_zero, Int.add_zero] at k ⊢
    omega
/-- What is left over is 0 where the result has room. -/
theorem room {E : List Nat} {n : Nat} {q v : Int} (hs : Sml E) (hn : E.length = n) (h : (dval E : Int) + 1048576 ^ n * q = v) (h0 : 0 ≤ v) (h1 : v < 1048576 ^ n) : q = 0 ∧ (dval E : Int) = v := by
  have hl := dval_lt hs
  rw [hn] at hl
  have hl' : (dval E : Int) < 1048576 ^ n := by rw [← cast_pow]; omega
  have hp := iW_pos n
  generalize (1048576 : Int) ^ n = P at *
  have q0 : q = 0 := by
    rcases Int.lt_trichotomy q 0 with hq | hq | hq
    · have : P * q ≤ P * (-1) := Int.mul_le_mul_of_nonneg_left (by omega) (by omega)
      omega
    · exact hq
    · have : P * 1 ≤ P * q := Int.mul_le_mul_of_nonneg_left (by omega) (by omega)
      omega
  subst q0
  exact ⟨rfl, by simpa using h⟩

/-- Products of digits, added up: the i-th digit of a, with k digits of b. -/
structure MulSt (a b : List Nat) (i x k : Nat) (P : List Nat) : Prop where
  len : P.length = a.length + b.length
  eq : dval P = dval (a.take i) * dval b + 1048576 ^ i * x * dval (b.take k)
  bd : ∀ j p, P[j]? = some p → p ≤ (i + if i ≤ j ∧ j < i + k then 1 else 0) * 1099511627776
theorem MulSt.new (a b : List Nat) (x : Nat) : MulSt a b 0 x 0 (List.replicate (a.length + b.length) 0) := by
  refine ⟨by simp, by simp [dval, dval_zeros], fun j p hp => ?_⟩
  have := List.eq_of_mem_replicate (List.mem_of_getElem? hp)
  omega
theorem MulSt.step {a b P : List Nat} {i x k y p : Nat} (h : MulSt a b i x k P) (hx : x < 1048576) (hb : b[k]? = some y) (hy : y < 1048576) (hp : P[i + k]? = some p) : MulSt a b i x (k + 1) (P.set (i + k) (p + x * y)) := by
  have hxy : x * y ≤ 1048575 * 1048575 := Nat.mul_le_mul (by omega) (by omega)
  refine ⟨by rw [List.length_set]; exact h.len, ?_, fun j u hu => ?_⟩
  · rw [dval_set_add hp, h.eq, dval_take_succ hb, Nat.pow_add]
    generalize 1048576 ^ i = A
    generalize 1048576 ^ k = B
    grind
  · by_cases e : j = i + k
    · subst e
      rw [List.getElem?_set_self (List.getElem?_eq_some_iff.1 hp).1] at hu
      cases hu
      have := h.bd _ _ hp
      rw [if_neg (by omega)] at this
      rw [if_pos (by omega)]
      omega
    · rw [List.getElem?_set_ne (by omega)] at hu
      have := h.bd _ _ hu
      by_cases c : i ≤ j ∧ j < i + k
      · rw [if_pos c] at this; rw [if_pos (by omega)]; exact this
      · rw [if_neg c] at this; rw [if_neg (by omega)]; exact this
theorem MulSt.next {a b P : List Nat} {i x y : Nat} (h : MulSt a b i x b.length P) (ha : a[i]? = some x) : MulSt a b (i + 1) y 0 P := by
  refine ⟨h.len, ?_, fun j p hp => ?_⟩
  · rw [h.eq, dval_take_succ ha, List.take_length]
    simp [dval, Nat.add_mul]
  · have := h.bd j p hp
    rw [if_neg (by omega)]
    refine Nat.le_trans this (Nat.mul_le_mul_right _ ?_)
    split <;> omega
theorem MulSt.done {a b P : List Nat} {x : Nat} (h : MulSt a b a.length x 0 P) : dval P = dval a * dval b := by
  have := h.eq
  rw [List.take_length] at this
  simpa [dval] using this

/-- Carrying through cells that are greater than digits. -/
structure CarSt (P : List Nat) (i : Nat) (E : List Nat) (q : Nat) : Prop where
  len : E.length = P.length
  sml : Sml (E.take i)
  low : E.drop i = P.drop i
  eq : dval (E.take i) + 1048576 ^ i * q = dval (P.take i)
  hi : q ≤ 2305843009213693952
theorem CarSt.new (P : List Nat) : CarSt P 0 P 0 := ⟨rfl, by simp [Sml], rfl, by simp, by decide⟩
theorem sml_snoc {E : List Nat} {i v : Nat} (h : Sml (E.take i)) (hi : i < E.length) (hv : v < 1048576) : Sml ((E.set i v).take (i + 1)) := by
  have e : (E.set i v).take (i + 1) = E.take i ++ [v] := by
    rw [List.take_add_one, take_set_ge _ (Nat.le_refl _), List.getElem?_set_self hi]; rfl
  rw [e, Sml.app]
  exact ⟨h, fun x hx => by simp at hx; omega⟩
theorem CarSt.step {P E : List Nat} {i q p : Nat} (h : CarSt P i E q) (hp : P[i]? = some p) (hpb : p ≤ 2305843009213693952) : CarSt P (i + 1) (E.set i ((q + p) % 1048576)) ((q + p) / 1048576) := by
  have hi := (List.getElem?_eq_some_iff.1 hp).1
  have hiE : i < E.length := by rw [h.len]; exact hi
  have hq := h.hi
  refine ⟨by rw [List.length_set]; exact h.len, sml_snoc h.sml hiE (Nat.mod_lt _ (by decide)), by rw [drop_set_lt _ (by omega)]; exact drop_succ_of h.low, ?_, by omega⟩
  rw [dval_set_take hiE, dval_take_succ hp, ← h.eq]
  have e4 : q + p = (q + p) % 1048576 + 1048576 * ((q + p) / 1048576) := by omega
  have hP : 1048576 ^ (i + 1) = 1048576 ^ i * 1048576 := Nat.pow_succ _ _
  rw [hP]
  generalize (q + p) % 1048576 = r at *
  generalize (q + p) / 1048576 = Q at *
  generalize 1048576 ^ i = A at *
  generalize dval (E.take i) = X at *
  have e5 : A * q + A * p = A * r + A * 1048576 * Q := by rw [← Nat.mul_add, e4, Nat.mul_add, Nat.mul_assoc]
  omega
theorem CarSt.done {P E : List Nat} {q : Nat} (h : CarSt P P.length E q) : Sml E ∧ dval E + 1048576 ^ P.length * q = dval P := by
  have h1 := h.sml
  have h2 := h.eq
  rw [List.take_of_length_le (by rw [h.len]; exact Nat.le_refl _)] at h1 h2
  rw [List.take_length] at h2
  exact ⟨h1, h2⟩

/-- Dividing digits by a number, from the highest one on. -/
structure DivSt (D : List Nat) (by_ i : Nat) (E : List Nat) (rest : Nat) : Prop where
  len : E.length = D.length
  low : E.take i = D.take i
  sml : Sml (E.drop i)
  eq : dval (E.drop i) * by_ + rest = dval (D.drop i)
  lt : rest < by_
theorem DivSt.new {D : List Nat} {b : Nat} (hb : 0 < b) : DivSt D b D.length D 0 := ⟨rfl, rfl, by simp [Sml], by simp [dval], hb⟩
theorem DivSt.step {D E : List Nat} {b i rest d : Nat} (h : DivSt D b (i + 1) E rest) (hd : D[i]? = some d) (hdl : d < 1048576) : DivSt D b i (E.set i ((rest * 1048576 + d) / b)) ((rest * 1048576 + d) % b) := by
  have hi := (List.getElem?_eq_some_iff.1 hd).1
  have hiE : i < E.length := by rw [h.len]; exact hi
  have hlt := h.lt
  have hb : 0 < b := by omega
  have hqd : (rest * 1048576 + d) / b < 1048576 := by
    rw [Nat.div_lt_iff_lt_mul hb]
    have : (rest + 1) * 1048576 ≤ b * 1048576 := Nat.mul_le_mul_right _ hlt
    omega
  have hget : (E.set i ((rest * 1048576 + d) / b))[i]? = some ((rest * 1048576 + d) / b) := List.getElem?_set_self hiE
  have e : (E.set i ((rest * 1048576 + d) / b)).drop i = (rest * 1048576 + d) / b :: E.drop (i + 1) := by
    rw [List.drop_eq_getElem_cons (by simp; omega), drop_set_lt _ (by omega)]
    simp
  refine ⟨by rw [List.length_set]; exact h.len, ?_, ?_, ?_, Nat.mod_lt _ hb⟩
  · rw [take_set_ge _ (Nat.le_refl _)]
    have := congrArg (List.take i) h.low
    rw [List.take_take, List.take_take, Nat.min_eq_left (by omega)] at this
    exact this
  · rw [e]
    intro x hx
    rcases List.mem_cons.1 hx with rfl | hx
    · exact hqd
    · exact h.sml x hx
  · rw [e, dval_drop_at hd, ← h.eq]
    show ((rest * 1048576 + d) / b + 1048576 * dval (E.drop (i + 1))) * b + _ = _
    have e2 := Nat.div_add_mod (rest * 1048576 + d) b
    generalize (rest * 1048576 + d) / b = Q at *
    generalize (rest * 1048576 + d) % b = r at *
    generalize dval (E.drop (i + 1)) = X at *
    grind
theorem DivSt.done {D E : List Nat} {b rest : Nat} (h : DivSt D b 0 E rest) : Sml E ∧ dval E = dval D / b ∧ rest = dval D % b := by
  have h1 := h.sml
  have h2 := h.eq
  have h3 := h.lt
  simp only [List.drop_zero] at h1 h2
  refine ⟨h1, ?_, ?_⟩
  · rw [← h2, Nat.mul_comm, Nat.mul_add_div (by omega), Nat.div_eq_of_lt h3, Nat.add_zero]
  · rw [← h2, Nat.mul_comm, Nat.mul_add_mod, Nat.mod_eq_of_lt h3]

/-- Multiplying digits by a number, with a number that is added. -/
structure ByeSt (D : List Nat) (m p : Nat) (i : Nat) (E : List Nat) (q : Nat) : Prop where
  len : E.length = D.length
  sml : Sml E
  low : E.drop i = D.drop i
  eq : dval (E.take i) + 1048576 ^ i * q = m * dval (D.take i) + p
  hi : q ≤ 1099511627776
theorem ByeSt.new {D : List Nat} {m p : Nat} (h : Sml D) (hp : p ≤ 1099511627776) : ByeSt D m p 0 D p := ⟨rfl, h, rfl, by simp [dval], hp⟩
theorem ByeSt.step {D E : List Nat} {m p i q d : Nat} (h : ByeSt D m p i E q) (hd : D[i]? = some d) (hm : m ≤ 1099511627776) : ByeSt D m p (i + 1) (E.set i ((q + d * m) % 1048576)) ((q + d * m) / 1048576) := by
  have hi := (List.getElem?_eq_some_iff.1 hd).1
  have hiE : i < E.length := by rw [h.len]; exact hi
  have hdl : d < 1048576 := h.sml.at_ ((at_low h.low).trans hd)
  have hdm : d * m ≤ 1048575 * 1099511627776 := Nat.mul_le_mul (by omega) hm
  have hq := h.hi
  refine ⟨by rw [List.length_set]; exact h.len, h.sml.set (Nat.mod_lt _ (by decide)) _, by rw [drop_set_lt _ (by omega)]; exact drop_succ_of h.low, ?_, by omega⟩
  rw [dval_set_take hiE, dval_take_succ hd, Nat.mul_add]
  have k := h.eq
  have e4 : q + d * m = (q + d * m) % 1048576 + 1048576 * ((q + d * m) / 1048576) := by omega
  have hP : 1048576 ^ (i + 1) = 1048576 ^ i * 1048576 := Nat.pow_succ _ _
  rw [hP]
  generalize (q + d * m) % 1048576 = r at *
  generalize (q + d * m) / 1048576 = Q at *
  generalize 1048576 ^ i = A at *
  generalize dval (E.take i) = X at *
  generalize dval (D.take i) = Y at *
  have e5 : A * q + m * (A * d) = A * r + A * 1048576 * Q := by
    have : m * (A * d) = A * (d * m) := by grind
    rw [this, ← Nat.mul_add, e4, Nat.mul_add, Nat.mul_assoc]
  omega
theorem ByeSt.done {D E : List Nat} {m p q : Nat} (h : ByeSt D m p D.length E q) : dval E + 1048576 ^ D.length * q = m * dval D + p := by
  have h2 := h.eq
  rw [List.take_of_length_le (by rw [h.len]; exact Nat.le_refl _), List.take_length] at h2
  exact h2

end Go.Proofs.YtikfjmdeeknalaaGreatDoor
