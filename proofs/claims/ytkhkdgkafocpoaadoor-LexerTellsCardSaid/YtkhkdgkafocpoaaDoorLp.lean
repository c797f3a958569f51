/- Tokens, plainly: the tokens of a text as a function on lists of bytes, and what the statements ask of it. No condition. -/
namespace Go.Proofs.YtkhkdgkafocpoaaDoor

/-- A token, plainly: kind, bytes, number, position. -/
structure Tok where
  kind : Int
  text : List UInt8
  n : Int
  pos : Nat

def letB (b : UInt8) : Bool := decide (97 ≤ b.toNat ∧ b.toNat ≤ 122) || decide (65 ≤ b.toNat ∧ b.toNat ≤ 90)
def digB (b : UInt8) : Bool := decide (48 ≤ b.toNat ∧ b.toNat ≤ 57)
def nameB (b : UInt8) : Bool := letB b || digB b || b.toNat == 95
def signB (b : UInt8) : Bool := [40, 41, 44, 59, 58, 61, 60, 43, 45, 42, 47, 123, 125].contains b.toNat
def blankB (b : UInt8) : Bool := b.toNat == 9 || b.toNat == 10 || b.toNat == 32
def plainB (b : UInt8) : Bool := decide (32 ≤ b.toNat ∧ b.toNat ≤ 126)

/-- The state after a byte of a gap (is it in a comment?), or none where the gap ends. -/
def gapStep (c : Bool) (b : UInt8) : Option Bool :=
  if c then some (b.toNat != 10) else if b.toNat == 35 then some true else if blankB b then some false else none
/-- How many bytes of blanks and comments a text begins with (in a comment or not). -/
def gapP : Bool → List UInt8 → Nat
  | _, [] => 0
  | c, b :: l => match gapStep c b with | some c' => gapP c' l + 1 | none => 0

/-- How many bytes of a kind a text begins with. -/
def cntP (f : UInt8 → Bool) : List UInt8 → Nat
  | [] => 0
  | b :: l => if f b then cntP f l + 1 else 0

def valD (l : List UInt8) : Nat := l.foldl (fun n b => 10 * n + (b.toNat - 48)) 0
/-- The value of a valid number. -/
def numP (l : List UInt8) : Option Nat :=
  if l ≠ [] ∧ l.all digB ∧ (l = [48] ∨ l.head? ≠ some 48) ∧ valD l ≤ 1099511627776 then some (valD l) else none
def nameP (l : List UInt8) : Bool := (l.head?.map letB == some true) && decide (l.length ≤ 20) && l.all nameB
def valueP (l : List UInt8) : Bool := decide (l.length ≤ 400) && l.all plainB
def escP : List UInt8 → List UInt8
  | [] => []
  | b :: l => if b.toNat == 34 || b.toNat == 92 then 92 :: b :: escP l else b :: escP l
def quoP (l : List UInt8) : List UInt8 := 34 :: (escP l ++ [34])
/-- What stands up to the closing quote, without escapes, and how many bytes that takes with the quote (behind a backslash or not). -/
def unqS : Bool → List UInt8 → Option (List UInt8 × Nat)
  | _, [] => none
  | e, b :: l => if e then if b.toNat == 34 || b.toNat == 92 then (unqS false l).map fun x => (b :: x.1, x.2 + 1) else none
    else if b.toNat == 34 then some ([], 1) else if b.toNat == 92 then (unqS true l).map fun x => (x.1, x.2 + 1) else (unqS false l).map fun x => (b :: x.1, x.2 + 1)
def unqP (l : List UInt8) : Option (List UInt8 × Nat) := unqS false l
theorem unqP_nil : unqP [] = none := rfl
theorem unqP_cons (b : UInt8) (l : List UInt8) : unqP (b :: l) = if b.toNat == 34 then some ([], 1) else
    if b.toNat == 92 then match l with
      | [] => none
      | c :: r => if c.toNat == 34 || c.toNat == 92 then (unqP r).map fun x => (c :: x.1, x.2 + 2) else none
    else (unqP l).map fun x => (b :: x.1, x.2 + 1) := by
  unfold unqP
  rw [unqS]
  cases l with
  | nil => rfl
  | cons c r =>
    simp only [Bool.false_eq_true, if_false]
    split
    · rfl
    · split
      · rw [unqS]
        simp only [if_true]
        split
        · rw [Option.map_map]; rfl
        · rfl
      · rfl

/-- How reading a token ends: the token (as if it stood at 0) and its size, or an error. -/
inductive First where
  | tok (t : Tok) (n : Nat)
  | bad (e : Int)
/-- The first token of a text that is not empty. -/
def firstP : List UInt8 → First
  | [] => .bad 10
  | b :: l =>
    if letB b then if cntP nameB (b :: l) ≤ 20 then .tok ⟨0, (b :: l).take (cntP nameB (b :: l)), 0, 0⟩ (cntP nameB (b :: l)) else .bad 3
    else if digB b then match numP ((b :: l).take (cntP digB (b :: l))) with
      | some n => .tok ⟨1, (b :: l).take (cntP digB (b :: l)), n, 0⟩ (cntP digB (b :: l))
      | none => .bad 3
    else if b.toNat == 34 then match unqP l with
      | some (v, n) => if valueP v then .tok ⟨2, v, 0, 0⟩ (n + 1) else .bad 2
      | none => .bad 2
    else if signB b then .tok ⟨3, [b], 0, 0⟩ 1
    else .bad 10
section
variable {f : UInt8 → Bool}
theorem cntP_le (f : UInt8 → Bool) (l : List UInt8) : cntP f l ≤ l.length := by
  induction l with
  | nil => simp [cntP]
  | cons b l ih => rw [cntP]; split <;> simp <;> omega
theorem cntP_take (l : List UInt8) : (l.take (cntP f l)).all f = true := by
  induction l with
  | nil => rfl
  | cons b l ih =>
    rw [cntP]
    split
    · rename_i h; rw [List.take_succ_cons, List.all_cons, h, ih]; rfl
    · rfl
/-- A text does not begin with a byte of a kind. -/
def offB (f : UInt8 → Bool) (l : List UInt8) : Prop := ∀ b r, l = b :: r → f b = false
theorem cntP_off (l : List UInt8) : offB f (l.drop (cntP f l)) := by
  induction l with
  | nil => intro b r h; simp [cntP] at h
  | cons b l ih =>
    rw [cntP]
    split
    · rw [List.drop_succ_cons]; exact ih
    · rename_i h
      intro b' r e
      rw [List.drop_zero] at e
      injection e with e1 _
      rw [← e1]; simpa using h
theorem cntP_all {l r : List UInt8} (h : l.all f = true) (hr : offB f r) : cntP f (l ++ r) = l.length := by
  induction l with
  | nil =>
    cases r with
    | nil => rfl
    | cons b r => rw [List.nil_append, cntP, hr b r rfl]; rfl
  | cons b l ih =>
    rw [List.all_cons, Bool.and_eq_true] at h
    rw [List.cons_append, cntP, h.1, if_pos rfl, ih h.2]; rfl
theorem cntP_full {l : List UInt8} (h : cntP f l = l.length) : l.all f = true := by
  have := cntP_take (f := f) l
  rwa [h, List.take_of_length_le (by omega)] at this
theorem cntP_full' {l : List UInt8} (h : l.all f = true) : cntP f l = l.length := by
  have := cntP_all (r := []) h (fun b r e => by cases e)
  simpa using this
theorem cntP_append_off {l r : List UInt8} (hr : offB f r) : cntP f (l ++ r) = cntP f l := by
  have e := List.take_append_drop (cntP f l) l
  have h1 := cntP_take (f := f) l
  have h2 := cntP_off (f := f) l
  have hle := cntP_le f l
  have h3 : offB f (l.drop (cntP f l) ++ r) := by
    intro b r' e'
    cases hd : l.drop (cntP f l) with
    | nil => rw [hd] at e'; exact hr b r' e'
    | cons x y => rw [hd] at e' h2; injection e' with e1 _; subst e1; exact h2 _ _ rfl
  have h4 := cntP_all h1 h3
  rw [← List.append_assoc, e] at h4
  rw [h4, List.length_take]; omega
end

theorem gapP_le : ∀ (l : List UInt8) (c : Bool), gapP c l ≤ l.length := by
  intro l
  induction l with
  | nil => intro c; simp [gapP]
  | cons b l ih =>
    intro c
    rw [gapP]
    split
    · rename_i c' _; have := ih c'; simp; omega
    · simp
/-- The state behind a text that is all gap. -/
def gapE : Bool → List UInt8 → Bool
  | c, [] => c
  | c, b :: l => match gapStep c b with | some c' => gapE c' l | none => c
theorem gapStep_none {c : Bool} {b : UInt8} (h : gapStep c b = none) : c = false := by
  cases c
  · rfl
  · simp [gapStep] at h
theorem gapP_drop : ∀ (l : List UInt8) (c : Bool), gapP false (l.drop (gapP c l)) = 0 := by
  intro l
  induction l with
  | nil => intro c; simp [gapP]
  | cons b l ih =>
    intro c
    rw [gapP]
    split
    · rw [List.drop_succ_cons]; exact ih _
    · rename_i h
      have hc := gapStep_none h
      subst hc
      rw [List.drop_zero, gapP, h]
theorem gapP_append : ∀ (l r : List UInt8) (c : Bool), gapP c (l ++ r) = if gapP c l = l.length then l.length + gapP (gapE c l) r else gapP c l := by
  intro l
  induction l with
  | nil => intro r c; simp [gapP, gapE]
  | cons b l ih =>
    intro r c
    rw [List.cons_append, gapP, gapP, gapE]
    cases h : gapStep c b with
    | none => simp
    | some c' =>
      simp only [ih r c', List.length_cons, Nat.add_right_cancel_iff]
      split <;> omega
theorem gapE_line (c : Bool) (y : List UInt8) : gapP c (10 :: y) = gapP false y + 1 := by
  cases c <;> rfl
theorem gapP_take : ∀ (l : List UInt8) (c : Bool) (m : Nat), m ≤ gapP c l → gapP c (l.take m) = m := by
  intro l
  induction l with
  | nil => intro c m h; simp [gapP] at h; subst h; rfl
  | cons b l ih =>
    intro c m h
    rw [gapP] at h
    cases m with
    | zero => rfl
    | succ m =>
      rw [List.take_succ_cons, gapP]
      cases hs : gapStep c b with
      | none => rw [hs] at h; simp at h
      | some c' => rw [hs] at h; simp only [ih c' m (by simpa using h)]
/-- A token's bytes in a text. -/
def wrP (t : Tok) : List UInt8 := if t.kind = 2 then quoP t.text else t.text
/-- What may stand behind a token. -/
def stopB (t : Tok) (r : List UInt8) : Prop := (t.kind = 0 → offB nameB r) ∧ (t.kind = 1 → offB digB r)
theorem unqP_nat : ∀ (k : Nat) (l : List UInt8), l.length ≤ k → ∀ v n, unqP l = some (v, n) → l.take n = escP v ++ [34] ∧ n ≤ l.length ∧ n = (escP v).length + 1 := by
  intro k
  induction k with
  | zero => intro l hl v n h; cases l with
    | nil => simp [unqP_nil] at h
    | cons b l => simp at hl
  | succ k ih =>
    intro l hl v n h
    cases l with
    | nil => simp [unqP_nil] at h
    | cons b l =>
      rw [unqP_cons] at h
      split at h
      · rename_i hb
        simp only [Option.some.injEq, Prod.mk.injEq] at h
        obtain ⟨rfl, rfl⟩ := h
        have : b = 34 := UInt8.toNat_inj.1 (by simpa using hb)
        subst this
        simp [escP]
      · rename_i hb
        split at h
        · rename_i hb2
          split at h
          · cases h
          · rename_i c r
            split at h
            · rename_i hc
              cases hu : unqP r with
              | none => rw [hu] at h; cases h
              | some x =>
                rw [hu] at h
                simp only [Option.map_some, Option.some.injEq, Prod.mk.injEq] at h
                obtain ⟨rfl, rfl⟩ := h
                obtain ⟨h1, h2, h3⟩ := ih r (by simp at hl; omega) x.1 x.2 (by rw [hu])
                have : b = 92 := UInt8.toNat_inj.1 (by simpa using hb2)
                subst this
                refine ⟨by rw [List.take_succ_cons, List.take_succ_cons, h1, escP, if_pos hc]; rfl, by simp; omega, by rw [escP, if_pos hc]; simp; omega⟩
            · cases h
        · rename_i hb2
          cases hu : unqP l with
          | none => rw [hu] at h; cases h
          | some x =>
            rw [hu] at h
            simp only [Option.map_some, Option.some.injEq, Prod.mk.injEq] at h
            obtain ⟨rfl, rfl⟩ := h
            obtain ⟨h1, h2, h3⟩ := ih l (by simp at hl; omega) x.1 x.2 (by rw [hu])
            have hne : (b.toNat == 34 || b.toNat == 92) = false := by simp [hb, hb2]
            refine ⟨by rw [List.take_succ_cons, h1, escP, hne]; rfl, by simp; omega, by rw [escP, hne]; simp; omega⟩
theorem unqP_esc : ∀ (v r : List UInt8), unqP (escP v ++ 34 :: r) = some (v, (escP v).length + 1) := by
  intro v
  induction v with
  | nil => intro r; show unqP (34 :: r) = _; rw [unqP_cons]; rfl
  | cons b v ih =>
    intro r
    rw [escP]
    cases h : (b.toNat == 34 || b.toNat == 92) with
    | true =>
      rw [if_pos rfl]
      show unqP (92 :: b :: (escP v ++ 34 :: r)) = _
      rw [unqP_cons]
      simp only [show ((92 : UInt8).toNat == 34) = false from rfl, show ((92 : UInt8).toNat == 92) = true from rfl, h, if_true, ih r, Option.map_some]
      simp
    | false =>
      rw [if_neg (by simp)]
      show unqP (b :: (escP v ++ 34 :: r)) = _
      rw [unqP_cons]
      rw [Bool.or_eq_false_iff] at h
      simp [h.1, h.2, ih r]
theorem unqP_append {l r v : List UInt8} {n : Nat} (h : unqP l = some (v, n)) : unqP (l ++ r) = some (v, n) := by
  obtain ⟨h1, h2, h3⟩ := unqP_nat l.length l (Nat.le_refl _) v n h
  have e := List.take_append_drop n l
  rw [← e, h1, List.append_assoc, List.append_assoc]
  show unqP (escP v ++ 34 :: _) = _
  rw [unqP_esc, h3]
/-- A text without an end, with a line feed and more: no value, or one that is not valid. -/
theorem unqP_line : ∀ (k : Nat) (l : List UInt8), l.length ≤ k → ∀ y, unqP l = none → ∀ v n, unqP (l ++ 10 :: y) = some (v, n) → 10 ∈ v := by
  intro k
  induction k with
  | zero =>
    intro l hl y h v n hv
    cases l with
    | nil =>
      rw [List.nil_append, unqP_cons] at hv
      simp only [show ((10 : UInt8).toNat == 34) = false from rfl, show ((10 : UInt8).toNat == 92) = false from rfl] at hv
      cases hu : unqP y with
      | none => rw [hu] at hv; simp at hv
      | some x => rw [hu] at hv; simp at hv; rw [← hv.1]; simp
    | cons b l => simp at hl
  | succ k ih =>
    intro l hl y h v n hv
    cases l with
    | nil => exact ih [] (by simp) y h v n hv
    | cons b l =>
      rw [List.cons_append, unqP_cons] at hv
      rw [unqP_cons] at h
      split at h
      · cases h
      · rename_i hb
        rw [if_neg hb] at hv
        split at h
        · rename_i hb2
          rw [if_pos hb2] at hv
          cases l with
          | nil => simp at hv
          | cons c r =>
            simp only [List.cons_append] at hv h
            cases hc : (c.toNat == 34 || c.toNat == 92) with
            | false => rw [hc] at hv; simp at hv
            | true =>
              rw [hc] at hv h
              simp only [if_true] at hv h
              cases hu : unqP r with
              | some x => rw [hu] at h; cases h
              | none =>
                cases hu2 : unqP (r ++ 10 :: y) with
                | none => rw [hu2] at hv; cases hv
                | some x =>
                  rw [hu2] at hv
                  simp only [Option.map_some, Option.some.injEq, Prod.mk.injEq] at hv
                  have := ih r (by simp at hl; omega) y hu x.1 x.2 (by rw [hu2])
                  rw [← hv.1]; exact List.mem_cons_of_mem _ this
        · rename_i hb2
          rw [if_neg hb2] at hv
          cases hu : unqP l with
          | some x => rw [hu] at h; cases h
          | none =>
            cases hu2 : unqP (l ++ 10 :: y) with
            | none => rw [hu2] at hv; cases hv
            | some x =>
              rw [hu2] at hv
              simp only [Option.map_some, Option.some.injEq, Prod.mk.injEq] at hv
              have := ih l (by simp at hl; omega) y hu x.1 x.2 (by rw [hu2])
              rw [← hv.1]; exact List.mem_cons_of_mem _ this
theorem valueP_ten {v : List UInt8} (h : 10 ∈ v) : valueP v = false := by
  unfold valueP
  rw [Bool.and_eq_false_iff]
  refine .inr (List.all_eq_false.2 ⟨10, h, by decide⟩)
/- What reading one token gives, plainly. No condition. -/
section
theorem all_take {f : UInt8 → Bool} {l : List UInt8} (h : l.all f = true) (n : Nat) : (l.take n).all f = true := by
  rw [List.all_eq_true] at h ⊢
  exact fun x hx => h x (List.mem_of_mem_take hx)
theorem firstP_name {b : UInt8} {l : List UInt8} (h : letB b = true) : firstP (b :: l) = if cntP nameB (b :: l) ≤ 20 then .tok ⟨0, (b :: l).take (cntP nameB (b :: l)), 0, 0⟩ (cntP nameB (b :: l)) else .bad 3 := by
  rw [firstP, if_pos h]
theorem firstP_num {b : UInt8} {l : List UInt8} (h : letB b = false) (h2 : digB b = true) : firstP (b :: l) = match numP ((b :: l).take (cntP digB (b :: l))) with
      | some n => .tok ⟨1, (b :: l).take (cntP digB (b :: l)), n, 0⟩ (cntP digB (b :: l))
      | none => .bad 3 := by
  rw [firstP, if_neg (by simp [h]), if_pos h2]
theorem firstP_quo (l : List UInt8) : firstP (34 :: l) = match unqP l with
      | some (v, n) => if valueP v then .tok ⟨2, v, 0, 0⟩ (n + 1) else .bad 2
      | none => .bad 2 := rfl
theorem letB_facts {b : UInt8} (h : letB b = true) : nameB b = true ∧ digB b = false ∧ b.toNat ≠ 34 ∧ b.toNat ≠ 35 ∧ blankB b = false ∧ b.toNat ≠ 10 := by
  unfold letB at h
  unfold nameB digB blankB letB
  simp at h ⊢
  omega
theorem digB_facts {b : UInt8} (h : digB b = true) : nameB b = true ∧ letB b = false ∧ b.toNat ≠ 34 ∧ b.toNat ≠ 35 ∧ blankB b = false ∧ b.toNat ≠ 10 := by
  unfold digB at h
  unfold nameB digB blankB letB
  simp at h ⊢
  omega
theorem signB_facts {b : UInt8} (h : signB b = true) : nameB b = false ∧ letB b = false ∧ digB b = false ∧ b.toNat ≠ 34 ∧ b.toNat ≠ 35 ∧ blankB b = false ∧ b.toNat ≠ 10 := by
  unfold signB at h
  unfold nameB digB blankB letB
  simp at h ⊢
  omega
theorem cntP_pos {f : UInt8 → Bool} {b : UInt8} {l : List UInt8} (h : f b = true) : 1 ≤ cntP f (b :: l) := by rw [cntP, h]; simp
/-- What a token that is read is: its size, its bytes, what may stand behind it, and that it is read wherever that stands behind it. -/
def GoodB (t : Tok) : Prop := ∀ r, stopB t r → firstP (wrP t ++ r) = .tok t (wrP t).length
theorem firstP_tok {l : List UInt8} {t : Tok} {n : Nat} (h : firstP l = .tok t n) :
    1 ≤ n ∧ n ≤ l.length ∧ l.take n = wrP t ∧ stopB t (l.drop n) ∧ GoodB t ∧ t.pos = 0 ∧ (t.kind ≠ 1 → t.n = 0) ∧ gapP false l = 0 ∧ (0 ≤ t.kind ∧ t.kind ≤ 3) := by
  cases l with
  | nil => cases h
  | cons b l =>
    cases hl : letB b with
    | true =>
      obtain ⟨f1, f2, f3, f4, f5, f6⟩ := letB_facts hl
      rw [firstP_name hl] at h
      split at h
      · rename_i hc
        injection h with h1 h2
        subst h1 h2
        have hle := cntP_le nameB (b :: l)
        have hp := cntP_pos (f := nameB) (l := l) f1
        refine ⟨hp, hle, rfl, ⟨fun _ => cntP_off _, fun h => by simp at h⟩, ?_, rfl, fun _ => rfl, ?_, ⟨by simp, by simp⟩⟩
        · intro r hr
          show firstP ((b :: l).take (cntP nameB (b :: l)) ++ r) = _
          have h4 := cntP_all (cntP_take (f := nameB) (b :: l)) (hr.1 rfl)
          have hlen : ((b :: l).take (cntP nameB (b :: l))).length = cntP nameB (b :: l) := by rw [List.length_take]; omega
          rw [hlen] at h4
          obtain ⟨m, hm⟩ : ∃ m, cntP nameB (b :: l) = m + 1 := ⟨_, (Nat.sub_add_cancel hp).symm⟩
          show _ = First.tok _ ((b :: l).take (cntP nameB (b :: l))).length
          rw [hlen]
          rw [hm] at h4 hc ⊢
          rw [List.take_succ_cons, List.cons_append] at h4 ⊢
          rw [firstP_name hl, h4, if_pos hc, ← List.cons_append, List.take_left' (by have := hlen; rw [hm, List.take_succ_cons] at this; exact this)]
        · rw [gapP]; simp [gapStep, f4, f5]
      · cases h
    | false =>
      cases hd : digB b with
      | true =>
        obtain ⟨f1, f2, f3, f4, f5, f6⟩ := digB_facts hd
        rw [firstP_num hl hd] at h
        split at h
        · rename_i k hc
          injection h with h1 h2
          subst h1 h2
          have hle := cntP_le digB (b :: l)
          have hp := cntP_pos (f := digB) (l := l) hd
          refine ⟨hp, hle, rfl, ⟨fun h => by simp at h, fun _ => cntP_off _⟩, ?_, rfl, fun h => absurd rfl h, ?_, ⟨by simp, by simp⟩⟩
          · intro r hr
            show firstP ((b :: l).take (cntP digB (b :: l)) ++ r) = _
            have h4 := cntP_all (cntP_take (f := digB) (b :: l)) (hr.2 rfl)
            have hlen : ((b :: l).take (cntP digB (b :: l))).length = cntP digB (b :: l) := by rw [List.length_take]; omega
            rw [hlen] at h4
            obtain ⟨m, hm⟩ : ∃ m, cntP digB (b :: l) = m + 1 := ⟨_, (Nat.sub_add_cancel hp).symm⟩
            show _ = First.tok _ ((b :: l).take (cntP digB (b :: l))).length
            rw [hlen]
            rw [hm] at h4 hc ⊢
            rw [List.take_succ_cons, List.cons_append] at h4
            rw [List.take_succ_cons] at hc
            rw [List.take_succ_cons, List.cons_append, firstP_num hl hd, h4, ← List.cons_append, List.take_left' (by have := hlen; rw [hm, List.take_succ_cons] at this; exact this), hc]
          · rw [gapP]; simp [gapStep, f4, f5]
        · cases h
      | false =>
        cases hq : b.toNat == 34 with
        | true =>
          have : b = 34 := UInt8.toNat_inj.1 (by simpa using hq)
          subst this
          rw [firstP_quo] at h
          split at h
          · rename_i v m hu
            split at h
            · rename_i hv
              injection h with h1 h2
              subst h1 h2
              obtain ⟨g1, g2, g3⟩ := unqP_nat _ l (Nat.le_refl _) v m hu
              refine ⟨by omega, by simp; omega, by rw [List.take_succ_cons, g1]; rfl, ⟨fun h => by simp at h, fun h => by simp at h⟩, ?_, rfl, fun _ => rfl, rfl, ⟨by simp, by simp⟩⟩
              intro r _
              show firstP (34 :: (escP v ++ [34] ++ r)) = _
              rw [firstP_quo, List.append_assoc]
              show (match unqP (escP v ++ 34 :: r) with | some (v, n) => if valueP v then First.tok ⟨2, v, 0, 0⟩ (n + 1) else .bad 2 | none => .bad 2) = _
              rw [unqP_esc]
              simp only [hv, if_true]
              simp [wrP, quoP]
            · cases h
          · cases h
        | false =>
          have hnq : b.toNat ≠ 34 := by simpa using hq
          rw [firstP, if_neg (by simp [hl]), if_neg (by simp [hd]), if_neg (by simp [hnq])] at h
          split at h
          · rename_i hs
            obtain ⟨f1, f2, f3, f4, f5, f6, f7⟩ := signB_facts hs
            injection h with h1 h2
            subst h1 h2
            refine ⟨by omega, by simp, rfl, ⟨fun h => by simp at h, fun h => by simp at h⟩, ?_, rfl, fun _ => rfl, ?_, ⟨by simp, by simp⟩⟩
            · intro r _
              show firstP (b :: r) = _
              rw [firstP, if_neg (by simp [hl]), if_neg (by simp [hd]), if_neg (by simp [hnq]), if_pos hs]
              rfl
            · rw [gapP]; simp [gapStep, f5, f6]
          · cases h
theorem off_line {f : UInt8 → Bool} (y : List UInt8) (h : f 10 = false) : offB f (10 :: y) := by
  intro b r e
  injection e with e1 _
  rw [← e1]; exact h
theorem take_append_cnt {f : UInt8 → Bool} (l r : List UInt8) : (l ++ r).take (cntP f l) = l.take (cntP f l) := List.take_append_of_le_length (cntP_le f l)
/-- A line feed and more behind a text do not change its first token, nor its error. -/
theorem firstP_line {l : List UInt8} (hl : l ≠ []) (y : List UInt8) : firstP (l ++ 10 :: y) = firstP l := by
  cases h : firstP l with
  | tok t n =>
    obtain ⟨h1, h2, h3, h4, h5, _⟩ := firstP_tok h
    have e := List.take_append_drop n l
    have hlen : (wrP t).length = n := by rw [← h3, List.length_take]; omega
    rw [← e, h3, List.append_assoc, h5 _ ?_, hlen]
    constructor
    · intro hk
      have h6 := h4.1 hk
      intro b r hb
      cases hd : l.drop n with
      | nil => rw [hd] at hb; exact off_line y (by decide) b r hb
      | cons c d => rw [hd] at hb; injection hb with e1 _; subst e1; exact h6 _ _ hd
    · intro hk
      have h6 := h4.2 hk
      intro b r hb
      cases hd : l.drop n with
      | nil => rw [hd] at hb; exact off_line y (by decide) b r hb
      | cons c d => rw [hd] at hb; injection hb with e1 _; subst e1; exact h6 _ _ hd
  | bad e =>
    cases l with
    | nil => exact absurd rfl hl
    | cons b l =>
      have c1 : cntP nameB (b :: (l ++ 10 :: y)) = cntP nameB (b :: l) := cntP_append_off (l := b :: l) (off_line y (by decide))
      have c2 : cntP digB (b :: (l ++ 10 :: y)) = cntP digB (b :: l) := cntP_append_off (l := b :: l) (off_line y (by decide))
      have t1 : (b :: (l ++ 10 :: y)).take (cntP nameB (b :: l)) = (b :: l).take (cntP nameB (b :: l)) := take_append_cnt (b :: l) _
      have t2 : (b :: (l ++ 10 :: y)).take (cntP digB (b :: l)) = (b :: l).take (cntP digB (b :: l)) := take_append_cnt (b :: l) _
      rw [List.cons_append, firstP, c1, c2, t1, t2]
      rw [firstP] at h
      split at h
      · rename_i b1
        rw [if_pos b1]
        exact h
      · rename_i b1
        rw [if_neg b1]
        split at h
        · rename_i b2
          rw [if_pos b2]
          exact h
        · rename_i b2
          rw [if_neg b2]
          split at h
          · rename_i b3
            rw [if_pos b3]
            split at h
            · rename_i v n hu
              rw [unqP_append hu]
              exact h
            · rename_i hu
              cases hu2 : unqP (l ++ 10 :: y) with
              | none => exact h
              | some x =>
                have := valueP_ten (unqP_line _ l (Nat.le_refl _) y hu x.1 x.2 hu2)
                simp only [this]
                exact h
          · rename_i b3
            rw [if_neg b3]
            exact h
theorem firstP_take {l : List UInt8} {t : Tok} {n m : Nat} (h : firstP l = .tok t n) (hm : n ≤ m) : firstP (l.take m) = .tok t n := by
  obtain ⟨h1, h2, h3, h4, h5, _⟩ := firstP_tok h
  have hlen : (wrP t).length = n := by rw [← h3, List.length_take]; omega
  have e : l.take m = wrP t ++ (l.drop n).take (m - n) := by
    rw [← h3]
    conv => lhs; rw [← List.take_append_drop n l]
    rw [List.take_append, List.take_of_length_le (by rw [List.length_take]; omega), List.length_take, Nat.min_eq_left h2]
  have off : ∀ f : UInt8 → Bool, offB f (l.drop n) → offB f ((l.drop n).take (m - n)) := by
    intro f hf b r hb
    cases hd : l.drop n with
    | nil => rw [hd] at hb; simp at hb
    | cons c d =>
      rw [hd] at hb
      cases hk : m - n with
      | zero => rw [hk] at hb; simp at hb
      | succ k =>
        rw [hk, List.take_succ_cons] at hb
        injection hb with e1 _; subst e1; exact hf _ _ hd
  rw [e, h5 _ ⟨fun hk => off _ (h4.1 hk), fun hk => off _ (h4.2 hk)⟩, hlen]
end

/-- How scanning ends. -/
inductive Res where
  | ok (l : List Tok)
  | err (a : Nat) (e : Int)
def Res.pre (ts : List Tok) : Res → Res
  | .ok l => .ok (ts ++ l)
  | .err a e => .err a e
def scanF : Nat → Nat → List UInt8 → Res
  | 0, _, _ => .ok []
  | f + 1, a, l => match l.drop (gapP false l) with
    | [] => .ok []
    | b :: r => match firstP (b :: r) with
      | .bad e => .err (a + gapP false l) e
      | .tok t n => (scanF f (a + gapP false l + n) ((b :: r).drop n)).pre [{ t with pos := a + gapP false l }]
/-- The tokens of a text that stands at a. -/
def scanP (a : Nat) (l : List UInt8) : Res := scanF (l.length + 1) a l
theorem scanF_enough : ∀ (f : Nat) (l : List UInt8) (a : Nat), l.length < f → scanF f a l = scanP a l := by
  have key : ∀ (f g : Nat) (l : List UInt8) (a : Nat), l.length < f → l.length < g → scanF f a l = scanF g a l := by
    intro f
    induction f with
    | zero => intro g l a h; omega
    | succ f ih =>
      intro g l a h hg
      cases g with
      | zero => omega
      | succ g =>
        rw [scanF, scanF]
        cases hd : l.drop (gapP false l) with
        | nil => rfl
        | cons b r =>
          have hlen : (b :: r).length ≤ l.length := by rw [← hd, List.length_drop]; omega
          simp only
          cases hf : firstP (b :: r) with
          | bad e => rfl
          | tok t n =>
            have h1 := (firstP_tok hf).1
            simp only
            rw [ih g ((b :: r).drop n) _ (by rw [List.length_drop]; simp at hlen ⊢; omega) (by rw [List.length_drop]; simp at hlen ⊢; omega)]
  exact fun f l a h => key f _ l a h (by omega)
/-- One step of scanning. -/
theorem scanP_eq (a : Nat) (l : List UInt8) : scanP a l = match l.drop (gapP false l) with
    | [] => .ok []
    | b :: r => match firstP (b :: r) with
      | .bad e => .err (a + gapP false l) e
      | .tok t n => (scanP (a + gapP false l + n) ((b :: r).drop n)).pre [{ t with pos := a + gapP false l }] := by
  rw [scanP, scanF]
  cases hd : l.drop (gapP false l) with
  | nil => rfl
  | cons b r =>
    have hlen : (b :: r).length ≤ l.length := by rw [← hd, List.length_drop]; omega
    simp only
    cases hf : firstP (b :: r) with
    | bad e => rfl
    | tok t n =>
      have h1 := (firstP_tok hf).1
      simp only
      rw [scanF_enough _ _ _ (by rw [List.length_drop]; simp at hlen ⊢; omega)]
theorem scanP_gap (a : Nat) (l : List UInt8) (c : Bool) (hc : c = false) : scanP a l = scanP (a + gapP c l) (l.drop (gapP c l)) := by

  subst hc
  rw [scanP_eq a l, scanP_eq (a + gapP false l) (l.drop (gapP false l)), gapP_drop, List.drop_zero, Nat.add_zero]
theorem scanP_nil (a : Nat) : scanP a [] = .ok [] := rfl
theorem scanP_idle (a : Nat) {l : List UInt8} (h : gapP false l = l.length) : scanP a l = .ok [] := by
  rw [scanP_eq, h, List.drop_length]
theorem scanP_bad (a : Nat) {l : List UInt8} {e : Int} (hl : l ≠ []) (hg : gapP false l = 0) (h : firstP l = .bad e) : scanP a l = .err a e := by
  rw [scanP_eq, hg, List.drop_zero]
  cases l with
  | nil => exact absurd rfl hl
  | cons b r => simp only [h]; rfl
theorem scanP_tok (a : Nat) {l : List UInt8} {t : Tok} {n : Nat} (h : firstP l = .tok t n) : scanP a l = (scanP (a + n) (l.drop n)).pre [{ t with pos := a }] := by
  have hg := (firstP_tok h).2.2.2.2.2.2.2.1
  rw [scanP_eq, hg, List.drop_zero]
  cases l with
  | nil => cases h
  | cons b r => simp only [h]; rfl
theorem Res.pre_pre (s t : List Tok) (r : Res) : (r.pre t).pre s = r.pre (s ++ t) := by
  cases r <;> simp [Res.pre]
theorem Res.pre_nil (r : Res) : r.pre [] = r := by cases r <;> rfl
/-- Rule of induction: a text is a gap, or a gap and an error, or a gap, a token and a text. -/
theorem scan_ind {p : List UInt8 → Prop} (h0 : ∀ l, gapP false l = l.length → p l)
    (h1 : ∀ l e, l.drop (gapP false l) ≠ [] → firstP (l.drop (gapP false l)) = .bad e → p l)
    (h2 : ∀ l t n, firstP (l.drop (gapP false l)) = .tok t n → p ((l.drop (gapP false l)).drop n) → p l) : ∀ l, p l := by
  intro l
  induction hk : l.length using Nat.strongRecOn generalizing l with
  | _ k ih =>
    by_cases hd : l.drop (gapP false l) = []
    · refine h0 l ?_
      have := gapP_le l false
      have h3 := congrArg List.length hd
      rw [List.length_drop] at h3
      simp at h3
      omega
    · cases hf : firstP (l.drop (gapP false l)) with
      | bad e => exact h1 l e hd hf
      | tok t n =>
        refine h2 l t n hf (ih _ ?_ _ rfl)
        have := (firstP_tok hf).1
        have h4 := (firstP_tok hf).2.1
        rw [List.length_drop] at h4 ⊢
        rw [List.length_drop]
        omega
theorem scanP_gap0 (a : Nat) (l : List UInt8) : scanP a l = scanP (a + gapP false l) (l.drop (gapP false l)) := scanP_gap a l false rfl
/- The statements on tokens, plainly: printing and reading again, places, joining, errors, quoting. No condition but lengths. -/
def printP : List Tok → List UInt8
  | [] => []
  | [t] => wrP t
  | t :: u :: r => wrP t ++ 32 :: printP (u :: r)
def stripT (t : Tok) : Tok := { t with pos := 0 }
def place : Nat → List Tok → List Tok
  | _, [] => []
  | a, t :: r => { t with pos := a } :: place (a + (wrP t).length + 1) r
theorem place_strip : ∀ (ts : List Tok) (a : Nat), (place a ts).map stripT = ts.map stripT := by
  intro ts
  induction ts with
  | nil => intro a; rfl
  | cons t r ih => intro a; rw [place, List.map_cons, ih]; rfl
theorem printP_strip : ∀ (ts us : List Tok), ts.map stripT = us.map stripT → printP ts = printP us := by
  have hw : ∀ t u : Tok, stripT t = stripT u → wrP t = wrP u := by
    intro t u h
    have h1 : (stripT t).kind = (stripT u).kind := congrArg Tok.kind h
    have h2 : (stripT t).text = (stripT u).text := congrArg Tok.text h
    show wrP (stripT t) = wrP (stripT u)
    rw [wrP, wrP, h1, h2]
  intro ts
  induction ts with
  | nil => intro us h; cases us with
    | nil => rfl
    | cons u r => cases h
  | cons t r ih =>
    intro us h
    cases us with
    | nil => cases h
    | cons u s =>
      rw [List.map_cons, List.map_cons] at h
      injection h with h1 h2
      have e := ih s h2
      cases r with
      | nil => cases s with
        | nil => exact hw t u h1
        | cons v s => cases h2
      | cons v r => cases s with
        | nil => cases h2
        | cons v' s => rw [printP, printP, hw t u h1, e]
/-- What a token of a text is. -/
def TokOk (t : Tok) : Prop := GoodB (stripT t) ∧ 1 ≤ (wrP t).length ∧ (t.kind = 0 → nameP t.text = true) ∧ (t.kind = 1 → ∃ n : Nat, t.n = n ∧ numP t.text = some n) ∧ (t.kind ≠ 1 → t.n = 0) ∧ (0 ≤ t.kind ∧ t.kind ≤ 3)
theorem firstP_ok {l : List UInt8} {t : Tok} {n : Nat} (h : firstP l = .tok t n) (a : Nat) : TokOk { t with pos := a } := by
  obtain ⟨h1, h2, h3, h4, h5, h6, h7, _, h8⟩ := firstP_tok h
  have hs : stripT { t with pos := a } = t := by
    cases t; simp only at h6; subst h6; rfl
  refine ⟨by rw [hs]; exact h5, ?_, ?_, ?_, h7, h8⟩
  · show 1 ≤ (wrP t).length
    rw [← h3, List.length_take]; omega
  · show t.kind = 0 → nameP t.text = true
    intro hk
    cases l with
    | nil => cases h
    | cons b l =>
      rw [firstP] at h
      split at h
      · rename_i hb
        split at h
        · rename_i hc
          injection h with e1 e2
          subst e1
          have hp := cntP_pos (f := nameB) (l := l) (letB_facts hb).1
          have hle := cntP_le nameB (b :: l)
          simp only [nameP, Bool.and_eq_true]
          refine ⟨⟨?_, ?_⟩, cntP_take _⟩
          · obtain ⟨m, hm⟩ : ∃ m, cntP nameB (b :: l) = m + 1 := ⟨_, (Nat.sub_add_cancel hp).symm⟩
            rw [hm, List.take_succ_cons]
            simp [hb]
          · rw [List.length_take]; simp; omega
        · cases h
      · split at h
        · split at h
          · injection h with e1 e2; subst e1; simp at hk
          · cases h
        · split at h
          · split at h
            · split at h
              · injection h with e1 e2; subst e1; simp at hk
              · cases h
            · cases h
          · split at h
            · injection h with e1 e2; subst e1; simp at hk
            · cases h
  · show t.kind = 1 → ∃ n : Nat, t.n = n ∧ numP t.text = some n
    intro hk
    cases l with
    | nil => cases h
    | cons b l =>
      rw [firstP] at h
      split at h
      · split at h
        · injection h with e1 e2; subst e1; simp at hk
        · cases h
      · split at h
        · split at h
          · rename_i k hc
            injection h with e1 e2; subst e1; exact ⟨k, rfl, hc⟩
          · cases h
        · split at h
          · split at h
            · split at h
              · injection h with e1 e2; subst e1; simp at hk
              · cases h
            · cases h
          · split at h
            · injection h with e1 e2; subst e1; simp at hk
            · cases h
def sumL (ts : List Tok) : Nat := (ts.map fun t => (wrP t).length).sum
theorem scanP_case (a : Nat) (l : List UInt8) : (gapP false l = l.length ∧ scanP a l = .ok []) ∨
    (∃ e, l.drop (gapP false l) ≠ [] ∧ firstP (l.drop (gapP false l)) = .bad e ∧ scanP a l = .err (a + gapP false l) e) ∨
    (∃ t n, firstP (l.drop (gapP false l)) = .tok t n ∧ scanP a l = (scanP (a + gapP false l + n) ((l.drop (gapP false l)).drop n)).pre [{ t with pos := a + gapP false l }]) := by
  by_cases hd : l.drop (gapP false l) = []
  · refine .inl ?_
    have hg : gapP false l = l.length := by
      have := gapP_le l false
      have h3 := congrArg List.length hd
      rw [List.length_drop] at h3
      simp at h3
      omega
    exact ⟨hg, scanP_idle a hg⟩
  · cases hf : firstP (l.drop (gapP false l)) with
    | bad e => exact .inr (.inl ⟨e, hd, rfl, by rw [scanP_gap0, scanP_bad _ hd (gapP_drop l false) hf]⟩)
    | tok t n => exact .inr (.inr ⟨t, n, rfl, by rw [scanP_gap0, scanP_tok _ hf]⟩)
theorem pre_ok {s ts : List Tok} {r : Res} (h : r.pre s = .ok ts) : ∃ us, r = .ok us ∧ ts = s ++ us := by
  cases r with
  | ok us => injection h with h; exact ⟨us, rfl, h.symm⟩
  | err a e => cases h
theorem pre_err {s : List Tok} {r : Res} {i : Nat} {e : Int} (h : r.pre s = .err i e) : r = .err i e := by
  cases r with
  | ok us => cases h
  | err a e => exact h
theorem scanP_all : ∀ (l : List UInt8) (a : Nat) (ts : List Tok), scanP a l = .ok ts → (∀ t ∈ ts, TokOk t) ∧ sumL ts ≤ l.length := by
  refine scan_ind (fun l hg a ts h => ?_) (fun l e hd hf a ts h => ?_) (fun l t n hf ih a ts h => ?_)
  · rw [scanP_idle a hg] at h
    injection h with h
    subst h
    exact ⟨fun t ht => by simp at ht, by simp [sumL]⟩
  · rw [scanP_gap0, scanP_bad _ hd (gapP_drop l false) hf] at h
    cases h
  · rw [scanP_gap0, scanP_tok _ hf] at h
    obtain ⟨us, h1, rfl⟩ := pre_ok h
    obtain ⟨h2, h3⟩ := ih _ us h1
    obtain ⟨g1, g2, g3, _⟩ := firstP_tok hf
    refine ⟨fun u hu => ?_, ?_⟩
    · rw [List.singleton_append] at hu
      rcases List.mem_cons.1 hu with rfl | hu
      · exact firstP_ok hf _
      · exact h2 u hu
    · have hw : (wrP t).length = n := by rw [← g3, List.length_take]; omega
      rw [List.length_drop, List.length_drop] at h3
      rw [List.length_drop] at g2
      have hs : sumL ([{ t with pos := a + gapP false l }] ++ us) = n + sumL us := by
        rw [← hw]; simp [sumL]; rfl
      rw [hs]
      omega
theorem scanP_blank (a : Nat) (l : List UInt8) : scanP a (32 :: l) = scanP (a + 1) l := by
  rw [scanP_gap0 a (32 :: l), scanP_gap0 (a + 1) l]
  have : gapP false (32 :: l) = gapP false l + 1 := rfl
  rw [this, List.drop_succ_cons, Nat.add_assoc, Nat.add_comm 1]
theorem wrP_strip (t : Tok) : wrP (stripT t) = wrP t := rfl
theorem off_blank {f : UInt8 → Bool} (y : List UInt8) (h : f 32 = false) : offB f (32 :: y) := by
  intro b r e
  injection e with e1 _
  rw [← e1]; exact h
theorem scanP_print : ∀ (ts : List Tok) (a : Nat), (∀ t ∈ ts, TokOk t) → scanP a (printP ts) = .ok (place a ts) := by
  intro ts
  induction ts with
  | nil => intro a _; rfl
  | cons t r ih =>
    intro a h
    have hg := (h t (by simp)).1
    cases r with
    | nil =>
      have h1 := hg [] ⟨fun _ b r e => (by cases e), fun _ b r e => (by cases e)⟩
      rw [wrP_strip, List.append_nil] at h1
      show scanP a (wrP t) = _
      rw [scanP_tok a h1, List.drop_length, scanP_nil]
      rfl
    | cons u r =>
      have h1 := hg (32 :: printP (u :: r)) ⟨fun _ => off_blank _ (by decide), fun _ => off_blank _ (by decide)⟩
      rw [wrP_strip] at h1
      rw [printP, scanP_tok a h1, List.drop_left, scanP_blank, ih _ (fun t ht => h t (List.mem_cons_of_mem _ ht))]
      rfl
theorem printP_length : ∀ (ts : List Tok), (∀ t ∈ ts, 1 ≤ (wrP t).length) → (printP ts).length ≤ 2 * sumL ts := by
  intro ts
  induction ts with
  | nil => intro _; simp [printP]
  | cons t r ih =>
    intro h
    have h1 := h t (by simp)
    have h2 := ih (fun u hu => h u (List.mem_cons_of_mem _ hu))
    have hs : sumL (t :: r) = (wrP t).length + sumL r := by simp [sumL]
    cases r with
    | nil => rw [hs]; simp only [printP]; omega
    | cons u r => rw [hs, printP, List.length_append, List.length_cons]; omega
theorem back_plain {l : List UInt8} {ts : List Tok} (hl : l.length ≤ 900) (h : scanP 0 l = .ok ts) :
    ∃ us, scanP 0 (printP ts) = .ok us ∧ ts.map stripT = us.map stripT ∧ printP us = printP ts ∧ (printP ts).length ≤ 1800 := by
  obtain ⟨h1, h2⟩ := scanP_all l 0 ts h
  refine ⟨_, scanP_print ts 0 h1, (place_strip ts 0).symm, printP_strip _ _ (place_strip ts 0), ?_⟩
  have := printP_length ts (fun t ht => (h1 t ht).2.1)
  omega

/-- A text of blanks and comments, as the statement reads it. -/
def idleP : Bool → List UInt8 → Bool
  | _, [] => true
  | c, b :: l => let c' := b.toNat == 35 || (c && b.toNat != 10)
    if !c' && !blankB b then false else idleP c' l
theorem idleP_gap : ∀ (l : List UInt8) (c : Bool), gapP c l = l.length → idleP c l = true := by
  intro l
  induction l with
  | nil => intro c _; rfl
  | cons b l ih =>
    intro c h
    rw [gapP] at h
    cases hs : gapStep c b with
    | none => rw [hs] at h; simp at h
    | some c' =>
      rw [hs] at h
      have hc : (b.toNat == 35 || (c && b.toNat != 10)) = c' ∧ (c' = false → blankB b = true) := by
        unfold gapStep at hs
        cases c with
        | true =>
          simp only [if_true, Option.some.injEq] at hs
          subst hs
          refine ⟨?_, ?_⟩
          · cases h5 : b.toNat == 35 with
            | true => have : b.toNat = 35 := by simpa using h5
                      simp [this]
            | false => simp
          · intro h6
            have : b.toNat = 10 := by simpa using h6
            simp [blankB, this]
        | false =>
          simp only [Bool.false_eq_true, if_false] at hs
          split at hs
          · rename_i h5
            injection hs with hs
            subst hs
            simp [h5]
          · rename_i h5
            split at hs
            · rename_i h6
              injection hs with hs
              subst hs
              simp at h5
              simp [h5, h6]
            · cases hs
      rw [idleP]
      simp only [hc.1]
      rw [if_neg]
      · exact ih c' (by simpa using h)
      · intro h7
        simp at h7
        rw [hc.2 h7.1] at h7
        exact absurd h7.2 (by simp)
/-- Tokens at their places in a text, behind an end. -/
def placedP (L : List UInt8) : Nat → List Tok → Prop
  | e, [] => e ≤ L.length ∧ idleP false (L.drop e) = true
  | e, t :: ts => e ≤ t.pos ∧ t.pos + (wrP t).length ≤ L.length ∧ 1 ≤ (wrP t).length ∧ (L.drop t.pos).take (wrP t).length = wrP t ∧ idleP false ((L.drop e).take (t.pos - e)) = true ∧ (t.kind ≠ 1 → t.n = 0) ∧ placedP L (t.pos + (wrP t).length) ts
theorem places_go (L : List UInt8) : ∀ (l : List UInt8) (a : Nat) (ts : List Tok), L.drop a = l → a ≤ L.length → scanP a l = .ok ts → placedP L a ts := by
  refine scan_ind (fun l hg a ts hd ha h => ?_) (fun l e hd hf a ts _ _ h => ?_) (fun l t n hf ih a ts hd ha h => ?_)
  · rw [scanP_idle a hg] at h
    injection h with h
    subst h
    exact ⟨ha, by rw [hd]; exact idleP_gap l false hg⟩
  · rw [scanP_gap0, scanP_bad _ hd (gapP_drop l false) hf] at h
    cases h
  · rw [scanP_gap0, scanP_tok _ hf] at h
    obtain ⟨us, h1, rfl⟩ := pre_ok h
    obtain ⟨g1, g2, g3, _⟩ := firstP_tok hf
    have hw : (wrP t).length = n := by rw [← g3, List.length_take]; omega
    have hle := gapP_le l false
    have hl : l.length = L.length - a := by rw [← hd, List.length_drop]
    rw [List.length_drop] at g2
    have e1 : L.drop (a + gapP false l) = l.drop (gapP false l) := by rw [← hd, List.drop_drop]
    refine ⟨Nat.le_add_right _ _, ?_, ?_, ?_, ?_, (firstP_ok hf 0).2.2.2.2.1, ?_⟩
    · show a + gapP false l + (wrP t).length ≤ _
      omega
    · show 1 ≤ (wrP t).length
      omega
    · show (L.drop (a + gapP false l)).take (wrP t).length = wrP t
      rw [e1, hw, g3]
    · show idleP false ((L.drop a).take (a + gapP false l - a)) = true
      rw [hd, Nat.add_sub_cancel_left]
      exact idleP_gap _ false (by rw [gapP_take l false _ (Nat.le_refl _), List.length_take]; omega)
    · show placedP L (a + gapP false l + (wrP t).length) us
      rw [hw]
      exact ih _ us (by rw [← e1, List.drop_drop]) (by omega) h1
theorem places_plain {L : List UInt8} {ts : List Tok} (h : scanP 0 L = .ok ts) : placedP L 0 ts :=
  places_go L L 0 ts rfl (Nat.zero_le _) h
theorem line_plain (y : List UInt8) : ∀ (l : List UInt8) (a : Nat), scanP a (l ++ 10 :: y) = match scanP a l with
    | .ok ts => (scanP (a + l.length + 1) y).pre ts
    | .err i e => .err i e := by
  refine scan_ind (fun l hg a => ?_) (fun l e hd hf a => ?_) (fun l t n hf ih a => ?_)
  · rw [scanP_idle a hg, scanP_gap0, gapP_append, if_pos hg, gapE_line]
    simp only
    rw [Res.pre_nil, ← List.drop_drop, List.drop_left, List.drop_succ_cons, scanP_gap0 (a + l.length + 1) y]
    congr 1
    omega
  · have hne : gapP false l ≠ l.length := by
      intro h; rw [h, List.drop_length] at hd; exact hd rfl
    rw [scanP_gap0 a (l ++ 10 :: y), gapP_append, if_neg hne, List.drop_append_of_le_length (gapP_le l false), scanP_gap0 a l, scanP_bad _ hd (gapP_drop l false) hf]
    simp only
    refine scanP_bad _ (by simp) ?_ (by rw [firstP_line hd]; exact hf)
    rw [gapP_append, gapP_drop, if_neg]
    intro h
    exact hd (List.eq_nil_of_length_eq_zero h.symm)
  · obtain ⟨g1, g2, g3, _⟩ := firstP_tok hf
    rw [List.length_drop] at g2
    have hne : gapP false l ≠ l.length := by omega
    have hd : l.drop (gapP false l) ≠ [] := by
      intro h; rw [h] at hf; cases hf
    have hf2 : firstP (l.drop (gapP false l) ++ 10 :: y) = .tok t n := by rw [firstP_line hd]; exact hf
    rw [scanP_gap0 a (l ++ 10 :: y), gapP_append, if_neg hne, List.drop_append_of_le_length (gapP_le l false), scanP_gap0 a l, scanP_tok _ hf, scanP_tok _ hf2,
      List.drop_append_of_le_length (by rw [List.length_drop]; exact g2), ih]
    cases hs : scanP (a + gapP false l + n) ((l.drop (gapP false l)).drop n) with
    | err i e => rfl
    | ok us =>
      simp only [Res.pre_pre]
      rw [List.length_drop, List.length_drop]
      show _ = (scanP (a + l.length + 1) y).pre ([{ t with pos := a + gapP false l }] ++ us)
      congr 2
      omega
def shiftR (d : Nat) : Res → Res
  | .ok l => .ok (l.map fun t => { t with pos := t.pos + d })
  | .err i e => .err (i + d) e
theorem shift_plain (d : Nat) : ∀ (l : List UInt8) (a : Nat), scanP (a + d) l = shiftR d (scanP a l) := by
  refine scan_ind (fun l hg a => ?_) (fun l e hd hf a => ?_) (fun l t n hf ih a => ?_)
  · rw [scanP_idle _ hg, scanP_idle _ hg]; rfl
  · rw [scanP_gap0, scanP_bad _ hd (gapP_drop l false) hf, scanP_gap0 a, scanP_bad _ hd (gapP_drop l false) hf]
    show Res.err _ _ = Res.err _ _
    congr 1
    omega
  · rw [scanP_gap0, scanP_tok _ hf, scanP_gap0 a, scanP_tok _ hf]
    have e : a + d + gapP false l + n = a + gapP false l + n + d := by omega
    have e2 : a + d + gapP false l = a + gapP false l + d := by omega
    rw [e, ih, e2]
    cases scanP (a + gapP false l + n) ((l.drop (gapP false l)).drop n) <;> rfl
theorem firstP_bad {l : List UInt8} {e : Int} (h : firstP l = .bad e) : e = 2 ∨ e = 3 ∨ e = 10 := by
  cases l with
  | nil => injection h with h; omega
  | cons b l =>
    rw [firstP] at h
    repeat (first | (split at h) | (injection h with h; omega) | cases h)
theorem error_plain : ∀ (l : List UInt8) (a i : Nat) (e : Int), scanP a l = .err i e →
    a ≤ i ∧ i - a < l.length ∧ (∃ ts, scanP a (l.take (i - a)) = .ok ts) ∧ scanP 0 (l.drop (i - a)) = .err 0 e ∧ (e = 2 ∨ e = 3 ∨ e = 10) := by
  refine scan_ind (fun l hg a i e h => ?_) (fun l e' hd hf a i e h => ?_) (fun l t n hf ih a i e h => ?_)
  · rw [scanP_idle a hg] at h
    cases h
  · rw [scanP_gap0, scanP_bad _ hd (gapP_drop l false) hf] at h
    injection h with h1 h2
    subst h1 h2
    have hle := gapP_le l false
    have hlt : gapP false l < l.length := by
      rcases Nat.lt_or_ge (gapP false l) l.length with h | h
      · exact h
      · exact absurd (List.drop_eq_nil_of_le h) hd
    rw [Nat.add_sub_cancel_left]
    refine ⟨Nat.le_add_right _ _, hlt, ⟨[], scanP_idle a ?_⟩, scanP_bad 0 hd (gapP_drop l false) hf, firstP_bad hf⟩
    rw [gapP_take l false _ (Nat.le_refl _), List.length_take]; omega
  · rw [scanP_gap0, scanP_tok _ hf] at h
    have h1 := pre_err h
    obtain ⟨g1, g2, g3, _⟩ := firstP_tok hf
    rw [List.length_drop] at g2
    obtain ⟨k1, k2, ⟨ts, k3⟩, k4, k5⟩ := ih _ i e h1
    rw [List.length_drop, List.length_drop] at k2
    rw [List.drop_drop, List.drop_drop] at k4
    have e1 : gapP false l + (n + (i - (a + gapP false l + n))) = i - a := by omega
    have e3 : gapP false l + n + (i - (a + gapP false l + n)) = i - a := by omega
    refine ⟨by omega, by omega, ⟨[{ t with pos := a + gapP false l }] ++ ts, ?_⟩, ?_, k5⟩
    · have e2 : l.take (i - a) = l.take (gapP false l) ++ (l.drop (gapP false l)).take (i - a - gapP false l) := by
        conv => lhs; rw [← List.take_append_drop (gapP false l) l]
        rw [List.take_append, List.length_take, Nat.min_eq_left (by omega), List.take_of_length_le (by rw [List.length_take]; omega)]
      have hg : gapP false (l.take (i - a)) = gapP false l := by
        have hf3 := firstP_take hf (m := i - a - gapP false l) (by omega)
        have h0 := (firstP_tok hf3).2.2.2.2.2.2.2.1
        have hgl : gapP false (l.take (gapP false l)) = (l.take (gapP false l)).length := by
          rw [gapP_take l false _ (Nat.le_refl _), List.length_take]; omega
        have hd0 := gapP_le (l.take (i - a)) false
        have key : ∀ (l : List UInt8) (c : Bool) (m : Nat), gapP c l < m → m ≤ l.length → gapP c (l.take m) = gapP c l := by
          intro l
          induction l with
          | nil => intro c m _ h; simp at h; subst h; rfl
          | cons b l ih =>
            intro c m hm hle
            cases m with
            | zero => omega
            | succ m =>
              rw [List.take_succ_cons, gapP, gapP] at *
              cases hs : gapStep c b with
              | none => rfl
              | some c' =>
                rw [hs] at hm
                simp only at hm ⊢
                rw [ih c' m (by omega) (by simp at hle; omega)]
        exact key l false (i - a) (by omega) (by omega)
      rw [scanP_gap0, hg]
      have hf3 := firstP_take hf (m := i - a - gapP false l) (by omega)
      have e4 : (l.take (i - a)).drop (gapP false l) = (l.drop (gapP false l)).take (i - a - gapP false l) := List.drop_take
      rw [e4, scanP_tok _ hf3]
      have e5 : ((l.drop (gapP false l)).take (i - a - gapP false l)).drop n = ((l.drop (gapP false l)).drop n).take (i - (a + gapP false l + n)) := by
        rw [List.drop_take]
        congr 1
        omega
      rw [e5, k3]
      rfl
    · first
        | (rw [e1] at k4; exact k4)
        | (rw [e3] at k4; exact k4)
theorem quote_plain {v : List UInt8} (h : valueP v = true) : scanP 0 (quoP v) = .ok [⟨2, v, 0, 0⟩] := by
  have h1 : firstP (quoP v) = .tok ⟨2, v, 0, 0⟩ (quoP v).length := by
    show firstP (34 :: (escP v ++ [34])) = _
    rw [firstP_quo, show escP v ++ [34] = escP v ++ 34 :: [] from rfl, unqP_esc]
    simp only [h, if_true]
    simp [quoP]
  rw [scanP_tok 0 h1, List.drop_length]
  rfl
theorem name_plain {l : List UInt8} (h : nameP l = true) : scanP 0 l = .ok [⟨0, l, 0, 0⟩] := by
  simp only [nameP, Bool.and_eq_true] at h
  cases l with
  | nil => simp at h
  | cons b l =>
    have hb : letB b = true := by simpa using h.1.1
    have hc := cntP_full' (f := nameB) h.2
    have h1 : firstP (b :: l) = .tok ⟨0, b :: l, 0, 0⟩ (b :: l).length := by
      rw [firstP_name hb, hc, if_pos (by simpa using h.1.2), List.take_length]
    rw [scanP_tok 0 h1, List.drop_length]
    rfl
theorem num_plain {l : List UInt8} {n : Nat} (h : numP l = some n) : scanP 0 l = .ok [⟨1, l, n, 0⟩] := by
  have h0 := h
  unfold numP at h
  split at h
  · rename_i hc
    cases l with
    | nil => exact absurd rfl hc.1
    | cons b l =>
      have hb : digB b = true := by
        have := hc.2.1
        rw [List.all_cons, Bool.and_eq_true] at this
        exact this.1
      have hcn := cntP_full' (f := digB) hc.2.1
      have h1 : firstP (b :: l) = .tok ⟨1, b :: l, n, 0⟩ (b :: l).length := by
        rw [firstP_num (digB_facts hb).2.1 hb, hcn, List.take_length, h0]
      rw [scanP_tok 0 h1, List.drop_length]
      rfl
  · cases h
end Go.Proofs.YtkhkdgkafocpoaaDoor
