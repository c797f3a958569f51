/- The journal, plainly: the sum and the form of a record, the records of a string. No condition but what each says. -/
import Derived.Test.YtnnakclmeihonaaDoorPure2
import Derived.Test.YtnnakclmeihonaaDoorDx
namespace Go.Proofs.YtnnakclmeihonaaDoor

/-- The sum of the first k bytes. -/
def sumN (l : List UInt8) : Nat → Nat
  | 0 => 0
  | k + 1 => (sumN l k + (atB l k).toNat * (k + 1)) % 2147483647
def sumP (l : List UInt8) : Nat := sumN l l.length
theorem sumN_lt (l : List UInt8) (k : Nat) : sumN l k < 2147483647 := by
  cases k with
  | zero => show 0 < 2147483647; omega
  | succ k => exact Nat.mod_lt _ (by omega)
theorem sumP_lt (l : List UInt8) : sumP l < 2147483647 := sumN_lt _ _
def formP (t : List UInt8) : List UInt8 := wText t ++ wInt (sumP t)
def formsP (ts : List (List UInt8)) : List UInt8 := (ts.map formP).flatten
theorem formsP_cons (t : List UInt8) (ts : List (List UInt8)) : formsP (t :: ts) = formP t ++ formsP ts := rfl
theorem formsP_snoc (ts : List (List UInt8)) (t : List UInt8) : formsP (ts ++ [t]) = formsP ts ++ formP t := by simp [formsP]
theorem formP_pos (t : List UInt8) : 0 < (formP t).length := by
  unfold formP wText
  rw [List.length_append, List.length_append, List.length_cons]
  omega
/-- One record at the beginning of a string, and what is left. -/
def stepP (l : List UInt8) : Option (List UInt8 × List UInt8) :=
  match textP l with
  | none => none
  | some (t, r) => match numP r with
    | none => none
    | some (n, r2) => if 20000 < t.length ∨ n ≠ sumP t then none else some (t, r2)
theorem stepP_iff {l t r : List UInt8} : stepP l = some (t, r) ↔ t.length ≤ 20000 ∧ l = formP t ++ r := by
  have hc := text_codec
  have hn := num_codec
  have hs := sumP_lt t
  constructor
  · intro h
    unfold stepP at h
    cases h1 : textP l with
    | none => rw [h1] at h; cases h
    | some q =>
      obtain ⟨t1, r1⟩ := q
      rw [h1] at h
      simp only at h
      cases h2 : numP r1 with
      | none => rw [h2] at h; cases h
      | some q2 =>
        obtain ⟨n, r2⟩ := q2
        rw [h2] at h
        simp only at h
        split at h
        · cases h
        · rename_i h3
          injection h with h
          injection h with ha hb
          subst ha
          subst hb
          obtain ⟨_, e1⟩ := (hc _ _ _).1 h1
          obtain ⟨_, e2⟩ := (hn _ _ _).1 h2
          have h4 : n = sumP t1 := by
            apply Decidable.byContradiction
            intro h5
            exact h3 (.inr h5)
          subst h4
          refine ⟨by omega, ?_⟩
          rw [e1, e2]
          unfold formP
          rw [List.append_assoc]
  · rintro ⟨h1, h2⟩
    have e1 : textP l = some (t, wInt (sumP t) ++ r) := (hc _ _ _).2 ⟨by show t.length ≤ _; omega, by rw [h2]; unfold formP; rw [List.append_assoc]⟩
    have e2 : numP (wInt (sumP t) ++ r) = some (sumP t, r) := (hn _ _ _).2 ⟨by show sumP t ≤ _; omega, rfl⟩
    unfold stepP
    rw [e1]
    simp only
    rw [e2]
    simp only
    rw [if_neg (by omega)]

def recsP : Nat → List UInt8 → List (List UInt8) × List UInt8
  | 0, l => ([], l)
  | k + 1, l => match stepP l with
    | none => ([], l)
    | some (t, r) => (t :: (recsP k r).1, (recsP k r).2)
/-- The records of a string, and what is left. -/
def recs (l : List UInt8) : List (List UInt8) × List UInt8 := recsP l.length l
theorem recsP_is : ∀ (ts : List (List UInt8)) (r l : List UInt8) (n : Nat), l = formsP ts ++ r → (∀ t ∈ ts, t.length ≤ 20000) → stepP r = none → l.length ≤ n → recsP n l = (ts, r)
  | [], r, l, n, hl, _, hr, _ => by
    have e : l = r := hl
    subst e
    cases n with
    | zero => rfl
    | succ n => unfold recsP; rw [hr]
  | t :: ts, r, l, n, hl, ht, hr, hn => by
    have e : l = formP t ++ (formsP ts ++ r) := by rw [hl, formsP_cons, List.append_assoc]
    have hs := stepP_iff.2 ⟨ht t (by simp), e⟩
    have hp := formP_pos t
    have hlen : l.length = (formP t).length + (formsP ts ++ r).length := by rw [e, List.length_append]
    cases n with
    | zero => omega
    | succ n =>
      have ih := recsP_is ts r (formsP ts ++ r) n rfl (fun q hq => ht q (by simp [hq])) hr (by omega)
      unfold recsP
      rw [hs]
      simp only
      rw [ih]
theorem recsP_end : ∀ (n : Nat) (l : List UInt8), l.length ≤ n → l = formsP (recsP n l).1 ++ (recsP n l).2 ∧ (∀ t ∈ (recsP n l).1, t.length ≤ 20000) ∧ stepP (recsP n l).2 = none
  | 0, l, hn => by
    have : l = [] := List.eq_nil_of_length_eq_zero (by omega)
    subst this
    refine ⟨rfl, (fun t ht => by cases ht), ?_⟩
    show stepP [] = none
    cases h : stepP [] with
    | none => rfl
    | some q =>
      have h1 := (stepP_iff (t := q.1) (r := q.2)).1 h
      have h2 := formP_pos q.1
      have h3 := congrArg List.length h1.2
      rw [List.length_append] at h3
      simp at h3
      omega
  | n + 1, l, hn => by
    cases h : stepP l with
    | none =>
      have e : recsP (n + 1) l = ([], l) := by unfold recsP; rw [h]
      rw [e]
      exact ⟨rfl, (fun t ht => by cases ht), h⟩
    | some q =>
      obtain ⟨t, r⟩ := q
      have e : recsP (n + 1) l = (t :: (recsP n r).1, (recsP n r).2) := by
        show (match stepP l with
          | none => ([], l)
          | some (t, r) => (t :: (recsP n r).1, (recsP n r).2)) = _
        rw [h]
      obtain ⟨h1, h2⟩ := stepP_iff.1 h
      have hp := formP_pos t
      have hlen : l.length = (formP t).length + r.length := by rw [h2, List.length_append]
      obtain ⟨i1, i2, i3⟩ := recsP_end n r (by omega)
      rw [e]
      refine ⟨?_, fun q hq => ?_, i3⟩
      · show l = formsP (t :: (recsP n r).1) ++ (recsP n r).2
        rw [formsP_cons, List.append_assoc, ← i1]
        exact h2
      · rcases List.mem_cons.1 hq with hq | hq
        · rw [hq]; exact h1
        · exact i2 q hq
theorem recs_is {ts : List (List UInt8)} {r l : List UInt8} (h : l = formsP ts ++ r) (ht : ∀ t ∈ ts, t.length ≤ 20000) (hr : stepP r = none) : recs l = (ts, r) := recsP_is ts r l _ h ht hr (Nat.le_refl _)
theorem recs_end (l : List UInt8) : l = formsP (recs l).1 ++ (recs l).2 ∧ (∀ t ∈ (recs l).1, t.length ≤ 20000) ∧ stepP (recs l).2 = none := recsP_end _ l (Nat.le_refl _)
theorem stepP_nil : stepP [] = none := by
  have := (recsP_end 0 [] (Nat.le_refl _)).2.2
  exact this
/-- The records of forms alone. -/
theorem recs_forms {ts : List (List UInt8)} (ht : ∀ t ∈ ts, t.length ≤ 20000) : recs (formsP ts) = (ts, []) := recs_is (List.append_nil _).symm ht stepP_nil

/-- A journal, plainly: its list; whether the disk has failed. -/
structure Js where
  list : List (List UInt8)
  broken : Bool
def openP (S : Ds) (f : Int) : Ds × Int × List (List UInt8) :=
  if (syncP S f).2 ≠ 0 then ((syncP S f).1, (syncP S f).2, []) else
  if (formsP (recs ((syncP S f).1.data f)).1).length < ((syncP S f).1.data f).length then
    (if (truncP (syncP S f).1 f ((formsP (recs ((syncP S f).1.data f)).1).length : Nat)).2 ≠ 0 then ((truncP (syncP S f).1 f ((formsP (recs ((syncP S f).1.data f)).1).length : Nat)).1, (truncP (syncP S f).1 f ((formsP (recs ((syncP S f).1.data f)).1).length : Nat)).2, [])
    else ((truncP (syncP S f).1 f ((formsP (recs ((syncP S f).1.data f)).1).length : Nat)).1, 0, (recs ((syncP S f).1.data f)).1))
  else ((syncP S f).1, 0, (recs ((syncP S f).1.data f)).1)
def appP (S : Ds) (f : Int) (j : Js) (t : List UInt8) : Ds × Js × Int :=
  if j.broken = true then (S, j, 7) else if 20000 < t.length then (S, j, 3) else if 1048576 < (formsP j.list).length + (formP t).length then (S, j, 6)
  else if (writeP S f ((formsP j.list).length : Nat) (formP t)).2 ≠ 0 then ((writeP S f ((formsP j.list).length : Nat) (formP t)).1, { j with broken := true }, (writeP S f ((formsP j.list).length : Nat) (formP t)).2)
  else ((writeP S f ((formsP j.list).length : Nat) (formP t)).1, { j with list := j.list ++ [t] }, 0)

end Go.Proofs.YtnnakclmeihonaaDoor
