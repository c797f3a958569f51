/- Plain lists: the sectors of a file leave the pending ones, one after the other. No condition but what each says. -/
import Derived.Test.YtjlndgkahmcfdaaDoorHd
namespace Go.Proofs.YtjlndgkahmcfdaaDoor
set_option maxRecDepth 8000

/-- The durable parts, behind the sectors of file f among l. -/
def procD (data : Int → List UInt8) (f : Int) : (Int → List UInt8) → List (Int × Int) → (Int → List UInt8)
  | dur, [] => dur
  | dur, p :: l => procD data f (if p.1 = f then hard data dur f p.2.toNat else dur) l
/-- The marks, without the sectors of file f among l. -/
def procM (mark : Int × Int → Prop) (f : Int) (l : List (Int × Int)) : Int × Int → Prop := fun q => mark q ∧ ¬ (q ∈ l ∧ q.1 = f)
def keepL (f : Int) (l : List (Int × Int)) : List (Int × Int) := l.filter fun p => p.1 != f

theorem procD_app (data : Int → List UInt8) (f : Int) (l r : List (Int × Int)) : ∀ dur, procD data f dur (l ++ r) = procD data f (procD data f dur l) r := by
  induction l with
  | nil => intro dur; rfl
  | cons p l ih => intro dur; exact ih _
theorem procD_snoc_yes (data dur : Int → List UInt8) (f : Int) (l : List (Int × Int)) (x : Nat) : procD data f dur (l ++ [(f, (x : Int))]) = hard data (procD data f dur l) f x := by
  rw [procD_app]
  show (if f = f then _ else _) = _
  rw [if_pos rfl]
  rfl
theorem procD_snoc_no (data dur : Int → List UInt8) (f : Int) (l : List (Int × Int)) (p : Int × Int) (h : p.1 ≠ f) : procD data f dur (l ++ [p]) = procD data f dur l := by
  rw [procD_app]
  show (if p.1 = f then _ else _) = _
  rw [if_neg h]
theorem procD_none (data dur : Int → List UInt8) (f : Int) (l : List (Int × Int)) (h : ∀ p ∈ l, p.1 ≠ f) : procD data f dur l = dur := by
  induction l generalizing dur with
  | nil => rfl
  | cons p l ih =>
    show procD data f (if p.1 = f then _ else dur) l = dur
    rw [if_neg (h p (by simp))]
    exact ih dur (fun q hq => h q (by simp [hq]))
theorem hard_len {data dur : Int → List UInt8} {f : Int} {n M : Nat} (hn : 64 * n < (data f).length) (h1 : (data f).length ≤ M) (h2 : (dur f).length ≤ M) : (hard data dur f n f).length ≤ M := by
  unfold hard
  rw [upd_same, putB_len, secB_len]
  omega
theorem procD_len {data : Int → List UInt8} {f : Int} {M : Nat} {l : List (Int × Int)} (hl : ∀ p ∈ l, p.1 = f → ∃ x : Nat, p.2 = (x : Int) ∧ 64 * x < (data f).length) (h1 : (data f).length ≤ M) : ∀ dur : Int → List UInt8, (dur f).length ≤ M → (procD data f dur l f).length ≤ M := by
  induction l with
  | nil => intro dur h; exact h
  | cons p l ih =>
    intro dur h
    show (procD data f (if p.1 = f then _ else dur) l f).length ≤ M
    refine ih (fun q hq => hl q (by simp [hq])) _ ?_
    split
    · rename_i e
      obtain ⟨x, e2, hx⟩ := hl p (by simp) e
      rw [e2]
      exact hard_len hx h1 h
    · exact h
theorem procM_snoc_yes (mark : Int × Int → Prop) (f x : Int) (l : List (Int × Int)) : procM mark f (l ++ [(f, x)]) = fun q => procM mark f l q ∧ q ≠ (f, x) := by
  funext q
  unfold procM
  simp only [List.mem_append, List.mem_singleton, eq_iff_iff]
  constructor
  · rintro ⟨h1, h2⟩
    exact ⟨⟨h1, fun h => h2 ⟨.inl h.1, h.2⟩⟩, fun e => h2 ⟨.inr e, by rw [e]⟩⟩
  · rintro ⟨⟨h1, h2⟩, h3⟩
    refine ⟨h1, fun h => ?_⟩
    rcases h.1 with h4 | h4
    · exact h2 ⟨h4, h.2⟩
    · exact h3 h4
theorem procM_snoc_no (mark : Int × Int → Prop) (f : Int) (l : List (Int × Int)) (p : Int × Int) (h : p.1 ≠ f) : procM mark f (l ++ [p]) = procM mark f l := by
  funext q
  unfold procM
  simp only [List.mem_append, List.mem_singleton, eq_iff_iff]
  constructor
  · rintro ⟨h1, h2⟩
    exact ⟨h1, fun h => h2 ⟨.inl h.1, h.2⟩⟩
  · rintro ⟨h1, h2⟩
    refine ⟨h1, fun h3 => ?_⟩
    rcases h3.1 with h4 | h4
    · exact h2 ⟨h4, h3.2⟩
    · exact h (by rw [← h4]; exact h3.2)
theorem procM_none (mark : Int × Int → Prop) (f : Int) (l : List (Int × Int)) (h : ∀ p ∈ l, p.1 ≠ f) : procM mark f l = mark := by
  funext q
  unfold procM
  simp only [eq_iff_iff]
  exact ⟨fun h1 => h1.1, fun h1 => ⟨h1, fun h2 => h q h2.1 h2.2⟩⟩
theorem keepL_snoc_yes (f x : Int) (l : List (Int × Int)) : keepL f (l ++ [(f, x)]) = keepL f l := by simp [keepL]
theorem keepL_snoc_no (f : Int) (l : List (Int × Int)) (p : Int × Int) (h : p.1 ≠ f) : keepL f (l ++ [p]) = keepL f l ++ [p] := by simp [keepL, h]
theorem keepL_none (f : Int) (l : List (Int × Int)) (h : ∀ p ∈ l, p.1 ≠ f) : keepL f l = l := by
  unfold keepL
  rw [List.filter_eq_self]
  intro p hp
  simpa using h p hp
theorem take_snoc_ {α : Type} {l : List α} {j : Nat} {p : α} (h : l[j]? = some p) : l.take (j + 1) = l.take j ++ [p] := by
  obtain ⟨h1, h2⟩ := List.getElem?_eq_some_iff.1 h
  rw [List.take_succ_eq_append_getElem h1, h2]
theorem drop_at {α : Type} {l r : List α} {j : Nat} (h : l.drop j = r.drop j) : l[j]? = r[j]? := by
  have h1 : (l.drop j)[0]? = (r.drop j)[0]? := by rw [h]
  simpa using h1
theorem drop_step {α : Type} {l r : List α} {j : Nat} (h : l.drop j = r.drop j) : l.drop (j + 1) = r.drop (j + 1) := by
  rw [← List.drop_drop, ← List.drop_drop, h]

end Go.Proofs.YtjlndgkahmcfdaaDoor
