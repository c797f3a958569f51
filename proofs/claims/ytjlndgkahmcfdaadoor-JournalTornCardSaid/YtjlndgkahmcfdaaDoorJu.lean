/- How many of the records of a torn file are read: those whose forms stand whole, up to the first one that does not. Conditions: records of at most 4000 bytes. -/
import Derived.Test.YtjlndgkahmcfdaaDoorJi
import Derived.Test.YtjlndgkahmcfdaaDoorJq
namespace Go.Proofs.YtjlndgkahmcfdaaDoor
set_option maxRecDepth 8000
open Go.Lib

theorem formsP_app (a b : List (List UInt8)) : formsP (a ++ b) = formsP a ++ formsP b := by simp [formsP]
/-- The bytes that the first m forms take. -/
def endP (ts : List (List UInt8)) (m : Nat) : Nat := (formsP (ts.take m)).length
theorem torn_count {ts : List (List UInt8)} {T : List UInt8} (hT : Torn T (formsP ts)) (ht : ∀ t ∈ ts, t.length ≤ 4000) :
    ∃ k r, k ≤ ts.length ∧ recs T = (ts.take k, r) ∧
      (∀ m, m < k → endP ts (m + 1) ≤ T.length ∧ T.take (endP ts (m + 1)) = (formsP ts).take (endP ts (m + 1))) ∧
      (k < ts.length → endP ts (k + 1) ≤ T.length → T.take (endP ts (k + 1)) ≠ (formsP ts).take (endP ts (k + 1))) := by
  obtain ⟨k, r, hk, hr, -⟩ := torn_recs ts T hT ht
  obtain ⟨e1, -, e3⟩ := recs_end T
  rw [hr] at e1 e3
  replace e1 : T = formsP (ts.take k) ++ r := e1
  replace e3 : stepP r = none := e3
  refine ⟨k, r, hk, hr, fun m hm => ?_, fun hk2 hle heq => ?_⟩
  · have h1 : ts.take k = ts.take (m + 1) ++ (ts.take k).drop (m + 1) := by
      have := (List.take_append_drop (m + 1) (ts.take k)).symm
      rwa [List.take_take, Nat.min_eq_left (by omega)] at this
    have h2 : ts = ts.take (m + 1) ++ ts.drop (m + 1) := (List.take_append_drop _ _).symm
    have h3 : T = formsP (ts.take (m + 1)) ++ (formsP ((ts.take k).drop (m + 1)) ++ r) := by
      rw [← List.append_assoc, ← formsP_app, ← h1]
      exact e1
    have h4 : formsP ts = formsP (ts.take (m + 1)) ++ formsP (ts.drop (m + 1)) := by rw [← formsP_app, ← h2]
    refine ⟨by rw [h3, List.length_append]; exact Nat.le_add_right _ _, ?_⟩
    rw [show T.take (endP ts (m + 1)) = formsP (ts.take (m + 1)) by rw [h3]; exact List.take_left' rfl, show (formsP ts).take (endP ts (m + 1)) = formsP (ts.take (m + 1)) by rw [h4]; exact List.take_left' rfl]
  · have h2 : ts = ts.take (k + 1) ++ ts.drop (k + 1) := (List.take_append_drop _ _).symm
    have h4 : formsP ts = formsP (ts.take (k + 1)) ++ formsP (ts.drop (k + 1)) := by rw [← formsP_app, ← h2]
    have h5 : (formsP ts).take (endP ts (k + 1)) = formsP (ts.take (k + 1)) := by rw [h4]; exact List.take_left' rfl
    have h6 : ts.take (k + 1) = ts.take k ++ [ts[k]] := (List.take_append_getElem hk2).symm
    have h7 : formsP (ts.take (k + 1)) = formsP (ts.take k) ++ formP ts[k] := by rw [h6, formsP_snoc]
    have h8 := List.take_append_drop (endP ts (k + 1)) T
    rw [heq, h5, h7, List.append_assoc] at h8
    have h9 := List.append_cancel_left (h8.trans e1)
    have h10 : stepP r = some (ts[k], T.drop (endP ts (k + 1))) := stepP_iff.2 ⟨by have := ht ts[k] (List.getElem_mem _); omega, h9.symm⟩
    rw [h10] at e3
    cases e3

/-- The disk while the law's records are appended. -/
structure TorS (S : Ds) (ts : List (List UInt8)) (k : Nat) : Prop where
  calm : Calm S
  d0 : S.data 0 = formsP (ts.take k)
  d1 : S.data 1 = []
theorem forms_len {ts : List (List UInt8)} (ht : ∀ t ∈ ts, t.length ≤ 200) : (formsP ts).length ≤ 245 * ts.length := by
  induction ts with
  | nil => simp [formsP]
  | cons t ts ih =>
    have h1 := ih (fun q hq => ht q (by simp [hq]))
    have h2 := ht t (by simp)
    have h3 := formP_len (t := t) (by omega)
    rw [formsP_cons, List.length_append, List.length_cons]
    omega
theorem stored_data {S : Ds} {f : Int} {a b : List UInt8} (h : S.data f = a) : (stored S f a.length b).data f = a ++ b ∧ ∀ g, g ≠ f → (stored S f a.length b).data g = S.data g := by
  unfold stored
  split
  · rename_i h0
    have hb : b = [] := List.eq_nil_of_length_eq_zero h0
    subst hb
    exact ⟨by rw [h]; simp, fun g _ => rfl⟩
  · refine ⟨?_, fun g hg => ?_⟩
    · show upd S.data f (putB (S.data f) a.length b) f = _
      rw [upd_same, h, putB_end]
    · show upd S.data f (putB (S.data f) a.length b) g = _
      exact upd_other _ hg
theorem TorS.app {S : Ds} {ts : List (List UInt8)} {k : Nat} (h : TorS S ts k) (ht : ∀ t ∈ ts, t.length ≤ 200) (hn : ts.length ≤ 8) {t : List UInt8} (hk : ts[k]? = some t) :
    ∃ S', appP S 0 ⟨ts.take k, false⟩ t = (S', ⟨ts.take (k + 1), false⟩, 0) ∧ TorS S' ts (k + 1) ∧ (S'.data 0).length = endP ts (k + 1) := by
  have hlt := (List.getElem?_eq_some_iff.1 hk).1
  have htk : ts[k] = t := (List.getElem?_eq_some_iff.1 hk).2
  have htl := ht t (List.mem_of_getElem? hk)
  have h1 := forms_len (ts := ts.take k) (fun q hq => ht q (List.mem_of_mem_take hq))
  rw [List.length_take] at h1
  have h2 := formP_len (t := t) (by omega)
  have e1 : ts.take (k + 1) = ts.take k ++ [t] := by rw [← htk]; exact (List.take_append_getElem hlt).symm
  have hw := calm_write h.calm (f := 0) (a := (formsP (ts.take k)).length) (l := formP t) (by decide) (by omega)
  obtain ⟨q1, q2⟩ := stored_data (S := S) (f := 0) (b := formP t) h.d0
  have q3 : (stored S 0 (formsP (ts.take k)).length (formP t)).data 0 = formsP (ts.take (k + 1)) := by rw [q1, e1, formsP_snoc]
  refine ⟨_, ?_, ⟨calm_stored h.calm 0 _ (formP t), q3, (q2 1 (by decide)).trans h.d1⟩, by rw [q3]; rfl⟩
  unfold appP
  rw [if_neg Bool.false_ne_true, if_neg (by omega), if_neg (by show ¬ 1048576 < (formsP (ts.take k)).length + _; omega)]
  show (if (writeP S 0 ((formsP (ts.take k)).length : Nat) (formP t)).2 ≠ 0 then _ else _) = _
  rw [hw, if_neg (fun h => h rfl), e1]
/-- A few bytes into a file that has none. -/
theorem TorS.write {S : Ds} {ts : List (List UInt8)} {k : Nat} (h : TorS S ts k) {T : List UInt8} (hT : T.length ≤ 1000000) : ∃ S', writeP S 1 0 T = (S', 0) ∧ Calm S' ∧ S'.data 1 = T := by
  have hw := calm_write h.calm (f := 1) (a := 0) (l := T) (by decide) (by omega)
  obtain ⟨q1, -⟩ := stored_data (S := S) (f := 1) (a := []) (b := T) h.d1
  exact ⟨_, hw, calm_stored h.calm 1 0 T, q1⟩
/-- Appending at a calm disk. -/
theorem calm_app {S : Ds} (h : Calm S) {l : List (List UInt8)} (hl : (formsP l).length ≤ 100000) {t : List UInt8} (ht : t.length ≤ 200) : ∃ S', appP S 1 ⟨l, false⟩ t = (S', ⟨l ++ [t], false⟩, 0) ∧ Calm S' := by
  have h2 := formP_len (t := t) (by omega)
  have hw := calm_write h (f := 1) (a := (formsP l).length) (l := formP t) (by decide) (by omega)
  refine ⟨stored S 1 (formsP l).length (formP t), ?_, calm_stored h 1 _ _⟩
  unfold appP
  rw [if_neg Bool.false_ne_true, if_neg (by omega), if_neg (by show ¬ 1048576 < (formsP l).length + _; omega)]
  show (if (writeP S 1 ((formsP l).length : Nat) (formP t)).2 ≠ 0 then _ else _) = _
  rw [hw, if_neg (fun h => h rfl)]
theorem app_long {S : Ds} {l : List (List UInt8)} {t : List UInt8} (ht : 20000 < t.length) : appP S 1 ⟨l, false⟩ t = (S, ⟨l, false⟩, 3) := by
  unfold appP
  rw [if_neg Bool.false_ne_true, if_pos ht]

end Go.Proofs.YtjlndgkahmcfdaaDoor
