/- What the law JournalReads says of the states, plainly. Conditions: at most 300 bytes. -/
import Derived.Test.YtjlndgkahmcfdaaDoorJl
namespace Go.Proofs.YtjlndgkahmcfdaaDoor
open Go.Lib

/-- A disk at which nothing is lost, and no crash is scheduled. -/
structure Calm (S : Ds) : Prop where
  left : S.left = 0
  lost : S.lost = 0
  down : S.down = false
theorem strikeC {S : Ds} (h : Calm S) : strikeP S = (S, false) := by unfold strikeP; rw [if_pos h.left]
theorem putB_all (l : List UInt8) : putB [] 0 l = l := by simp [putB, extB]
theorem calm_write {S : Ds} (h : Calm S) {f : Int} (hf : isF f = true) {a : Nat} {l : List UInt8} (hl : a + l.length ≤ 16777216) : writeP S f (a : Int) l = (stored S f a l, 0) := by
  have hc : chk f (a : Int) l.length = 0 := by
    unfold chk
    rw [if_neg (fun h => by rcases h with h | h <;> first | (rw [hf] at h; cases h; done) | omega), if_neg (by omega)]
  have hw : writeS S f (a : Int) l = stored S f a l := by unfold writeS; rw [if_pos hc, Int.toNat_natCast]
  have hst : strikeP (stored S f a l) = (stored S f a l, false) := by
    unfold strikeP
    rw [if_pos (show (stored S f a l).left = 0 by unfold stored; split <;> exact h.left)]
  unfold writeP
  rw [if_neg (by rw [h.down]; decide), hw, hst, if_neg (by simp), hc]
theorem calm_stored {S : Ds} (h : Calm S) (f : Int) (a : Nat) (l : List UInt8) : Calm (stored S f a l) := by
  unfold stored
  split
  · exact h
  · exact ⟨h.left, h.lost, h.down⟩
theorem calm_sync {S : Ds} (h : Calm S) {f : Int} (hf : isF f = true) : syncP S f = (settled S f, 0) := by
  unfold syncP
  rw [if_neg (by rw [h.down]; decide), strikeC h, if_neg (by simp), if_neg (by rw [hf]; decide), if_neg (by rw [h.lost]; decide)]
theorem calm_settled {S : Ds} (h : Calm S) (f : Int) : Calm (settled S f) := ⟨h.left, h.lost, h.down⟩
theorem calm_trunc {S : Ds} (h : Calm S) {f : Int} (hf : isF f = true) {n : Nat} (hn : n ≤ (S.data f).length) : truncP S f (n : Int) = (truncd S f n, 0) := by
  unfold truncP
  rw [if_neg (by rw [h.down]; decide), strikeC h, if_neg (by simp), if_neg (fun h => by rcases h with h | h | h <;> first | (rw [hf] at h; cases h; done) | omega | (have h2 : ((S.data f).length : Int) < (n : Int) := h; omega)), Int.toNat_natCast]
theorem calm_truncd {S : Ds} (h : Calm S) (f : Int) (n : Nat) : Calm (truncd S f n) := ⟨h.left, h.lost, h.down⟩
theorem calm_read {S : Ds} (h : Calm S) {f : Int} (hf : isF f = true) : readP S f 0 ((S.data f).length : Nat) = (S.data f, 0) := readP_all h.down hf
/-- Opening at a calm disk: the records are found, the file is cut behind them. -/
theorem calm_open {S : Ds} (h : Calm S) {f : Int} (hf : isF f = true) {ts : List (List UInt8)} {r : List UInt8} (hr : recs (S.data f) = (ts, r)) :
    ∃ S', openP S f = (S', 0, ts) ∧ Calm S' ∧ S'.data f = formsP ts ∧ (∀ g, g ≠ f → S'.data g = S.data g) := by
  have hl := (recs_end (S.data f)).1
  rw [hr] at hl
  have hl : S.data f = formsP ts ++ r := hl
  have hlen := congrArg List.length hl
  rw [List.length_append] at hlen
  have hsd : (settled S f).data f = S.data f := rfl
  unfold openP
  rw [calm_sync h hf]
  simp only [hsd, hr]
  rw [if_neg (by decide)]
  by_cases hlt : (formsP ts).length < (S.data f).length
  · rw [if_pos hlt, calm_trunc (calm_settled h f) hf (by rw [hsd]; omega)]
    rw [if_neg (show ¬ ((truncd (settled S f) f (formsP ts).length, (0 : Int)).2 ≠ 0) from fun h => h rfl)]
    refine ⟨_, rfl, calm_truncd (calm_settled h f) f _, ?_, fun g hg => ?_⟩
    · show upd S.data f ((S.data f).take (formsP ts).length) f = _
      rw [upd_same, hl]
      exact List.take_left' rfl
    · show upd S.data f ((S.data f).take (formsP ts).length) g = _
      exact upd_other _ hg
  · rw [if_neg hlt]
    refine ⟨_, rfl, calm_settled h f, ?_, fun g _ => rfl⟩
    show S.data f = _
    have : r = [] := List.eq_nil_of_length_eq_zero (by omega)
    rw [hl, this, List.append_nil]
theorem calm_new : Calm newD := ⟨rfl, rfl, rfl⟩
/-- The file into which a string is written first. -/
theorem first_write {l : List UInt8} (hl : l.length ≤ 300) : ∃ S, writeP newD 7 0 l = (S, 0) ∧ Calm S ∧ S.data 7 = l := by
  refine ⟨_, calm_write calm_new (f := 7) (a := 0) (by decide) (by omega), calm_stored calm_new _ _ _, ?_⟩
  unfold stored
  split
  · rename_i h
    exact (List.eq_nil_of_length_eq_zero h).symm
  · show upd newD.data 7 (putB (newD.data 7) 0 l) 7 = l
    rw [upd_same]
    exact putB_all l

end Go.Proofs.YtjlndgkahmcfdaaDoor
