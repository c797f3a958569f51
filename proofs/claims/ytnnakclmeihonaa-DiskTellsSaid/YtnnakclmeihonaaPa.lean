/- What the law DiskArms says, plainly. Conditions: the machine is up; no crash is scheduled in the one of the two. -/
import Derived.Test.YtnnakclmeihonaaPl
namespace Go.Proofs.Ytnnakclmeihonaa

/-- A scheduled crash. -/
def arm (s : Ds) (L : Int) (keep : List Int) : Ds := { s with left := L, keep := keep }

section
variable {s : Ds} {keep : List Int} {L : Int}
theorem strike_arm (h : 2 ≤ L) : strikeP (arm s L keep) = (arm s (L - 1) keep, false) := by
  unfold strikeP
  rw [if_neg (show ¬ (arm s L keep).left = 0 by show ¬ L = 0; omega), if_pos (show 0 < (arm s L keep).left - 1 by show 0 < L - 1; omega)]
  rfl
theorem strike_one : strikeP (arm s 1 keep) = (crashed s keep, true) := by
  unfold strikeP
  rw [if_neg (show ¬ (arm s 1 keep).left = 0 by show ¬ (1 : Int) = 0; decide), if_neg (show ¬ 0 < (arm s 1 keep).left - 1 by show ¬ (0 : Int) < 1 - 1; decide)]
  rfl
theorem writeS_arm (f a : Int) (t : List UInt8) : writeS (arm s L keep) f a t = arm (writeS s f a t) L keep := by
  unfold writeS stored
  split
  · split <;> rfl
  · rfl
theorem writeS_left (f a : Int) (t : List UInt8) : (writeS s f a t).left = s.left ∧ (writeS s f a t).down = s.down := by
  unfold writeS
  split
  · exact ⟨stored_left _ _ _ _, stored_down _ _ _ _⟩
  · exact ⟨rfl, rfl⟩

theorem sync_go {s' : Ds} {f : Int} (hd : s.down = false) (hs : strikeP s = (s', false)) : syncP s f = if isF f = false then (s', 1) else if 0 < s'.lost then ({ s' with lost := s'.lost - 1 }, 9) else (settled s' f, 0) := by
  unfold syncP
  rw [if_neg (by rw [hd]; decide), hs, if_neg (by simp)]
theorem trunc_go {s' : Ds} {f n : Int} (hd : s.down = false) (hs : strikeP s = (s', false)) : truncP s f n = if isF f = false ∨ n < 0 ∨ ((s'.data f).length : Int) < n then (s', 1) else (truncd s' f n.toNat, 0) := by
  unfold truncP
  rw [if_neg (by rw [hd]; decide), hs, if_neg (by simp)]
theorem write_go {s' : Ds} {f a : Int} {t : List UInt8} (hd : s.down = false) (hs : strikeP (writeS s f a t) = (s', false)) : writeP s f a t = (s', chk f a t.length) := by
  unfold writeP
  rw [if_neg (by rw [hd]; decide), hs, if_neg (by simp)]
theorem sync_stop {s' : Ds} {f : Int} (hd : s.down = false) (hs : strikeP s = (s', true)) : syncP s f = (s', 8) := by
  unfold syncP
  rw [if_neg (by rw [hd]; decide), hs, if_pos rfl]
theorem trunc_stop {s' : Ds} {f n : Int} (hd : s.down = false) (hs : strikeP s = (s', true)) : truncP s f n = (s', 8) := by
  unfold truncP
  rw [if_neg (by rw [hd]; decide), hs, if_pos rfl]
theorem write_stop {s' : Ds} {f a : Int} {t : List UInt8} (hd : s.down = false) (hs : strikeP (writeS s f a t) = (s', true)) : writeP s f a t = (s', 8) := by
  unfold writeP
  rw [if_neg (by rw [hd]; decide), hs, if_pos rfl]
theorem do_sync {x : Ac} (h : x.d % 8 = 2) : doP s x = syncP s x.f := by unfold doP; rw [if_pos h]
theorem do_trunc {x : Ac} (h : x.d % 8 = 3) : doP s x = truncP s x.f x.n := by unfold doP; rw [if_neg (by omega), if_pos h]
theorem do_lose {x : Ac} (h : x.d % 8 = 4) : doP s x = ({ s with lost := max (x.n % 4) 0 }, 0) := by unfold doP; rw [if_neg (by omega), if_neg (by omega), if_pos h]
theorem do_write {x : Ac} (h : x.d % 8 < 2) : doP s x = writeP s x.f x.n x.s.data.toList := by unfold doP; rw [if_neg (by omega), if_neg (by omega), if_neg (by omega), if_neg (by omega), if_neg (by omega), if_neg (by omega)]

/-- One act before the call at which the crash comes. -/
theorem act_before (hd : s.down = false) (hl : s.left = 0) (x : Ac) (hx : x.d % 8 < 4) (h : 2 ≤ L) :
    doP (arm s L keep) x = (arm (doP s x).1 (L - 1) keep, (doP s x).2) ∧ (doP s x).1.left = 0 ∧ (doP s x).1.down = false := by
  have hda : (arm s L keep).down = false := hd
  have st := strike_arm (s := s) (keep := keep) h
  have s0 := strike0 hl
  have hk : x.d % 8 < 2 ∨ x.d % 8 = 2 ∨ x.d % 8 = 3 := by omega
  rcases hk with h2 | h2 | h2
  · rw [do_write h2, do_write h2]
    obtain ⟨w1, w2⟩ := writeS_left (s := s) x.f x.n x.s.data.toList
    rw [write_go hda (by rw [writeS_arm]; exact strike_arm h), write_go hd (strike0 (w1.trans hl))]
    exact ⟨rfl, w1.trans hl, w2.trans hd⟩
  · rw [do_sync h2, do_sync h2, sync_go hda st, sync_go hd s0]
    by_cases hf : isF x.f = false
    · rw [if_pos hf, if_pos hf]
      exact ⟨rfl, hl, hd⟩
    · rw [if_neg hf, if_neg hf]
      by_cases hz : 0 < s.lost
      · rw [if_pos (show 0 < (arm s (L - 1) keep).lost from hz), if_pos hz]
        exact ⟨rfl, hl, hd⟩
      · rw [if_neg (show ¬ 0 < (arm s (L - 1) keep).lost from hz), if_neg hz]
        exact ⟨rfl, hl, hd⟩
  · rw [do_trunc h2, do_trunc h2, trunc_go hda st, trunc_go hd s0]
    by_cases hc : isF x.f = false ∨ x.n < 0 ∨ ((s.data x.f).length : Int) < x.n
    · rw [if_pos (show isF x.f = false ∨ x.n < 0 ∨ (((arm s (L - 1) keep).data x.f).length : Int) < x.n from hc), if_pos hc]
      exact ⟨rfl, hl, hd⟩
    · rw [if_neg (show ¬ (isF x.f = false ∨ x.n < 0 ∨ (((arm s (L - 1) keep).data x.f).length : Int) < x.n) from hc), if_neg hc]
      exact ⟨rfl, hl, hd⟩
theorem act_lose (hd : s.down = false) (hl : s.left = 0) (x : Ac) (hx : x.d % 8 = 4) :
    doP (arm s L keep) x = (arm (doP s x).1 L keep, (doP s x).2) ∧ (doP s x).1.left = 0 ∧ (doP s x).1.down = false := by
  rw [do_lose hx, do_lose hx]
  exact ⟨rfl, hl, hd⟩
/-- The call at which it comes: a Write is performed, and then the crash. -/
theorem act_crash (hd : s.down = false) (hl : s.left = 0) (x : Ac) (hx : x.d % 8 < 4) :
    doP (arm s 1 keep) x = (crashed (if x.d % 8 < 2 then (doP s x).1 else s) keep, 8) ∧ (doP s x).1.down = false := by
  have hda : (arm s 1 keep).down = false := hd
  refine ⟨?_, (act_before (L := 2) (keep := keep) hd hl x hx (Int.le_refl 2)).2.2⟩
  have s1 := strike_one (s := s) (keep := keep)
  have hk : x.d % 8 < 2 ∨ x.d % 8 = 2 ∨ x.d % 8 = 3 := by omega
  rcases hk with h2 | h2 | h2
  · obtain ⟨w1, w2⟩ := writeS_left (s := s) x.f x.n x.s.data.toList
    rw [if_pos h2, do_write h2, do_write h2, write_stop hda (by rw [writeS_arm]; exact strike_one), write_go hd (strike0 (w1.trans hl))]
  · rw [if_neg (by omega), do_sync h2, sync_stop hda s1]
  · rw [if_neg (by omega), do_trunc h2, trunc_stop hda s1]
/-- Behind it. -/
theorem act_down (hd : s.down = true) (x : Ac) (hx : x.d % 8 < 5) : (doP s x).1.down = true ∧ (doP s x).1.data = s.data ∧ (x.d % 8 < 4 → (doP s x).2 = 8) := by
  have hk : x.d % 8 < 2 ∨ x.d % 8 = 2 ∨ x.d % 8 = 3 ∨ x.d % 8 = 4 := by omega
  rcases hk with h2 | h2 | h2 | h2
  · rw [do_write h2]
    unfold writeP
    rw [if_pos hd]
    exact ⟨hd, rfl, fun _ => rfl⟩
  · rw [do_sync h2]
    unfold syncP
    rw [if_pos hd]
    exact ⟨hd, rfl, fun _ => rfl⟩
  · rw [do_trunc h2]
    unfold truncP
    rw [if_pos hd]
    exact ⟨hd, rfl, fun _ => rfl⟩
  · rw [do_lose h2]
    exact ⟨hd, rfl, fun h => by omega⟩
end

end Go.Proofs.Ytnnakclmeihonaa
