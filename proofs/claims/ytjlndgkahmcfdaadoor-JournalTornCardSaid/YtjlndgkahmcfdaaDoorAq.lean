/- strikes, Sync, Truncate, Write, Read by their plain functions. Conditions: sizes of what comes in. -/
import Derived.Test.YtjlndgkahmcfdaaDoorAp
namespace Go.Proofs.YtjlndgkahmcfdaaDoor
set_option maxRecDepth 8000
open Go.RowKit Go.ChangeMaps

/-- A call that is counted: the state behind it, and whether the crash came. -/
def strikeP (s : Ds) : Ds × Bool :=
  if s.left = 0 then (s, false) else if 0 < s.left - 1 then ({ s with left := s.left - 1 }, false) else (crashed { s with left := s.left - 1 } s.keep, true)
theorem Ok.strikeP {s : Ds} (h : Ok s) : Ok (strikeP s).1 := by
  unfold Go.Proofs.YtjlndgkahmcfdaaDoor.strikeP
  have h1 := h.left
  split
  · exact h
  · rename_i h2
    have h3 : Ok { s with left := s.left - 1 } := h.set s.down h.lost (by omega) h.keep
    split
    · exact h3
    · exact h3.crashed _

set_option maxRecDepth 4000 in
set_option maxHeartbeats 1000000 in
theorem a_strikes (w : World) (own : Nat → Option Nat) (b : Nat) (s : Ds) (h : Da w own b s) (hup : s.down = false) :
    Calls Tryd.prog 66 #[.pointer (some ⟨b, 0, none⟩)] w (AEnd w own b (strikeP s).1 (.bool (strikeP s).2)) := by
  obtain ⟨ho, m, k, pv, kv, hd⟩ := h
  obtain ⟨hl, hm⟩ := ho.left
  have c4 := hd.blk.cell 4
  have f4 := hd.blk.frozen 4
  by_cases h0 : s.left = 0
  · have e1 : strikeP s = (s, false) := by unfold strikeP; rw [if_pos h0]
    rw [e1]
    have HE := Lib.hid (show AEnd w own b s (.bool false) (.returned (.bool false)) w from ⟨rfl, own, ⟨ho, m, k, pv, kv, hd⟩, hd.refl _⟩)
    rw [h0] at c4
    clear e1 h0 hd ho hl hm
    go_enter Tryd.func66, Tryd.ntmps66
    go_wp2
    go_ret
    exact HE.out
  · have hD1 := hd.setLeft (s.left - 1)
    have t1 := hd.set0 4 (.int .i64 (s.left - 1))
    have h0b : (s.left == 0) = false := by simpa using h0
    by_cases h1 : 0 < s.left - 1
    · have e1 : strikeP s = ({ s with left := s.left - 1 }, false) := by unfold strikeP; rw [if_neg h0, if_pos h1]
      rw [e1]
      have HE := Lib.hid (show AEnd w own b { s with left := s.left - 1 } (.bool false) (.returned (.bool false)) (w.setCell ⟨b, 4, none⟩ (.int .i64 (s.left - 1))) from
        ⟨rfl, own, ⟨ho.set s.down ho.lost (by omega) ho.keep, m, k, pv, kv, hD1⟩, t1.weak (fun _ _ => trivial)⟩)
      clear e1 hd ho hD1 t1 h0
      go_enter Tryd.func66, Tryd.ntmps66
      go_wp2
      go_ret
      exact HE.out
    · have e1 : strikeP s = (crashed { s with left := s.left - 1 } s.keep, true) := by unfold strikeP; rw [if_neg h0, if_neg h1]
      rw [e1]
      have hok1 : Ok { s with left := s.left - 1 } := ho.set s.down ho.lost (by omega) ho.keep
      obtain ⟨A, c, hkv, hc1, hc2⟩ := own_slice hD1.keep.1
      subst hkv
      have hx : s.left - 1 = 0 := by omega
      have hC := a_crash (w.setCell ⟨b, 4, none⟩ (.int .i64 (s.left - 1))) own b _ A s.keep.length c s.keep ⟨hok1, m, k, pv, _, hD1⟩ (Reads.of_own hD1.keep.1) (fun _ ad e => .inr (hD1.keep.2 ad.block (by rw [e]; rfl))) ho.keep
      have e2 : crashP { s with left := s.left - 1 } s.keep = crashed { s with left := s.left - 1 } s.keep := by unfold crashP; rw [if_neg (by rw [hup]; decide)]
      rw [e2] at hC
      have HC := Lib.hid hC
      have HT := Lib.hid t1
      have c5 := hD1.blk.cell 5
      have c4b := hD1.blk.cell 4
      clear e1 e2 hd ho hD1 t1 h0 hok1 hC hx
      go_enter Tryd.func66, Tryd.ntmps66
      go_wp2_with fail
      refine HC.out.mono ?_
      rintro e w2 ⟨rfl, own2, hd2, t2⟩
      have HE := Lib.hid (show AEnd w own b (crashed { s with left := s.left - 1 } s.keep) (.bool true) (.returned (.bool true)) w2 from ⟨rfl, own2, hd2, (HT.out.weak (fun _ _ => trivial)).trans t2⟩)
      clear hd2 t2 HC HT
      go_wp2
      go_ret
      exact HE.out

def syncP (s : Ds) (f : Int) : Ds × Int :=
  if s.down = true then (s, 8) else if (strikeP s).2 = true then ((strikeP s).1, 8) else if isF f = false then ((strikeP s).1, 1)
  else if 0 < (strikeP s).1.lost then ({ (strikeP s).1 with lost := (strikeP s).1.lost - 1 }, 9) else (settled (strikeP s).1 f, 0)
theorem Ok.syncP {s : Ds} (h : Ok s) (f : Int) : Ok (syncP s f).1 := by
  unfold Go.Proofs.YtjlndgkahmcfdaaDoor.syncP
  have h1 := h.strikeP
  split
  · exact h
  · split
    · exact h1
    · split
      · exact h1
      · split
        · exact h1.set _ (by have := h1.lost; omega) h1.left h1.keep
        · exact h1.settled f

/-- Settle at the level of states. -/
theorem a_settle (w : World) (own : Nat → Option Nat) (b : Nat) (s : Ds) (f : Int) (h : Da w own b s) (hf : isF f = true) :
    Calls Tryd.prog 93 #[.pointer (some ⟨b, 0, none⟩), .int .i64 f] w (AEnd w own b (settled s f) (.tuple #[])) := by
  obtain ⟨ho, m, k, pv, kv, hd⟩ := h
  obtain ⟨f0, f1⟩ := isF_iff.1 hf
  refine (settle_any w own b m k pv kv _ s f hd (by have := pend_len ho; omega) (fun p hp e => by
    obtain ⟨_, _, y, e1, e2⟩ := ho.pend p hp
    exact ⟨y, e1, by rw [← e]; exact e2⟩) f0 f1 (ho.size f) (Nat.le_trans (ho.dur f) (ho.size f))).mono ?_
  rintro e w' ⟨rfl, own', pv', h1, t⟩
  rw [procD_ok ho f] at h1
  exact ⟨rfl, own', ⟨ho.settled f, m, k, pv', kv, h1.congr (procM_keep f s.pend)⟩, t⟩

theorem AEnd.then {w w1 w2 : World} {own own1 : Nat → Option Nat} {b : Nat} {s : Ds} {v : Value} {e : Ending} (t : Tr (fun _ => True) w own own1 w1) (h : AEnd w1 own1 b s v e w2) : AEnd w own b s v e w2 := by
  obtain ⟨he, own2, hd, t2⟩ := h
  exact ⟨he, own2, hd, t.trans t2⟩

set_option maxRecDepth 4000 in
set_option maxHeartbeats 1000000 in
theorem a_sync (w : World) (own : Nat → Option Nat) (b : Nat) (s : Ds) (f : Int) (h : Da w own b s) :
    Calls Tryd.prog 56 #[.pointer (some ⟨b, 0, none⟩), .int .i64 f] w (AEnd w own b (syncP s f).1 (.int .i64 (syncP s f).2)) := by
  obtain ⟨ho, m, k, pv, kv, hd⟩ := h
  have c6 := hd.blk.cell 6
  cases hdn : s.down with
  | true =>
    have e1 : syncP s f = (s, 8) := by unfold syncP; rw [if_pos hdn]
    rw [e1]
    have HE := Lib.hid (show AEnd w own b s (.int .i64 8) (.returned (.int .i64 8)) w from ⟨rfl, own, ⟨ho, m, k, pv, kv, hd⟩, hd.refl _⟩)
    rw [hdn] at c6
    clear e1 hd ho hdn
    go_enter Tryd.func56, Tryd.ntmps56
    go_wp2
    go_ret
    exact HE.out
  | false =>
    have HC := Lib.hid (a_strikes w own b s ⟨ho, m, k, pv, kv, hd⟩ hdn)
    have e1 : syncP s f = if (strikeP s).2 = true then ((strikeP s).1, 8) else if isF f = false then ((strikeP s).1, 1)
        else if 0 < (strikeP s).1.lost then ({ (strikeP s).1 with lost := (strikeP s).1.lost - 1 }, 9) else (settled (strikeP s).1 f, 0) := by unfold syncP; rw [if_neg (by rw [hdn]; decide)]
    rw [hdn] at c6
    clear hd ho hdn
    generalize strikeP s = r at *
    obtain ⟨s1, hit⟩ := r
    simp only at HC e1
    rw [e1]
    clear e1
    cases hit with
    | true =>
      rw [if_pos rfl]
      go_enter Tryd.func56, Tryd.ntmps56
      go_wp2_with fail
      refine HC.out.mono ?_
      rintro e w2 ⟨rfl, own2, hd2, t2⟩
      have HE := Lib.hid (show AEnd w own b s1 (.int .i64 8) (.returned (.int .i64 8)) w2 from ⟨rfl, own2, hd2, t2⟩)
      clear HC hd2 t2
      go_wp2
      go_ret
      exact HE.out
    | false =>
      rw [if_neg (by decide)]
      cases hf : isF f with
      | false =>
        rw [if_pos rfl]
        have HI := Lib.hid (isFile_any f)
        rw [hf] at HI
        clear hf
        go_enter Tryd.func56, Tryd.ntmps56
        go_wp2_with fail
        refine HC.out.mono ?_
        rintro e w2 ⟨rfl, own2, hd2, t2⟩
        have HE := Lib.hid (show AEnd w own b s1 (.int .i64 1) (.returned (.int .i64 1)) w2 from ⟨rfl, own2, hd2, t2⟩)
        clear HC hd2 t2
        go_wp2_with fail
        refine (HI.out _).mono ?_
        rintro e w3 ⟨rfl, rfl⟩
        go_wp2
        go_ret
        exact HE.out
      | true =>
        rw [if_neg (by decide)]
        have HI := Lib.hid (isFile_any f)
        rw [hf] at HI
        have HF := Lib.hid hf
        clear hf
        by_cases hls : 0 < s1.lost
        · rw [if_pos hls]
          go_enter Tryd.func56, Tryd.ntmps56
          go_wp2_with fail
          refine HC.out.mono ?_
          rintro e w2 ⟨rfl, own2, ⟨ho2, m2, k2, pv2, kv2, hd2⟩, t2⟩
          obtain ⟨l0, l1⟩ := ho2.lost
          have c3 := hd2.blk.cell 3
          have f3 := hd2.blk.frozen 3
          have HE := Lib.hid (show AEnd w own b { s1 with lost := s1.lost - 1 } (.int .i64 9) (.returned (.int .i64 9)) (w2.setCell ⟨b, 3, none⟩ (.int .i64 (s1.lost - 1))) from
            ⟨rfl, own2, ⟨ho2.set _ (by omega) ho2.left ho2.keep, m2, k2, pv2, kv2, hd2.setLost _⟩, t2.trans ((hd2.set0 3 _).weak (fun _ _ => trivial))⟩)
          clear HC ho2 hd2 t2
          go_wp2_with fail
          refine (HI.out _).mono ?_
          rintro e w3 ⟨rfl, rfl⟩
          go_wp2
          go_ret
          exact HE.out
        · rw [if_neg hls]
          go_enter Tryd.func56, Tryd.ntmps56
          go_wp2_with fail
          refine HC.out.mono ?_
          rintro e w2 ⟨rfl, own2, hda2, t2⟩
          have HS := Lib.hid (a_settle w2 own2 b s1 f hda2 HF.out)
          obtain ⟨ho2, m2, k2, pv2, kv2, hd2⟩ := hda2
          have c3 := hd2.blk.cell 3
          have HT := Lib.hid t2
          clear HC ho2 hd2 t2
          go_wp2_with fail
          refine (HI.out _).mono ?_
          rintro e w3 ⟨rfl, rfl⟩
          go_wp2_with fail
          refine HS.out.mono ?_
          rintro e w4 ⟨rfl, own4, hd4, t4⟩
          have HE := Lib.hid (show AEnd w own b (settled s1 f) (.int .i64 0) (.returned (.int .i64 0)) w4 from ⟨rfl, own4, hd4, HT.out.trans t4⟩)
          clear HS HT hd4 t4
          go_wp2
          go_ret
          exact HE.out

end Go.Proofs.YtjlndgkahmcfdaaDoor
