/- What the law DiskSynced says, plainly: a file that is wholly durable stays so, whatever is done to other files. No condition but what each says. -/
import Derived.Test.YtdhknmnnmeamkaaPl
namespace Go.Proofs.Ytdhknmnnmeamkaa

/-- The file f is D, durably. -/
structure Syn (D : List UInt8) (f : Int) (s : Ds) : Prop where
  data : s.data f = D
  dur : s.dur f = D
  pend : ∀ p ∈ s.pend, p.1 ≠ f

section
variable {D : List UInt8} {f : Int} {s : Ds}
theorem Syn.set (h : Syn D f s) (lost left : Int) (keep : List Int) (down : Bool) : Syn D f { s with lost := lost, left := left, keep := keep, down := down } := ⟨h.data, h.dur, h.pend⟩
theorem Syn.crashed (h : Syn D f s) (keep : List Int) : Syn D f (crashed s keep) := by
  have h1 : (Go.Proofs.Ytdhknmnnmeamkaa.crashed s keep).data f = D := by
    rw [crashed_data, hardL_other _ _ (fun p hp => h.pend p (survs_sub _ _ _ p hp))]
    exact h.dur
  exact ⟨h1, h1, fun p hp => by cases hp⟩
theorem Syn.crashP (h : Syn D f s) (keep : List Int) : Syn D f (crashP s keep) := by
  unfold Go.Proofs.Ytdhknmnnmeamkaa.crashP
  split
  · exact h
  · exact h.crashed keep
theorem Syn.strike (h : Syn D f s) : Syn D f (strikeP s).1 := by
  unfold Go.Proofs.Ytdhknmnnmeamkaa.strikeP
  split
  · exact h
  · split
    · exact ⟨h.data, h.dur, h.pend⟩
    · exact Syn.crashed ⟨h.data, h.dur, h.pend⟩ _
theorem Syn.stored (h : Syn D f s) {g : Int} (hg : g ≠ f) (a : Nat) (t : List UInt8) : Syn D f (stored s g a t) := by
  unfold Go.Proofs.Ytdhknmnnmeamkaa.stored
  split
  · exact h
  · refine ⟨(upd_other _ (Ne.symm hg)).trans h.data, h.dur, fun p hp => ?_⟩
    rcases (mem_addUpto _).1 hp with hp | ⟨j, _, rfl⟩
    · exact h.pend p hp
    · exact hg
theorem Syn.writeP (h : Syn D f s) {g : Int} (hg : g ≠ f) (a : Int) (t : List UInt8) : Syn D f (writeP s g a t).1 := by
  have h1 : Syn D f (writeS s g a t) := by
    unfold writeS
    split
    · exact h.stored hg _ _
    · exact h
  unfold Go.Proofs.Ytdhknmnnmeamkaa.writeP
  split
  · exact h
  · split
    · exact h1.strike
    · exact h1.strike
theorem Syn.settled (h : Syn D f s) {g : Int} (hg : g ≠ f) : Syn D f (settled s g) := ⟨h.data, (upd_other _ (Ne.symm hg)).trans h.dur, fun p hp => h.pend p (mem_keepL.1 hp).1⟩
theorem Syn.syncP (h : Syn D f s) {g : Int} (hg : g ≠ f) : Syn D f (syncP s g).1 := by
  have h1 := h.strike
  unfold Go.Proofs.Ytdhknmnnmeamkaa.syncP
  split
  · exact h
  · split
    · exact h1
    · split
      · exact h1
      · split
        · exact ⟨h1.data, h1.dur, h1.pend⟩
        · exact h1.settled hg
theorem Syn.truncP (h : Syn D f s) {g : Int} (hg : g ≠ f) (n : Int) : Syn D f (truncP s g n).1 := by
  have h1 := h.strike
  unfold Go.Proofs.Ytdhknmnnmeamkaa.truncP
  split
  · exact h
  · split
    · exact h1
    · split
      · exact h1
      · refine ⟨(upd_other _ (Ne.symm hg)).trans h1.data, ?_, fun p hp => h1.pend p (mem_keepL.1 hp).1⟩
        rw [truncd_dur, upd_other _ (Ne.symm hg)]
        exact h1.dur
theorem Syn.act (h : Syn D f s) {x : Ac} (hx : (x.d % 8 < 4 ∧ x.f ≠ f) ∨ x.d % 8 = 4) : Syn D f (doP s x).1 := by
  unfold doP
  split
  · rename_i h2
    rcases hx with hx | hx
    · exact h.syncP hx.2
    · omega
  · split
    · rcases hx with hx | hx
      · exact h.truncP hx.2 _
      · omega
    · split
      · exact ⟨h.data, h.dur, h.pend⟩
      · split
        · omega
        · split
          · omega
          · split
            · omega
            · rcases hx with hx | hx
              · exact h.writeP hx.2 _ _
              · omega
/-- What a Sync that succeeds says. -/
theorem sync_ok (h : (syncP s f).2 = 0) : s.down = false ∧ isF f = true ∧ (syncP s f).1.down = false ∧ Syn (s.data f) f (syncP s f).1 := by
  cases hd : s.down with
  | true => unfold syncP at h; rw [if_pos hd] at h; exact absurd h (by show ¬ (8 : Int) = 0; decide)
  | false =>
    have hst : (strikeP s).2 = false → (strikeP s).1.down = false ∧ (strikeP s).1.data = s.data := by
      unfold strikeP
      split
      · exact fun _ => ⟨hd, rfl⟩
      · split
        · exact fun _ => ⟨hd, rfl⟩
        · intro h2; cases h2
    unfold syncP at h ⊢
    rw [if_neg (by rw [hd]; decide)] at h ⊢
    split at h
    · exact absurd h (by show ¬ (8 : Int) = 0; decide)
    · rename_i h1
      obtain ⟨e1, e2⟩ := hst (by simpa using h1)
      rw [if_neg h1]
      split at h
      · exact absurd h (by show ¬ (1 : Int) = 0; decide)
      · rename_i h2
        rw [if_neg h2]
        split at h
        · exact absurd h (by show ¬ (9 : Int) = 0; decide)
        · rename_i h3
          rw [if_neg h3]
          refine ⟨rfl, by simpa using h2, e1, ?_, ?_, fun p hp => (mem_keepL.1 hp).2⟩
          · show (strikeP s).1.data f = _
            rw [e2]
          · show upd _ f ((strikeP s).1.data f) f = _
            rw [upd_same, e2]
end

end Go.Proofs.Ytdhknmnnmeamkaa
