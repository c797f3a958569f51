/- What the law DiskSurvives says, plainly. Conditions: the state is one that is reached. -/
import Derived.Test.YtdhknmnnmeamkaaPr
namespace Go.Proofs.Ytdhknmnnmeamkaa

theorem surv_facts {s : Ds} (h : Ok s) (f : Int) (keep : List Int) : (s.dur f).length ≤ ((crashed s keep).data f).length ∧ ((crashed s keep).data f).length ≤ (s.data f).length ∧
    ∀ n : Nat, (∀ i, i / 64 = n → atB ((crashed s keep).data f) i = atB (s.data f) i) ∨ (∀ i, i / 64 = n → atB ((crashed s keep).data f) i = atB (s.dur f) i) := by
  rw [crashed_data]
  obtain ⟨i1, i2, i3, _⟩ := hardL_all (survs keep s.pend 0) s.dur (fun p hp => h.pend p (survs_sub _ _ _ p hp)) h.dur f
  refine ⟨i3, i2, fun n => ?_⟩
  by_cases hn : (f, (n : Int)) ∈ survs keep s.pend 0
  · exact .inl fun i hi => by rw [i1 i, hi, if_pos hn]
  · exact .inr fun i hi => by rw [i1 i, hi, if_neg hn]
theorem surv_all {s : Ds} (h : Ok s) (f : Int) : (crashed s [1]).data f = s.data f := by
  rw [crashed_data, survs_all]
  obtain ⟨i1, i2, i3, i4⟩ := hardL_all s.pend s.dur h.pend h.dur f
  have hlen : (hardL s.data s.dur s.pend f).length = (s.data f).length := by
    rcases Nat.lt_or_ge (s.dur f).length (s.data f).length with hlt | hge
    · have h1 := i4 _ (h.last f hlt)
      omega
    · omega
  refine ext_atB hlen (fun i _ => ?_)
  rw [i1 i]
  split
  · rfl
  · rename_i hni
    exact (h.old f i hni).symm

end Go.Proofs.Ytdhknmnnmeamkaa
