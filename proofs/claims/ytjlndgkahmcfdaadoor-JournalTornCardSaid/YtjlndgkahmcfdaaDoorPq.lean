/- The disk, plainly: the methods as functions of states, and that each keeps what every state keeps. No condition but what each says. -/
import Derived.Test.YtjlndgkahmcfdaaDoorPo
namespace Go.Proofs.YtjlndgkahmcfdaaDoor
set_option maxRecDepth 8000

theorem hardL_other {data : Int → List UInt8} {g : Int} : ∀ (l : List (Int × Int)) (dur : Int → List UInt8), (∀ p ∈ l, p.1 ≠ g) → hardL data dur l g = dur g
  | [], _, _ => rfl
  | p :: l, dur, h => by
    show hardL data (hard data dur p.1 p.2.toNat) l g = dur g
    rw [hardL_other l _ (fun q hq => h q (by simp [hq])), hard_other (fun e => h p (by simp) e.symm)]

def settled (s : Ds) (f : Int) : Ds := { s with dur := upd s.dur f (s.data f), pend := keepL f s.pend }
theorem mem_keepL {f : Int} {l : List (Int × Int)} {p : Int × Int} : p ∈ keepL f l ↔ p ∈ l ∧ p.1 ≠ f := by simp [keepL]
theorem procM_keep (f : Int) (l : List (Int × Int)) : procM (fun p => p ∈ l) f l = fun p => p ∈ keepL f l := by
  funext p
  simp only [procM, mem_keepL, eq_iff_iff]
  exact ⟨fun ⟨h1, h2⟩ => ⟨h1, fun e => h2 ⟨h1, e⟩⟩, fun ⟨h1, h2⟩ => ⟨h1, fun h3 => h2 h3.2⟩⟩

theorem procD_ok {s : Ds} (h : Ok s) (f : Int) : procD s.data f s.dur s.pend = upd s.dur f (s.data f) := by
  rw [procD_eq]
  have hp : PendOk s.data (s.pend.filter fun p => p.1 == f) := fun p hp => h.pend p (List.mem_filter.1 hp).1
  funext g
  by_cases hg : g = f
  · subst hg
    rw [upd_same]
    obtain ⟨i1, i2, i3, i4⟩ := hardL_all (s.pend.filter fun p => p.1 == g) s.dur hp h.dur g
    have hlen : (hardL s.data s.dur (s.pend.filter fun p => p.1 == g) g).length = (s.data g).length := by
      rcases Nat.lt_or_ge (s.dur g).length (s.data g).length with hlt | hge
      · have h1 := i4 _ (List.mem_filter.2 ⟨h.last g hlt, by simp⟩)
        omega
      · omega
    refine ext_atB hlen (fun i _ => ?_)
    rw [i1 i]
    split
    · rfl
    · rename_i hni
      exact (h.old g i (fun hm => hni (List.mem_filter.2 ⟨hm, by simp⟩))).symm
  · rw [upd_other _ hg]
    exact hardL_other _ _ (fun p hp e => hg (by have := (List.mem_filter.1 hp).2; simp at this; rw [← this, e]))

theorem Ok.set {s : Ds} (h : Ok s) {lost left : Int} {keep : List Int} (down : Bool) (h1 : 0 ≤ lost ∧ lost ≤ 9223372036854775807) (h2 : 0 ≤ left ∧ left ≤ 9223372036854775807) (h3 : keep.length ≤ 1000000) : Ok { s with lost := lost, left := left, keep := keep, down := down } :=
  ⟨h.pend, h.nodup, h.size, h.dur, h.old, h.last, h.files, h2, h1, h3⟩

theorem Ok.settled {s : Ds} (h : Ok s) (f : Int) : Ok (settled s f) where
  pend := fun p hp => h.pend p (mem_keepL.1 hp).1
  nodup := h.nodup.sublist List.filter_sublist
  size := h.size
  dur := fun g => by
    show (upd s.dur f (s.data f) g).length ≤ _
    by_cases hg : g = f
    · subst hg; rw [upd_same]; exact Nat.le_refl _
    · rw [upd_other _ hg]; exact h.dur g
  old := fun g i hm => by
    show _ = atB (upd s.dur f (s.data f) g) i
    by_cases hg : g = f
    · subst hg; rw [upd_same]; rfl
    · rw [upd_other _ hg]; exact h.old g i (fun h1 => hm (mem_keepL.2 ⟨h1, hg⟩))
  last := fun g hl => by
    have hl2 : (upd s.dur f (s.data f) g).length < (s.data g).length := hl
    by_cases hg : g = f
    · subst hg; rw [upd_same] at hl2; exact absurd hl2 (Nat.lt_irrefl _)
    · rw [upd_other _ hg] at hl2; exact mem_keepL.2 ⟨h.last g hl2, hg⟩
  files := fun g hg => by
    refine ⟨(h.files g hg).1, ?_⟩
    show upd s.dur f (s.data f) g = []
    by_cases hgf : g = f
    · subst hgf; rw [upd_same]; exact (h.files g hg).1
    · rw [upd_other _ hgf]; exact (h.files g hg).2
  left := h.left
  lost := h.lost
  keep := h.keep

def truncd (s : Ds) (f : Int) (n : Nat) : Ds := { settled s f with data := upd s.data f ((s.data f).take n), dur := upd (settled s f).dur f (((settled s f).dur f).take n) }
theorem truncd_dur (s : Ds) (f : Int) (n : Nat) : (truncd s f n).dur = upd s.dur f ((s.data f).take n) := by
  funext g
  show upd (upd s.dur f (s.data f)) f ((upd s.dur f (s.data f) f).take n) g = _
  by_cases hg : g = f
  · subst hg; rw [upd_same, upd_same, upd_same]
  · rw [upd_other _ hg, upd_other _ hg, upd_other _ hg]
theorem Ok.truncd {s : Ds} (h : Ok s) (f : Int) (n : Nat) : Ok (truncd s f n) where
  pend := fun p hp => by
    obtain ⟨h1, h2⟩ := mem_keepL.1 hp
    obtain ⟨a, b, y, e, hy⟩ := h.pend p h1
    exact ⟨a, b, y, e, by show 64 * y < (upd s.data f _ p.1).length; rw [upd_other _ h2]; exact hy⟩
  nodup := h.nodup.sublist List.filter_sublist
  size := fun g => by
    show (upd s.data f _ g).length ≤ _
    by_cases hg : g = f
    · subst hg; rw [upd_same, List.length_take]; have := h.size g; omega
    · rw [upd_other _ hg]; exact h.size g
  dur := fun g => by
    rw [truncd_dur]
    show _ ≤ (upd s.data f _ g).length
    by_cases hg : g = f
    · subst hg; rw [upd_same, upd_same]; exact Nat.le_refl _
    · rw [upd_other _ hg, upd_other _ hg]; exact h.dur g
  old := fun g i hm => by
    rw [truncd_dur]
    show atB (upd s.data f _ g) i = _
    by_cases hg : g = f
    · subst hg; rw [upd_same, upd_same]
    · rw [upd_other _ hg, upd_other _ hg]; exact h.old g i (fun h1 => hm (mem_keepL.2 ⟨h1, hg⟩))
  last := fun g hl => by
    rw [truncd_dur] at hl
    have hl2 : (upd s.dur f ((s.data f).take n) g).length < (upd s.data f ((s.data f).take n) g).length := hl
    show (g, ((((upd s.data f ((s.data f).take n) g).length - 1) / 64 : Nat) : Int)) ∈ keepL f s.pend
    by_cases hg : g = f
    · subst hg; rw [upd_same, upd_same] at hl2; exact absurd hl2 (Nat.lt_irrefl _)
    · rw [upd_other _ hg, upd_other _ hg] at hl2
      rw [upd_other _ hg]
      exact mem_keepL.2 ⟨h.last g hl2, hg⟩
  files := fun g hg => by
    rw [truncd_dur]
    show upd s.data f _ g = [] ∧ _
    by_cases hgf : g = f
    · subst hgf; rw [upd_same, upd_same, (h.files g hg).1]; exact ⟨List.take_nil, List.take_nil⟩
    · rw [upd_other _ hgf, upd_other _ hgf]; exact h.files g hg
  left := h.left
  lost := h.lost
  keep := h.keep

theorem Ok.crashed {s : Ds} (h : Ok s) (keep : List Int) : Ok (crashed s keep) := by
  have hp : PendOk s.data (survs keep s.pend 0) := fun p hp => h.pend p (survs_sub keep _ _ p hp)
  have he : crashD s.data keep s.dur s.pend 0 = hardL s.data s.dur (survs keep s.pend 0) := crashD_eq _ _ _ _ _
  refine ⟨fun p hp => by simp [Go.Proofs.YtjlndgkahmcfdaaDoor.crashed] at hp, List.nodup_nil, fun f => ?_, fun f => Nat.le_refl _, fun f i _ => rfl, fun f hl => absurd hl (Nat.lt_irrefl _), fun f hf => ?_, ⟨Int.le_refl _, by show (0 : Int) ≤ _; omega⟩, h.lost, by simp [Go.Proofs.YtjlndgkahmcfdaaDoor.crashed]⟩
  · show (crashD s.data keep s.dur s.pend 0 f).length ≤ _
    rw [he]
    exact Nat.le_trans (hardL_all _ _ hp h.dur f).2.1 (h.size f)
  · show crashD s.data keep s.dur s.pend 0 f = [] ∧ crashD s.data keep s.dur s.pend 0 f = []
    have : crashD s.data keep s.dur s.pend 0 f = [] := by
      rw [he, hardL_other _ _ (fun p hq e => hf (by obtain ⟨a, b, _⟩ := hp p hq; rw [← e]; exact ⟨a, b⟩))]
      exact (h.files f hf).2
    exact ⟨this, this⟩

theorem mem_addS {l : List (Int × Int)} {p q : Int × Int} : q ∈ addS l p ↔ q ∈ l ∨ q = p := by
  unfold addS
  split
  · rename_i h
    exact ⟨.inl, fun h1 => h1.elim id (fun e => e ▸ h)⟩
  · simp
theorem nodup_addS {l : List (Int × Int)} {p : Int × Int} (h : l.Nodup) : (addS l p).Nodup := by
  unfold addS
  split
  · exact h
  · rename_i hp
    rw [List.nodup_append]
    exact ⟨h, by simp, fun a ha b hb => by simp at hb; subst hb; exact fun e => hp (e ▸ ha)⟩
theorem mem_addUpto {l : List (Int × Int)} {f : Int} {n0 : Nat} {q : Int × Int} : ∀ K, q ∈ addUpto l f n0 K ↔ q ∈ l ∨ ∃ j, j < K ∧ q = (f, ((n0 + j : Nat) : Int))
  | 0 => by simp [addUpto]
  | K + 1 => by
    show q ∈ addS (addUpto l f n0 K) _ ↔ _
    rw [mem_addS, mem_addUpto K]
    constructor
    · rintro ((h | ⟨j, hj, e⟩) | h)
      · exact .inl h
      · exact .inr ⟨j, by omega, e⟩
      · exact .inr ⟨K, by omega, h⟩
    · rintro (h | ⟨j, hj, e⟩)
      · exact .inl (.inl h)
      · rcases Nat.lt_or_ge j K with h | h
        · exact .inl (.inr ⟨j, h, e⟩)
        · have : j = K := by omega
          subst this
          exact .inr e
theorem nodup_addUpto {l : List (Int × Int)} {f : Int} {n0 : Nat} (h : l.Nodup) : ∀ K, (addUpto l f n0 K).Nodup
  | 0 => h
  | K + 1 => nodup_addS (nodup_addUpto h K)

def stored (s : Ds) (f : Int) (a : Nat) (t : List UInt8) : Ds :=
  if t.length = 0 then s else { s with data := upd s.data f (putB (s.data f) a t), pend := addUpto s.pend f (a / 64) ((a + t.length + 63) / 64 - a / 64) }

theorem Ok.stored {s : Ds} (h : Ok s) {f : Int} {a : Nat} {t : List UInt8} (h0 : 0 ≤ f) (h1 : f < 16) (ha : a + t.length ≤ 16777216) : Ok (stored s f a t) := by
  unfold Go.Proofs.YtjlndgkahmcfdaaDoor.stored
  split
  · exact h
  · rename_i ht
    have hlen := putB_len (s.data f) a t
    refine ⟨fun p hp => ?_, nodup_addUpto h.nodup _, fun g => ?_, fun g => ?_, fun g i hm => ?_, fun g hl => ?_, fun g hg => ?_, h.left, h.lost, h.keep⟩
    · show _ ∧ _ ∧ ∃ y : Nat, _ ∧ 64 * y < (upd s.data f _ p.1).length
      rcases (mem_addUpto _).1 hp with hp | ⟨j, hj, e⟩
      · obtain ⟨a0, a1, y, e, hy⟩ := h.pend p hp
        refine ⟨a0, a1, y, e, ?_⟩
        by_cases hg : p.1 = f
        · rw [hg, upd_same, hlen]; rw [hg] at hy; omega
        · rw [upd_other _ hg]; exact hy
      · subst e
        refine ⟨h0, h1, a / 64 + j, rfl, ?_⟩
        rw [upd_same, hlen]
        omega
    · show (upd s.data f _ g).length ≤ _
      by_cases hg : g = f
      · subst hg; rw [upd_same, hlen]; have := h.size g; omega
      · rw [upd_other _ hg]; exact h.size g
    · show (s.dur g).length ≤ (upd s.data f _ g).length
      by_cases hg : g = f
      · subst hg; rw [upd_same, hlen]; have := h.dur g; omega
      · rw [upd_other _ hg]; exact h.dur g
    · show atB (upd s.data f _ g) i = _
      have hm1 : (g, ((i / 64 : Nat) : Int)) ∉ s.pend := fun h2 => hm ((mem_addUpto _).2 (.inl h2))
      by_cases hg : g = f
      · subst hg
        rw [upd_same, putB_at, if_neg, h.old g i hm1]
        rintro ⟨h3, h4⟩
        refine hm ((mem_addUpto _).2 (.inr ⟨i / 64 - a / 64, by omega, ?_⟩))
        rw [show a / 64 + (i / 64 - a / 64) = i / 64 from by omega]
      · rw [upd_other _ hg]; exact h.old g i hm1
    · have hl2 : (s.dur g).length < (upd s.data f (putB (s.data f) a t) g).length := hl
      show (g, ((((upd s.data f (putB (s.data f) a t) g).length - 1) / 64 : Nat) : Int)) ∈ _
      by_cases hg : g = f
      · subst hg
        rw [upd_same, hlen] at hl2 ⊢
        rcases Nat.lt_or_ge (s.data g).length (a + t.length) with h3 | h3
        · refine (mem_addUpto _).2 (.inr ⟨(max (s.data g).length (a + t.length) - 1) / 64 - a / 64, by omega, ?_⟩)
          rw [show a / 64 + ((max (s.data g).length (a + t.length) - 1) / 64 - a / 64) = (max (s.data g).length (a + t.length) - 1) / 64 from by omega]
        · rw [show max (s.data g).length (a + t.length) = (s.data g).length from by omega] at hl2 ⊢
          exact (mem_addUpto _).2 (.inl (h.last g hl2))
      · rw [upd_other _ hg] at hl2 ⊢
        exact (mem_addUpto _).2 (.inl (h.last g hl2))
    · have hgf : g ≠ f := fun e => hg (by rw [e]; exact ⟨h0, h1⟩)
      exact ⟨by show upd s.data f _ g = []; rw [upd_other _ hgf]; exact (h.files g hg).1, (h.files g hg).2⟩

end Go.Proofs.YtjlndgkahmcfdaaDoor
