/- The disk, plainly: what each method does to a state, and what every state that is reached keeps. No condition but what each says. -/
import Derived.Test.YtjlndgkahmcfdaaDoorCr
namespace Go.Proofs.YtjlndgkahmcfdaaDoor
set_option maxRecDepth 8000

/-- The durable parts, behind the survival of the sectors l. -/
def hardL (data : Int → List UInt8) : (Int → List UInt8) → List (Int × Int) → (Int → List UInt8)
  | dur, [] => dur
  | dur, p :: l => hardL data (hard data dur p.1 p.2.toNat) l
/-- The survivors among l. -/
def survs (keep : List Int) : List (Int × Int) → Nat → List (Int × Int)
  | [], _ => []
  | p :: l, i => if survB keep i = true then p :: survs keep l (i + 1) else survs keep l (i + 1)
theorem procD_eq (data : Int → List UInt8) (f : Int) (l : List (Int × Int)) : ∀ dur, procD data f dur l = hardL data dur (l.filter fun p => p.1 == f) := by
  induction l with
  | nil => intro dur; rfl
  | cons p l ih =>
    intro dur
    show procD data f (if p.1 = f then hard data dur f p.2.toNat else dur) l = _
    rw [ih]
    by_cases h : p.1 = f
    · rw [if_pos h, List.filter_cons, if_pos (by simpa using h)]
      show _ = hardL data (hard data dur p.1 p.2.toNat) _
      rw [h]
    · rw [if_neg h, List.filter_cons, if_neg (by simpa using h)]
theorem crashD_eq (data : Int → List UInt8) (keep : List Int) (l : List (Int × Int)) : ∀ (dur : Int → List UInt8) (i : Nat), crashD data keep dur l i = hardL data dur (survs keep l i) := by
  induction l with
  | nil => intro dur i; rfl
  | cons p l ih =>
    intro dur i
    show crashD data keep _ l (i + 1) = _
    rw [ih]
    have e : survs keep (p :: l) i = if survB keep i = true then p :: survs keep l (i + 1) else survs keep l (i + 1) := rfl
    rw [e]
    split <;> rfl
theorem survs_sub (keep : List Int) : ∀ (l : List (Int × Int)) (i : Nat), ∀ p ∈ survs keep l i, p ∈ l
  | [], _, p, hp => by simp [survs] at hp
  | q :: l, i, p, hp => by
    unfold survs at hp
    split at hp
    · rcases List.mem_cons.1 hp with rfl | hp
      · simp
      · exact List.mem_cons_of_mem _ (survs_sub keep l _ p hp)
    · exact List.mem_cons_of_mem _ (survs_sub keep l _ p hp)
theorem survs_all : ∀ (l : List (Int × Int)) (i : Nat), survs [1] l i = l
  | [], _ => rfl
  | p :: l, i => by
    unfold survs
    rw [if_pos (by simp [survB, Nat.mod_one]), survs_all l]
theorem survs_none : ∀ (l : List (Int × Int)) (i : Nat), survs [] l i = []
  | [], _ => rfl
  | p :: l, i => by
    unfold survs
    rw [if_neg (by simp [survB]), survs_none l]

theorem secB_at {d : List UInt8} {n i : Nat} (h : i < 64) : atB (secB d n) i = atB d (64 * n + i) := by
  unfold secB
  rw [take_atB h, drop_atB]
theorem hard_at {data dur : Int → List UInt8} {f : Int} {n : Nat} (hn : 64 * n < (data f).length) (hl : (dur f).length ≤ (data f).length) (i : Nat) :
    atB (hard data dur f n f) i = if i / 64 = n then atB (data f) i else atB (dur f) i := by
  unfold hard
  rw [upd_same, putB_at, secB_len]
  by_cases h : i / 64 = n
  · rw [if_pos h]
    by_cases h2 : i < (data f).length
    · rw [if_pos (by omega), secB_at (by omega), show 64 * n + (i - 64 * n) = i from by omega]
    · rw [if_neg (by omega), atB_ge (by omega), atB_ge (by omega)]
  · rw [if_neg h, if_neg (by omega)]
theorem hard_lens {data dur : Int → List UInt8} {f : Int} {n : Nat} (hn : 64 * n < (data f).length) (hl : (dur f).length ≤ (data f).length) :
    (hard data dur f n f).length = max (dur f).length (min (64 * n + 64) (data f).length) := by
  unfold hard
  rw [upd_same, putB_len, secB_len]
  omega
theorem hard_other {data dur : Int → List UInt8} {f g : Int} {n : Nat} (h : g ≠ f) : hard data dur f n g = dur g := upd_other _ h

theorem hardL_all {data : Int → List UInt8} : ∀ (l : List (Int × Int)) (dur : Int → List UInt8), PendOk data l → (∀ f, (dur f).length ≤ (data f).length) → ∀ f,
    (∀ i, atB (hardL data dur l f) i = if (f, ((i / 64 : Nat) : Int)) ∈ l then atB (data f) i else atB (dur f) i) ∧ (hardL data dur l f).length ≤ (data f).length ∧ (dur f).length ≤ (hardL data dur l f).length ∧
    (∀ n : Nat, (f, (n : Int)) ∈ l → min (64 * n + 64) (data f).length ≤ (hardL data dur l f).length)
  | [], dur, _, hl, f => ⟨fun i => by simp [hardL], hl f, Nat.le_refl _, fun n h => by simp at h⟩
  | p :: l, dur, hp, hl, f => by
    obtain ⟨h0, h1, y, e, hy⟩ := hp p (by simp)
    have hq : PendOk data l := fun q hq => hp q (by simp [hq])
    have e2 : p.2.toNat = y := by omega
    have hl2 : ∀ g, (hard data dur p.1 y g).length ≤ (data g).length := fun g => by
      by_cases hg : g = p.1
      · subst hg
        rw [hard_lens hy (hl _)]
        have := hl p.1
        omega
      · rw [hard_other hg]; exact hl g
    have ih := hardL_all l (hard data dur p.1 y) hq hl2 f
    have es : hardL data dur (p :: l) = hardL data (hard data dur p.1 y) l := by
      show hardL data (hard data dur p.1 p.2.toNat) l = _
      rw [e2]
    rw [es]
    obtain ⟨i1, i2, i3, i4⟩ := ih
    refine ⟨fun i => ?_, i2, ?_, fun n hn => ?_⟩
    · rw [i1 i]
      by_cases hin : (f, ((i / 64 : Nat) : Int)) ∈ l
      · rw [if_pos hin, if_pos (List.mem_cons_of_mem _ hin)]
      · rw [if_neg hin]
        by_cases hf : f = p.1
        · subst hf
          rw [hard_at hy (hl _)]
          by_cases hiy : i / 64 = y
          · rw [if_pos hiy, if_pos (by rw [hiy, ← e]; exact List.mem_cons_self)]
          · rw [if_neg hiy, if_neg (fun h => by
              rcases List.mem_cons.1 h with h | h
              · have := congrArg Prod.snd h
                simp only at this
                omega
              · exact hin h)]
        · rw [hard_other hf, if_neg (fun h => by
            rcases List.mem_cons.1 h with h | h
            · exact hf (congrArg Prod.fst h)
            · exact hin h)]
    · refine Nat.le_trans ?_ i3
      by_cases hf : f = p.1
      · subst hf
        rw [hard_lens hy (hl _)]
        omega
      · rw [hard_other hf]; exact Nat.le_refl _
    · rcases List.mem_cons.1 hn with hn | hn
      · have hf : f = p.1 := congrArg Prod.fst hn
        have hn2 : (n : Int) = p.2 := congrArg Prod.snd hn
        subst hf
        refine Nat.le_trans ?_ i3
        rw [hard_lens hy (hl _)]
        have : n = y := by omega
        subst this
        omega
      · exact i4 n hn

/-- What every state that is reached keeps. -/
structure Ok (s : Ds) : Prop where
  pend : PendOk s.data s.pend
  nodup : s.pend.Nodup
  size : ∀ f, (s.data f).length ≤ 16777216
  dur : ∀ f, (s.dur f).length ≤ (s.data f).length
  old : ∀ (f : Int) (i : Nat), (f, ((i / 64 : Nat) : Int)) ∉ s.pend → atB (s.data f) i = atB (s.dur f) i
  last : ∀ f, (s.dur f).length < (s.data f).length → (f, ((((s.data f).length - 1) / 64 : Nat) : Int)) ∈ s.pend
  files : ∀ f, ¬ (0 ≤ f ∧ f < 16) → s.data f = [] ∧ s.dur f = []
  left : 0 ≤ s.left ∧ s.left ≤ 9223372036854775807
  lost : 0 ≤ s.lost ∧ s.lost ≤ 9223372036854775807
  keep : s.keep.length ≤ 1000000

theorem nodup_bound : ∀ (N : Nat) (l : List Nat), l.Nodup → (∀ x ∈ l, x < N) → l.length ≤ N
  | 0, [], _, _ => Nat.le_refl _
  | 0, x :: l, _, h => absurd (h x (by simp)) (by omega)
  | N + 1, l, hn, h => by
    have h1 := nodup_bound N (l.filter fun x => x != N) (hn.sublist List.filter_sublist) (fun x hx => by
      have h2 := List.mem_filter.1 hx
      have h3 := h x h2.1
      have h4 : x ≠ N := by simpa using h2.2
      omega)
    have h2 : l.length ≤ (l.filter fun x => x != N).length + 1 := by
      clear h h1
      induction l with
      | nil => simp
      | cons a l ih =>
        have hn' := List.nodup_cons.1 hn
        by_cases ha : a = N
        · subst ha
          have : (l.filter fun x => x != a) = l := by
            rw [List.filter_eq_self]
            intro x hx
            have : x ≠ a := fun e => hn'.1 (e ▸ hx)
            simpa using this
          rw [List.filter_cons, if_neg (by simp), this]
          simp
        · rw [List.filter_cons, if_pos (by simpa using ha)]
          have := ih hn'.2
          simp only [List.length_cons]
          omega
    omega
theorem pend_len {s : Ds} (h : Ok s) : s.pend.length ≤ 4194304 := by
  have h1 := nodup_bound 4194304 (s.pend.map fun p => p.1.toNat * 262144 + p.2.toNat) ?_ ?_
  · rwa [List.length_map] at h1
  · have hp := h.pend
    have hs := h.size
    have hn := h.nodup
    revert hp hn
    generalize s.pend = l
    intro hp hn
    induction l with
    | nil => simp
    | cons a l ih =>
      have hn' := List.nodup_cons.1 hn
      rw [List.map_cons]
      refine List.nodup_cons.2 ⟨fun hm => ?_, ih (fun q hq => hp q (by simp [hq])) hn'.2⟩
      obtain ⟨q, hq, e⟩ := List.mem_map.1 hm
      obtain ⟨a0, a1, x, ex, hx⟩ := hp a (by simp)
      obtain ⟨q0, q1, y, ey, hy⟩ := hp q (by simp [hq])
      have := hs a.1
      have := hs q.1
      have e3 : a = q := Prod.ext (by omega) (by omega)
      exact hn'.1 (e3 ▸ hq)
  · intro x hx
    obtain ⟨q, hq, e⟩ := List.mem_map.1 hx
    obtain ⟨q0, q1, y, ey, hy⟩ := h.pend q hq
    have := h.size q.1
    omega

end Go.Proofs.YtjlndgkahmcfdaaDoor
