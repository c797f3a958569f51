/- The reference's disk, plainly: what each method does to a state, and the relation with the code's state that every act keeps, with equal answers. No condition but what each says. -/
import Derived.Test.YtnnakclmeihonaaR2
import Derived.Test.YtnnakclmeihonaaPa
import Derived.Deep.DeepCutAuto
import Derived.StillTailTactics
import Derived.Deep.RegionHeld3
import Derived.BigRegion
namespace Go.Proofs.Ytnnakclmeihonaa

theorem getR_is (l : List Fl) (f : Int) : (getR l f).no = f := by
  unfold getR
  cases h : l.find? fun x => x.no == f with
  | none => rfl
  | some x => simpa using List.find?_some h
theorem getR_set (l : List Fl) (x : Fl) (f : Int) : getR (setR l x) f = if f = x.no then x else getR l f := by
  unfold getR setR notNo
  rw [List.find?_append]
  by_cases h : f = x.no
  · rw [if_pos h, List.find?_eq_none.2 (fun y hy => by
      have := (List.mem_filter.1 hy).2
      rw [h]
      simpa using this)]
    simp [h]
  · rw [if_neg h, List.find?_filter]
    have e : (fun y : Fl => decide (((y.no != x.no) = true) ∧ ((y.no == f) = true))) = fun y : Fl => y.no == f := by
      funext y
      by_cases hy : y.no = f
      · simp [hy, h]
      · simp [hy]
    have h2 : ¬ x.no = f := fun e => h e.symm
    first
      | rw [e]
      | simp only [e]
    simp [h2]
def lastR (l : List Fl) : List Fl := l.map fun x => ⟨x.no, x.last, x.last⟩
theorem getR_last (l : List Fl) (f : Int) : getR (lastR l) f = ⟨f, (getR l f).last, (getR l f).last⟩ := by
  unfold getR lastR
  rw [List.find?_map]
  have e : ((fun x : Fl => x.no == f) ∘ fun x : Fl => (⟨x.no, x.last, x.last⟩ : Fl)) = fun x : Fl => x.no == f := rfl
  rw [e]
  cases h : l.find? fun x => x.no == f with
  | none => rfl
  | some x =>
    have : x.no = f := by simpa using List.find?_some h
    simp [this]

/-- A sector survives. -/
def surviveR (l : List Fl) (f : Int) (n : Nat) : List Fl := setR l ⟨(getR l f).no, (getR l f).now, putB (getR l f).last (64 * n) (secB (getR l f).now n)⟩
def crashF (keep : List Int) : List Fl → List (Int × Int) → Nat → List Fl
  | fs, [], _ => fs
  | fs, p :: l, i => crashF keep (if survB keep i = true then surviveR fs p.1 p.2.toNat else fs) l (i + 1)
theorem crashF_snoc (keep : List Int) (l : List (Int × Int)) (p : Int × Int) : ∀ (fs : List Fl) (i : Nat),
    crashF keep fs (l ++ [p]) i = if survB keep (i + l.length) = true then surviveR (crashF keep fs l i) p.1 p.2.toNat else crashF keep fs l i := by
  induction l with
  | nil => intro fs i; rfl
  | cons q l ih =>
    intro fs i
    show crashF keep _ (l ++ [p]) (i + 1) = _
    rw [ih, List.length_cons, show i + 1 + l.length = i + (l.length + 1) from by omega]
    rfl
def crashedR (s : Rs) (keep : List Int) : Rs := { s with files := lastR (crashF keep s.files s.queue 0), queue := [], down := true, armed := 0 }
def crashR (s : Rs) (keep : List Int) : Rs := if s.down = true then s else crashedR s keep
def comesR (s : Rs) (f a : Int) (t : List UInt8) : Rs :=
  if s.down = true then s else if s.armed = 0 then s else if 0 < s.armed - 1 then { s with armed := s.armed - 1 }
  else crashedR (if isF f = true ∧ fitsP a t.length = true then addR { s with armed := s.armed - 1 } f a.toNat t else { s with armed := s.armed - 1 }) s.keep
def mayR (s : Rs) (f : Int) : Int := if s.down = true then 8 else if isF f = false then 1 else 0
def writeR (s : Rs) (f a : Int) (t : List UInt8) : Rs × Int :=
  if mayR (comesR s f a t) f ≠ 0 then (comesR s f a t, mayR (comesR s f a t) f) else if a < 0 then (comesR s f a t, 1) else if fitsP a t.length = false then (comesR s f a t, 6) else (addR (comesR s f a t) f a.toNat t, 0)
def syncR (s : Rs) (f : Int) : Rs × Int :=
  if mayR (comesR s 0 0 []) f ≠ 0 then (comesR s 0 0 [], mayR (comesR s 0 0 []) f) else if 0 < (comesR s 0 0 []).lost then ({ comesR s 0 0 [] with lost := (comesR s 0 0 []).lost - 1 }, 9)
  else (settleR (comesR s 0 0 []) f (getR (comesR s 0 0 []).files f).now, 0)
def truncR (s : Rs) (f n : Int) : Rs × Int :=
  if mayR (comesR s 0 0 []) f ≠ 0 then (comesR s 0 0 [], mayR (comesR s 0 0 []) f) else if n < 0 ∨ ((getR (comesR s 0 0 []).files f).now.length : Int) < n then (comesR s 0 0 [], 1)
  else (settleR (comesR s 0 0 []) f ((getR (comesR s 0 0 []).files f).now.take n.toNat), 0)
def tellR (s : Rs) (x : Ac) : Rs × Int :=
  if x.d % 8 = 2 then syncR s x.f else if x.d % 8 = 3 then truncR s x.f x.n else if x.d % 8 = 4 then ({ s with lost := max (x.n % 4) 0 }, 0)
  else if x.d % 8 = 5 then ({ s with armed := pos x.n, keep := x.keep }, 0) else if x.d % 8 = 6 then (crashR s x.keep, 0) else if x.d % 8 = 7 then ({ s with down := false }, 0)
  else writeR s x.f x.n x.s.data.toList

/-- The two states are the same. -/
structure Sim (s : Ds) (r : Rs) : Prop where
  now : ∀ f, (getR r.files f).now = s.data f
  last : ∀ f, (getR r.files f).last = s.dur f
  queue : r.queue = s.pend
  lost : r.lost = s.lost
  down : r.down = s.down
  armed : r.armed = s.left
  keep : s.left ≠ 0 → r.keep = s.keep
  nod : (r.files.map (·.no)).Nodup
  rng : ∀ x ∈ r.files, 0 ≤ x.no ∧ x.no < 16

section
variable {s : Ds} {r : Rs}
theorem Sim.new : Sim newD newR := ⟨fun _ => rfl, fun _ => rfl, rfl, rfl, rfl, rfl, fun _ => rfl, List.nodup_nil, fun x hx => by simp [newR] at hx⟩
theorem set_nod {l : List Fl} (h : (l.map (·.no)).Nodup) (x : Fl) : ((setR l x).map (·.no)).Nodup := by
  unfold setR
  rw [List.map_append, List.nodup_append]
  refine ⟨h.sublist (List.filter_sublist.map _), by simp, fun a ha b hb => ?_⟩
  obtain ⟨y, hy, rfl⟩ := List.mem_map.1 ha
  simp at hb
  subst hb
  have := (List.mem_filter.1 hy).2
  simpa using this
theorem set_rng {l : List Fl} (h : ∀ x ∈ l, 0 ≤ x.no ∧ x.no < 16) {x : Fl} (hx : 0 ≤ x.no ∧ x.no < 16) : ∀ y ∈ setR l x, 0 ≤ y.no ∧ y.no < 16 := fun y hy => by
  unfold setR at hy
  rcases List.mem_append.1 hy with hy | hy
  · exact h y (List.mem_filter.1 hy).1
  · simp at hy; subst hy; exact hx
theorem rng_len {l : List Fl} (hn : (l.map (·.no)).Nodup) (h : ∀ x ∈ l, 0 ≤ x.no ∧ x.no < 16) : l.length ≤ 16 := by
  have h1 := nodup_bound 16 (l.map fun x => x.no.toNat) ?_ ?_
  · rwa [List.length_map] at h1
  · induction l with
    | nil => simp
    | cons a l ih =>
      rw [List.map_cons] at hn ⊢
      have hn' := List.nodup_cons.1 hn
      refine List.nodup_cons.2 ⟨fun hm => ?_, ih hn'.2 (fun x hx => h x (by simp [hx]))⟩
      obtain ⟨q, hq, e⟩ := List.mem_map.1 hm
      have h2 := h q (by simp [hq])
      have h3 := h a (by simp)
      exact hn'.1 (List.mem_map.2 ⟨q, hq, by show q.no = a.no; omega⟩)
  · intro x hx
    obtain ⟨q, hq, e⟩ := List.mem_map.1 hx
    have := h q hq
    omega
theorem Sim.len (h : Sim s r) : r.files.length ≤ 16 := rng_len h.nod h.rng

theorem crashF_is (keep : List Int) (data : Int → List UInt8) : ∀ (q : List (Int × Int)) (l : List Fl) (dur : Int → List UInt8) (i : Nat), (∀ p ∈ q, 0 ≤ p.1 ∧ p.1 < 16) → (∀ f, (getR l f).now = data f) → (∀ f, (getR l f).last = dur f) → (l.map (·.no)).Nodup → (∀ x ∈ l, 0 ≤ x.no ∧ x.no < 16) →
    (∀ f, (getR (crashF keep l q i) f).now = data f) ∧ (∀ f, (getR (crashF keep l q i) f).last = crashD data keep dur q i f) ∧ ((crashF keep l q i).map (·.no)).Nodup ∧ ∀ x ∈ crashF keep l q i, 0 ≤ x.no ∧ x.no < 16
  | [], l, dur, i, _, h1, h2, h3, h4 => ⟨h1, h2, h3, h4⟩
  | p :: q, l, dur, i, hp, h1, h2, h3, h4 => by
    show (∀ f, (getR (crashF keep _ q (i + 1)) f).now = data f) ∧ (∀ f, (getR (crashF keep _ q (i + 1)) f).last = crashD data keep _ q (i + 1) f) ∧ ((crashF keep _ q (i + 1)).map (·.no)).Nodup ∧ ∀ x ∈ crashF keep _ q (i + 1), 0 ≤ x.no ∧ x.no < 16
    have hq : ∀ p ∈ q, 0 ≤ p.1 ∧ p.1 < 16 := fun p h => hp p (by simp [h])
    by_cases hs : survB keep i = true
    · rw [if_pos hs, if_pos hs]
      refine crashF_is keep data q _ _ _ hq (fun f => ?_) (fun f => ?_) (set_nod h3 _) (set_rng h4 ?_)
      · unfold surviveR
        rw [getR_set]
        by_cases hf : f = (getR l p.1).no
        · rw [if_pos hf]
          rw [getR_is] at hf
          subst hf
          exact h1 _
        · rw [if_neg hf]; exact h1 f
      · unfold surviveR hard
        rw [getR_set]
        by_cases hf : f = (getR l p.1).no
        · rw [if_pos hf]
          rw [getR_is] at hf
          subst hf
          rw [upd_same]
          show putB _ _ _ = _
          rw [h1, h2]
        · rw [if_neg hf]
          rw [getR_is] at hf
          rw [upd_other _ hf]
          exact h2 f
      · show 0 ≤ (getR l p.1).no ∧ _
        rw [getR_is]
        exact hp p (by simp)
    · rw [if_neg hs, if_neg hs]
      exact crashF_is keep data q _ _ _ hq h1 h2 h3 h4

theorem last_nod {l : List Fl} (h : (l.map (·.no)).Nodup) : ((lastR l).map (·.no)).Nodup := by
  have e : (lastR l).map (·.no) = l.map (·.no) := by unfold lastR; rw [List.map_map]; rfl
  rw [e]
  exact h
theorem last_rng {l : List Fl} (h : ∀ x ∈ l, 0 ≤ x.no ∧ x.no < 16) : ∀ x ∈ lastR l, 0 ≤ x.no ∧ x.no < 16 := fun x hx => by
  obtain ⟨y, hy, rfl⟩ := List.mem_map.1 hx
  exact h y hy
theorem Sim.crashed (h : Sim s r) (ho : Ok s) (keep : List Int) : Sim (crashed s keep) (crashedR r keep) := by
  obtain ⟨h1, h2, h3, h4⟩ := crashF_is keep s.data r.queue r.files s.dur 0 (by rw [h.queue]; exact fun p hp => ⟨(ho.pend p hp).1, (ho.pend p hp).2.1⟩) h.now h.last h.nod h.rng
  rw [h.queue] at h1 h2 h3 h4
  refine ⟨fun f => ?_, fun f => ?_, rfl, h.lost, rfl, rfl, fun e => absurd rfl e, ?_, ?_⟩
  · show (getR (lastR (crashF keep r.files r.queue 0)) f).now = crashD s.data keep s.dur s.pend 0 f
    rw [getR_last, h.queue]
    exact h2 f
  · show (getR (lastR (crashF keep r.files r.queue 0)) f).last = crashD s.data keep s.dur s.pend 0 f
    rw [getR_last, h.queue]
    exact h2 f
  · show ((lastR (crashF keep r.files r.queue 0)).map (·.no)).Nodup
    rw [h.queue]
    exact last_nod h3
  · show ∀ x ∈ lastR (crashF keep r.files r.queue 0), _
    rw [h.queue]
    exact last_rng h4
theorem Sim.crash (h : Sim s r) (ho : Ok s) (keep : List Int) : Sim (crashP s keep) (crashR r keep) := by
  unfold crashP crashR
  rw [h.down]
  split
  · exact h
  · exact h.crashed ho keep
theorem Sim.add (h : Sim s r) {f : Int} (hf : isF f = true) (a : Nat) (t : List UInt8) : Sim (stored s f a t) (addR r f a t) := by
  unfold stored addR
  split
  · exact h
  · refine ⟨fun g => ?_, fun g => ?_, by show addUpto _ _ _ _ = addUpto _ _ _ _; rw [h.queue], h.lost, h.down, h.armed, h.keep, set_nod h.nod _, set_rng h.rng ?_⟩
    · show (getR (setR r.files _) g).now = upd s.data f _ g
      rw [getR_set]
      by_cases hg : g = (getR r.files f).no
      · rw [if_pos hg]
        rw [getR_is] at hg
        subst hg
        rw [upd_same, h.now]
      · rw [if_neg hg]
        rw [getR_is] at hg
        rw [upd_other _ hg]
        exact h.now g
    · show (getR (setR r.files _) g).last = s.dur g
      rw [getR_set]
      by_cases hg : g = (getR r.files f).no
      · rw [if_pos hg]
        rw [getR_is] at hg
        subst hg
        exact h.last _
      · rw [if_neg hg]
        exact h.last g
    · show 0 ≤ (getR r.files f).no ∧ _
      rw [getR_is]
      exact isF_iff.1 hf
theorem Sim.settle (h : Sim s r) {f : Int} (hf : isF f = true) (t : List UInt8) {s' : Ds} (h1 : s'.data = upd s.data f t) (h2 : s'.dur = upd s.dur f t) (h3 : s'.pend = keepL f s.pend) (h4 : s'.lost = s.lost) (h5 : s'.down = s.down) (h6 : s'.left = s.left) (h7 : s'.keep = s.keep) : Sim s' (settleR r f t) := by
  refine ⟨fun g => ?_, fun g => ?_, by show keepL f r.queue = _; rw [h3, h.queue], by rw [h4]; exact h.lost, by rw [h5]; exact h.down, by rw [h6]; exact h.armed, by rw [h6, h7]; exact h.keep, set_nod h.nod _, set_rng h.rng (isF_iff.1 hf)⟩
  · show (getR (setR r.files ⟨f, t, t⟩) g).now = _
    rw [getR_set, h1]
    by_cases hg : g = f
    · subst hg; rw [if_pos rfl, upd_same]
    · rw [if_neg hg, upd_other _ hg]; exact h.now g
  · show (getR (setR r.files ⟨f, t, t⟩) g).last = _
    rw [getR_set, h2]
    by_cases hg : g = f
    · subst hg; rw [if_pos rfl, upd_same]
    · rw [if_neg hg, upd_other _ hg]; exact h.last g

theorem fits_chk {f a : Int} {n : Nat} : chk f a n = if isF f = false ∨ a < 0 then 1 else if fitsP a n = false then 6 else 0 := by
  unfold chk
  by_cases h : isF f = false ∨ a < 0
  · rw [if_pos h, if_pos h]
  · rw [if_neg h, if_neg h]
    have ha : 0 ≤ a := by
      rcases Int.lt_or_le a 0 with h1 | h1
      · exact absurd (.inr h1) h
      · exact h1
    by_cases h2 : 16777216 - (n : Int) < a
    · rw [if_pos h2, if_pos (show fitsP a n = false by unfold fitsP; simp; omega)]
    · rw [if_neg h2, if_neg (show ¬ fitsP a n = false by unfold fitsP; simp; omega)]
theorem chk_isF {f a : Int} {n : Nat} : (isF f = true ∧ fitsP a n = true) ↔ chk f a n = 0 := by
  rw [fits_chk]
  constructor
  · rintro ⟨h1, h2⟩
    have ha : 0 ≤ a := by unfold fitsP at h2; simp at h2; omega
    rw [if_neg (fun h => by rcases h with h | h <;> first | (rw [h1] at h; cases h; done) | omega), if_neg (by rw [h2]; decide)]
  · intro h
    split at h
    · cases h
    · rename_i h1
      split at h
      · cases h
      · rename_i h2
        refine ⟨?_, by simpa using h2⟩
        cases e : isF f with
        | true => rfl
        | false => exact absurd (.inl e) h1
theorem Sim.writeS (h : Sim s r) (f a : Int) (t : List UInt8) : Sim (writeS s f a t) (if isF f = true ∧ fitsP a t.length = true then addR r f a.toNat t else r) := by
  unfold Go.Proofs.Ytnnakclmeihonaa.writeS
  by_cases hc : chk f a t.length = 0
  · rw [if_pos hc, if_pos (chk_isF.2 hc)]
    exact h.add (chk_isF.2 hc).1 _ _
  · rw [if_neg hc, if_neg (fun e => hc (chk_isF.1 e))]
    exact h
/-- The number of calls that are left, in both. -/
theorem Sim.tick (h : Sim s r) (n : Int) (hn : n ≠ 0 → s.left ≠ 0) : Sim { s with left := n } { r with armed := n } :=
  ⟨h.now, h.last, h.queue, h.lost, h.down, rfl, fun e => h.keep (hn e), h.nod, h.rng⟩
theorem crashedR_tick (n : Int) (keep : List Int) : crashedR { r with armed := n } keep = crashedR r keep := rfl
theorem crashed_tick (n : Int) (keep : List Int) : crashed { s with left := n } keep = crashed s keep := rfl

/-- What strikes, of the code, is to comes, of the reference, at a call that writes nothing. -/
theorem Sim.comes (h : Sim s r) (ho : Ok s) (hd : s.down = false) : Sim (strikeP s).1 (comesR r 0 0 []) ∧ ((strikeP s).2 = true → (comesR r 0 0 []).down = true) ∧ ((strikeP s).2 = false → (comesR r 0 0 []).down = false) := by
  have hrd : r.down = false := h.down.trans hd
  have hnd : ¬ r.down = true := by rw [hrd]; decide
  by_cases h0 : s.left = 0
  · have e1 : strikeP s = (s, false) := by unfold strikeP; rw [if_pos h0]
    have e2 : comesR r 0 0 [] = r := by unfold comesR; rw [if_neg hnd, if_pos (h.armed.trans h0)]
    rw [e1, e2]
    exact ⟨h, (fun e => by cases e), fun _ => hrd⟩
  · have h0r : ¬ r.armed = 0 := by rw [h.armed]; exact h0
    by_cases h1 : 0 < s.left - 1
    · have e1 : strikeP s = ({ s with left := s.left - 1 }, false) := by unfold strikeP; rw [if_neg h0, if_pos h1]
      have e2 : comesR r 0 0 [] = { r with armed := s.left - 1 } := by unfold comesR; rw [if_neg hnd, if_neg h0r, h.armed, if_pos h1]
      rw [e1, e2]
      exact ⟨h.tick _ (fun _ => h0), (fun e => by cases e), fun _ => hrd⟩
    · have e1 : strikeP s = (Go.Proofs.Ytnnakclmeihonaa.crashed { s with left := s.left - 1 } s.keep, true) := by unfold strikeP; rw [if_neg h0, if_neg h1]
      have e2 : comesR r 0 0 [] = crashedR { r with armed := s.left - 1 } s.keep := by
        unfold comesR
        rw [if_neg hnd, if_neg h0r, h.armed, if_neg h1, h.keep h0]
        split <;> rfl
      rw [e1, e2, crashedR_tick, crashed_tick]
      exact ⟨h.crashed ho _, fun _ => rfl, fun e => by cases e⟩
theorem Sim.sync (h : Sim s r) (ho : Ok s) (f : Int) : Sim (syncP s f).1 (syncR r f).1 ∧ (syncP s f).2 = (syncR r f).2 := by
  unfold syncP syncR
  by_cases hd : s.down = true
  · have hc : comesR r 0 0 [] = r := by unfold comesR; rw [if_pos (h.down.trans hd)]
    have hm : mayR r f = 8 := by unfold mayR; rw [if_pos (h.down.trans hd)]
    rw [if_pos hd, hc, hm, if_pos (by decide)]
    exact ⟨h, rfl⟩
  · have hd' : s.down = false := by simpa using hd
    obtain ⟨h1, h2, h3⟩ := h.comes ho hd'
    rw [if_neg hd]
    revert h1 h2 h3
    generalize strikeP s = q
    generalize comesR r 0 0 [] = r1
    obtain ⟨s1, b⟩ := q
    intro h1 h2 h3
    cases b with
    | true =>
      have hm : mayR r1 f = 8 := by unfold mayR; rw [if_pos (h2 rfl)]
      rw [if_pos rfl, hm, if_pos (by decide)]
      exact ⟨h1, rfl⟩
    | false =>
      rw [if_neg (by simp)]
      cases hf : isF f with
      | false =>
        have hm : mayR r1 f = 1 := by unfold mayR; rw [if_neg (by rw [h3 rfl]; decide), if_pos hf]
        rw [if_pos rfl, hm, if_pos (by decide)]
        exact ⟨h1, rfl⟩
      | true =>
        have hm : mayR r1 f = 0 := by unfold mayR; rw [if_neg (by rw [h3 rfl]; decide), if_neg (by rw [hf]; decide)]
        rw [if_neg (show ¬ true = false by decide), hm, if_neg (show ¬ (0 : Int) ≠ 0 by decide), h1.lost]
        by_cases hz : 0 < s1.lost
        · rw [if_pos hz, if_pos hz]
          exact ⟨⟨h1.now, h1.last, h1.queue, rfl, h1.down, h1.armed, h1.keep, h1.nod, h1.rng⟩, rfl⟩
        · rw [if_neg hz, if_neg hz, h1.now]
          refine ⟨h1.settle hf _ ?_ rfl rfl rfl rfl rfl rfl, rfl⟩
          exact (upd_self _ _).symm
theorem Sim.trunc (h : Sim s r) (ho : Ok s) (f n : Int) : Sim (truncP s f n).1 (truncR r f n).1 ∧ (truncP s f n).2 = (truncR r f n).2 := by
  unfold truncP truncR
  by_cases hd : s.down = true
  · have hc : comesR r 0 0 [] = r := by unfold comesR; rw [if_pos (h.down.trans hd)]
    have hm : mayR r f = 8 := by unfold mayR; rw [if_pos (h.down.trans hd)]
    rw [if_pos hd, hc, hm, if_pos (by decide)]
    exact ⟨h, rfl⟩
  · have hd' : s.down = false := by simpa using hd
    obtain ⟨h1, h2, h3⟩ := h.comes ho hd'
    rw [if_neg hd]
    revert h1 h2 h3
    generalize strikeP s = q
    generalize comesR r 0 0 [] = r1
    obtain ⟨s1, b⟩ := q
    intro h1 h2 h3
    cases b with
    | true =>
      have hm : mayR r1 f = 8 := by unfold mayR; rw [if_pos (h2 rfl)]
      rw [if_pos rfl, hm, if_pos (by decide)]
      exact ⟨h1, rfl⟩
    | false =>
      rw [if_neg (by simp)]
      cases hf : isF f with
      | false =>
        have hm : mayR r1 f = 1 := by unfold mayR; rw [if_neg (by rw [h3 rfl]; decide), if_pos hf]
        rw [if_pos (.inl rfl), hm, if_pos (by decide)]
        exact ⟨h1, rfl⟩
      | true =>
        have hm : mayR r1 f = 0 := by unfold mayR; rw [if_neg (by rw [h3 rfl]; decide), if_neg (by rw [hf]; decide)]
        rw [hm, if_neg (show ¬ (0 : Int) ≠ 0 by decide), h1.now]
        by_cases hz : n < 0 ∨ ((s1.data f).length : Int) < n
        · rw [if_pos (.inr hz), if_pos hz]
          exact ⟨h1, rfl⟩
        · rw [if_neg (show ¬ (true = false ∨ n < 0 ∨ ((s1.data f).length : Int) < n) from fun e => by
            rcases e with e | e
            · cases e
            · exact hz e), if_neg hz]
          exact ⟨h1.settle hf _ rfl (truncd_dur s1 f n.toNat) rfl rfl rfl rfl rfl, rfl⟩
theorem Sim.write (h : Sim s r) (ho : Ok s) (f a : Int) (t : List UInt8) : Sim (writeP s f a t).1 (writeR r f a t).1 ∧ (writeP s f a t).2 = (writeR r f a t).2 := by
  unfold writeP writeR
  by_cases hd : s.down = true
  · have hc : comesR r f a t = r := by unfold comesR; rw [if_pos (h.down.trans hd)]
    have hm : mayR r f = 8 := by unfold mayR; rw [if_pos (h.down.trans hd)]
    rw [if_pos hd, hc, hm, if_pos (by decide)]
    exact ⟨h, rfl⟩
  · have hd' : s.down = false := by simpa using hd
    have hrd : r.down = false := h.down.trans hd'
    obtain ⟨w1, w2⟩ := writeS_left (s := s) f a t
    rw [if_neg hd]
    -- what the reference answers where the crash has not come
    have key : ∀ (q : Ds) (r1 : Rs), Sim q r1 → r1.down = false → Sim (Go.Proofs.Ytnnakclmeihonaa.writeS q f a t) (if mayR r1 f ≠ 0 then (r1, mayR r1 f) else if a < 0 then (r1, 1) else if fitsP a t.length = false then (r1, 6) else (addR r1 f a.toNat t, 0)).1 ∧
        chk f a t.length = (if mayR r1 f ≠ 0 then (r1, mayR r1 f) else if a < 0 then (r1, 1) else if fitsP a t.length = false then (r1, 6) else (addR r1 f a.toNat t, 0)).2 := fun q r1 hq hr1 => by
      have hw := hq.writeS f a t
      cases hf : isF f with
      | false =>
        have hm : mayR r1 f = 1 := by unfold mayR; rw [if_neg (by rw [hr1]; decide), if_pos hf]
        rw [if_neg (by rw [hf]; simp)] at hw
        rw [hm, if_pos (by decide), fits_chk, if_pos (.inl hf)]
        exact ⟨hw, rfl⟩
      | true =>
        have hm : mayR r1 f = 0 := by unfold mayR; rw [if_neg (by rw [hr1]; decide), if_neg (by rw [hf]; decide)]
        rw [hm, if_neg (show ¬ (0 : Int) ≠ 0 by decide), fits_chk]
        by_cases ha : a < 0
        · have hfi : fitsP a t.length = false := by unfold fitsP; simp; omega
          rw [if_neg (by rw [hfi]; simp)] at hw
          rw [if_pos ha, if_pos (.inr ha)]
          exact ⟨hw, rfl⟩
        · rw [if_neg ha, if_neg (show ¬ (isF f = false ∨ a < 0) from fun e => by
            rcases e with e | e
            · rw [hf] at e; cases e
            · exact ha e)]
          by_cases hfi : fitsP a t.length = false
          · rw [if_neg (by rw [hfi]; simp)] at hw
            rw [if_pos hfi, if_pos hfi]
            exact ⟨hw, rfl⟩
          · rw [if_pos ⟨hf, by simpa using hfi⟩] at hw
            rw [if_neg hfi, if_neg hfi]
            exact ⟨hw, rfl⟩
    have hl := h.armed
    unfold strikeP
    rw [w1]
    by_cases h0 : s.left = 0
    · have hc : comesR r f a t = r := by unfold comesR; rw [if_neg (by rw [hrd]; decide), if_pos (hl.trans h0)]
      rw [if_pos h0, hc]
      have := key s r h hrd
      exact this
    · rw [if_neg h0]
      by_cases h1 : 0 < s.left - 1
      · have hc : comesR r f a t = { r with armed := s.left - 1 } := by unfold comesR; rw [if_neg (by rw [hrd]; decide), hl, if_neg h0, if_pos h1]
        rw [if_pos h1, hc]
        have := key { s with left := s.left - 1 } { r with armed := s.left - 1 } (h.tick _ (fun _ => h0)) hrd
        have e : Go.Proofs.Ytnnakclmeihonaa.writeS { s with left := s.left - 1 } f a t = { Go.Proofs.Ytnnakclmeihonaa.writeS s f a t with left := s.left - 1 } := by
          unfold Go.Proofs.Ytnnakclmeihonaa.writeS stored
          split
          · split <;> rfl
          · rfl
        rw [e] at this
        exact this
      · have hk : (Go.Proofs.Ytnnakclmeihonaa.writeS s f a t).keep = s.keep := by
          unfold Go.Proofs.Ytnnakclmeihonaa.writeS stored
          split
          · split <;> rfl
          · rfl
        have hc : comesR r f a t = crashedR (if isF f = true ∧ fitsP a t.length = true then addR r f a.toNat t else r) r.keep := by
          unfold comesR
          rw [if_neg (by rw [hrd]; decide), hl, if_neg h0, if_neg h1]
          by_cases hc : isF f = true ∧ fitsP a t.length = true
          · rw [if_pos hc, if_pos hc]
            unfold addR
            by_cases ht : t.length = 0
            · rw [if_pos ht, if_pos ht]
              rfl
            · rw [if_neg ht, if_neg ht]
              rfl
          · rw [if_neg hc, if_neg hc]
            rfl
        have hm : mayR (comesR r f a t) f = 8 := by
          unfold mayR
          rw [if_pos (by rw [hc]; rfl)]
        rw [if_neg h1, hm, if_pos rfl, if_pos (show (8 : Int) ≠ 0 by decide), hc, crashed_tick, hk, ← h.keep h0]
        exact ⟨(h.writeS f a t).crashed (ho.writeS f a t) _, rfl⟩
theorem Sim.act (h : Sim s r) (ho : Ok s) (x : Ac) : Sim (doP s x).1 (tellR r x).1 ∧ (doP s x).2 = (tellR r x).2 := by
  unfold doP tellR
  split
  · exact h.sync ho _
  · split
    · exact h.trunc ho _ _
    · split
      · exact ⟨⟨h.now, h.last, h.queue, rfl, h.down, h.armed, h.keep, h.nod, h.rng⟩, rfl⟩
      · split
        · exact ⟨⟨h.now, h.last, h.queue, h.lost, h.down, rfl, fun _ => rfl, h.nod, h.rng⟩, rfl⟩
        · split
          · exact ⟨h.crash ho _, rfl⟩
          · split
            · exact ⟨⟨h.now, h.last, h.queue, h.lost, rfl, h.armed, h.keep, h.nod, h.rng⟩, rfl⟩
            · exact h.write ho _ _ _
theorem Sim.read (h : Sim s r) (f a n : Int) : readR r f a n = readP s f a n := by
  unfold readR readP
  rw [h.down, h.now]
  split
  · rfl
  · cases hf : isF f with
    | false => rfl
    | true =>
      rw [if_neg (by decide)]
      by_cases h1 : a < 0 ∨ n < 0
      · rw [if_pos h1, if_pos (.inr h1)]
      · rw [if_neg h1, if_neg (show ¬ (true = false ∨ a < 0 ∨ n < 0) from fun e => by
          rcases e with e | e
          · cases e
          · exact h1 e)]
end

end Go.Proofs.Ytnnakclmeihonaa

/- The walk of the reference's survive: the bytes of a sector are put into the durable part of its file. Conditions: the sector begins within the file; sizes. -/
namespace Go.Proofs.Ytnnakclmeihonaa
open Go.RowKit Go.ChangeMaps

theorem secB_cut {D : List UInt8} {y u : Nat} (hu : u = min (64 * y + 64) D.length) (hy : 64 * y < D.length) : (bStr D).extract (64 * y) u = bStr (secB D y) := by
  rw [bStr_cutR]
  unfold secB
  by_cases h : 64 * y + 64 ≤ D.length
  · rw [show u - 64 * y = 64 from by omega]
  · rw [List.take_of_length_le (by rw [List.length_drop]; omega), List.take_of_length_le (by rw [List.length_drop]; omega)]

set_option maxRecDepth 4000 in
set_option maxHeartbeats 4000000 in
theorem r_survive (w : World) (own : Nat → Option Nat) (b : Nat) (fv qv kv : Value) (s : Rs) (f : Int) (y : Nat) (h : Rk w own b fv qv kv s) (hn : s.files.length ≤ 1000000) (hy : 64 * y < (getR s.files f).now.length) (hz : (getR s.files f).now.length ≤ 16777216) (hz2 : (getR s.files f).last.length ≤ 16777216) :
    Calls Try.prog 55 #[.pointer (some ⟨b, 0, none⟩), .agg #[.int .i64 f, .int .i64 (y : Int)]] w (REnd3 w own b qv kv { s with files := surviveR s.files f y } (.tuple #[])) := by
  have ta := (Tr.refl (fun _ => False) h.inb).alloc (.cells #[.int .i64 f, .int .i64 (y : Int)] 83)
  have hB : Blk (w.alloc (.cells #[.int .i64 f, .int .i64 (y : Int)] 83)) w.heap.size 83 _ := Blk.new w _ _
  have HTA := Lib.hid ta
  have HBX := Lib.hid hB
  have HG := Lib.hid (r_get _ own b fv qv kv s f (h.far ta) hn)
  have HH := Lib.hid h
  have hsv : surviveR s.files f y = setR s.files ⟨(getR s.files f).no, (getR s.files f).now, putB (getR s.files f).last (64 * y) (secB (getR s.files f).now y)⟩ := rfl
  rw [hsv]
  clear hsv
  generalize getR s.files f = x at *
  obtain ⟨no, D, U⟩ := x
  simp only [] at hy hz hz2 ⊢
  have hss := secB_len (d := D) (n := y)
  have hbs : (bStr (secB D y)).size = (secB D y).length := bStr_size _
  have HP := Lib.hid (fun W => r_put U (64 * y) (bStr (secB D y)) W hz2 (by rw [hbs, hss]; omega))
  rw [hbs, if_neg (by rw [hss]; omega)] at HP
  have HPE : (bStr (secB D y)).data.toList = secB D y := by simp [bStr]
  rw [HPE] at HP
  have hsz0 : (w.alloc (.cells #[.int .i64 f, .int .i64 (y : Int)] 83)).heap.size = w.heap.size + 1 := by simp
  have HSZ0 := Lib.hid hsz0
  clear h ta hB hss hbs HPE hsz0
  unfold flV at HG
  have q1 := bStr_size D
  have hyi : 64 * (y : Int) < (D.length : Int) := by omega
  have hyb : (y : Int) ≤ 262144 := by omega
  have hy0 : (0 : Int) ≤ (y : Int) := by omega
  go_enter Try.func55, Try.ntmps55
  go_wp2_with fail
  refine HG.out.mono ?_
  rintro e w1 ⟨rfl, b1⟩
  have z0 : w1.cell? ⟨w.heap.size, 0, none⟩ = some (.int .i64 f) := (HBX.out.below b1 (by rw [HSZ0.out]; omega)).cell 0
  have z1 : w1.cell? ⟨w.heap.size, 1, none⟩ = some (.int .i64 (y : Int)) := (HBX.out.below b1 (by rw [HSZ0.out]; omega)).cell 1
  have HB1 : Hid (Below w.heap.size w w1) := ((Below.refl w.heap.size w).alloc (Nat.le_refl _) _).trans (b1.mono (by rw [HSZ0.out]; omega))
  have hsz := b1.size
  rw [HSZ0.out] at hsz
  have y1 := (World.cell?_alloc_some w1 ⟨w.heap.size, 1, none⟩ (.cells #[.int .i64 no, .string (bStr D), .string (bStr U)] 66) (by rw [z1]; rfl)).trans z1
  clear b1 HG HBX HTA z0
  have hBF : Blk (w1.alloc (.cells #[.int .i64 no, .string (bStr D), .string (bStr U)] 66)) w1.heap.size 66 _ := Blk.new w1 _ _
  have x1 : (w1.alloc (.cells #[.int .i64 no, .string (bStr D), .string (bStr U)] 66)).cell? ⟨w1.heap.size, 1, none⟩ = some (.string (bStr D)) := hBF.cell 1
  have x2 : (w1.alloc (.cells #[.int .i64 no, .string (bStr D), .string (bStr U)] 66)).cell? ⟨w1.heap.size, 2, none⟩ = some (.string (bStr U)) := hBF.cell 2
  have f2 := hBF.frozen 2
  have HBF := Lib.hid hBF
  have HB2 := Lib.hid (HB1.out.alloc (by omega) (.cells #[.int .i64 no, .string (bStr D), .string (bStr U)] 66))
  have hsz2 : w1.heap.size < (w1.alloc (.cells #[.int .i64 no, .string (bStr D), .string (bStr U)] 66)).heap.size := by simp
  have e64 : ((64 * y : Nat) : Int) = 64 * (y : Int) := by omega
  rw [e64] at HP
  have t64 : Int.toNat (64 * (y : Int)) = 64 * y := by omega
  clear hBF z1 e64
  go_upto_region 3 with fail
  generalize w1.alloc (.cells #[.int .i64 no, .string (bStr D), .string (bStr U)] 66) = W2 at *
  generalize w1.heap.size = g1 at *
  go_cut [4] (fun s4 wx => s4 = .pointer (some ⟨g1, 0, none⟩) ∧ ∃ w3, Hid (Below W2.heap.size W2 w3) ∧ wx = w3.setCell ⟨g1, 2, none⟩ (.string (bStr (putB U (64 * y) (secB D y)))))
  case first =>
    have hy64 : (0 : Int) ≤ 64 * (y : Int) := by omega
    have hyle : 64 * (y : Int) ≤ (D.length : Int) := by omega
    have hyN : 64 * y ≤ D.length := by omega
    have ew1 : IntKind.i64.wrap (64 * (y : Int)) = 64 * (y : Int) := by rw [IntKind.wrap_i64]; omega
    have ew2 : IntKind.i64.wrap (64 * (y : Int) + 64) = 64 * (y : Int) + 64 := by rw [IntKind.wrap_i64]; omega
    have z1 : W2.drew.cell? ⟨w.heap.size, 1, none⟩ = some (.int .i64 (y : Int)) := y1
    by_cases hm : D.length < 64 * y + 64
    · have hm' : (D.length : Int) < 64 * (y : Int) + 64 := by omega
      rw [← secB_cut (u := D.length) (by omega) hy] at HP
      go_still_tail 19, (by kernel_rfl)
      change wpList _ _ _ _ _ W2.drew
      go_wp2_with fail
      refine (HP.out _).mono ?_
      rintro e w3 ⟨rfl, b3⟩
      have b4 : Below W2.heap.size W2 w3 := ⟨b3.os, b3.tape, b3.output, b3.size, b3.block⟩
      have hx3 := HBF.out.below b4 hsz2
      have x23 : w3.cell? ⟨g1, 2, none⟩ = some (.string (bStr U)) := hx3.cell 2
      have f23 : w3.frozen? ⟨g1, 2, none⟩ = false := hx3.frozen 2
      have HB3 := Lib.hid b4
      clear b3 b4 hx3
      go_wp2_with fail
      go_meet
      exact ⟨rfl, w3, HB3, rfl⟩
    · have hm' : ¬ (D.length : Int) < 64 * (y : Int) + 64 := by omega
      have hm2 : 64 * (y : Int) + 64 ≤ (D.length : Int) := by omega
      have hm3 : (64 * (y : Int) + 64).toNat = 64 * y + 64 := by omega
      have hm4 : 64 * (y : Int) ≤ 64 * (y : Int) + 64 := by omega
      have hm5 : 64 * y + 64 ≤ D.length := by omega
      have hm6 : (0 : Int) ≤ 64 * (y : Int) + 64 := by omega
      rw [← secB_cut (u := 64 * y + 64) (by omega) hy] at HP
      go_still_tail 19, (by kernel_rfl)
      change wpList _ _ _ _ _ W2.drew
      go_wp2_with fail
      refine (HP.out _).mono ?_
      rintro e w3 ⟨rfl, b3⟩
      have b4 : Below W2.heap.size W2 w3 := ⟨b3.os, b3.tape, b3.output, b3.size, b3.block⟩
      have hx3 := HBF.out.below b4 hsz2
      have x23 : w3.cell? ⟨g1, 2, none⟩ = some (.string (bStr U)) := hx3.cell 2
      have f23 : w3.frozen? ⟨g1, 2, none⟩ = false := hx3.frozen 2
      have HB3 := Lib.hid b4
      clear b3 b4 hx3
      go_wp2_with fail
      go_meet
      exact ⟨rfl, w3, HB3, rfl⟩
  case rest =>
    obtain ⟨rfl, w3, HB3, hw⟩ := hcut
    have hb4 := (HB2.out.trans (HB3.out.mono HB2.out.size)).setCell (p := ⟨g1, 2, none⟩) (show w.heap.size ≤ g1 by omega) (.string (bStr (putB U (64 * y) (secB D y))))
    have hx4 := (HBF.out.below HB3.out hsz2).set_ 2 (.string (bStr (putB U (64 * y) (secB D y))))
    rw [← hw] at hb4 hx4
    have t4 := Tr.of_below (fun _ => False) HH.out.inb hb4
    have HS := Lib.hid (r_set3 wc own b fv qv kv s ⟨no, D, putB U (64 * y) (secB D y)⟩ (HH.out.far t4) hn)
    have HT4 := Lib.hid t4
    have v0 : wc.cell? ⟨g1, 0, none⟩ = some (.int .i64 no) := hx4.cell 0
    have v1 : wc.cell? ⟨g1, 1, none⟩ = some (.string (bStr D)) := hx4.cell 1
    have v2 : wc.cell? ⟨g1, 2, none⟩ = some (.string (bStr (putB U (64 * y) (secB D y)))) := hx4.cell 2
    clear hw hb4 hx4 t4 HB3 HB2 HBF HP x1 x2 f2 y1 HH
    unfold flV at HS
    go_wp2_with fail
    refine HS.out.mono ?_
    rintro e w5 ⟨rfl, own5, fv5, hk5, t5⟩
    have HE : Hid (REnd3 w own b qv kv { s with files := setR s.files ⟨no, D, putB U (64 * y) (secB D y)⟩ } (.tuple #[]) (.returned (.tuple #[])) w5) := ⟨rfl, own5, fv5, hk5, (HT4.out.weak (fun _ h => h.elim)).trans t5⟩
    clear hk5 t5 HS HT4
    go_wp2_with fail
    go_end0
    exact HE.out

end Go.Proofs.Ytnnakclmeihonaa

/- The walk of the reference's Crash. Conditions: the state is that of a disk; the list lies where the disk's own block does not; sizes. -/
namespace Go.Proofs.Ytnnakclmeihonaa
open Go.RowKit Go.ChangeMaps

theorem crashF_none (q : List (Int × Int)) : ∀ (l : List Fl) (i : Nat), crashF [] l q i = l := by
  induction q with
  | nil => intro l i; rfl
  | cons p q ih =>
    intro l i
    show crashF [] _ q (i + 1) = l
    rw [ih, if_neg (by simp [survB])]
theorem Reads.tr {w w' : World} {own own' : Nat → Option Nat} {B size n : Nat} {A : Option Addr} {xs : List Value} (h : Reads w B size A n xs) (ho : 0 < n → ∀ ad, A = some ad → own ad.block ≠ some 0) (t : Tr (fun r => r = 0) w own own' w') : Reads w' B size A n xs := by
  refine ⟨h.1, fun hp => ?_⟩
  obtain ⟨ad, e, h1, h2⟩ := h.2 hp
  refine ⟨ad, e, h1, fun j u hj => ?_⟩
  have h3 := h2 j u hj
  exact t.cell h3 (fun r e2 e3 => by
    rw [block_of_add] at e2
    exact ho hp ad e (e2.trans (congrArg some e3)))

/-- The state while the sectors survive. -/
def midR (s : Rs) (l : List Int) (k : Nat) : Rs := { s with files := crashF l s.files (s.queue.take k) 0, armed := 0, down := true }
theorem midR_is {S : Ds} {s : Rs} (hs : Sim S s) (ho : Ok S) (l : List Int) (k : Nat) : (∀ f, (getR (midR s l k).files f).now = S.data f) ∧ (∀ f, (getR (midR s l k).files f).last.length ≤ 16777216) ∧ (midR s l k).files.length ≤ 16 := by
  have hp : ∀ p ∈ s.queue.take k, p ∈ S.pend := fun p h => by rw [← hs.queue]; exact List.mem_of_mem_take h
  obtain ⟨h1, h2, h3, h4⟩ := crashF_is l S.data (s.queue.take k) s.files S.dur 0 (fun p h => ⟨(ho.pend p (hp p h)).1, (ho.pend p (hp p h)).2.1⟩) hs.now hs.last hs.nod hs.rng
  refine ⟨h1, fun f => ?_, rng_len h3 h4⟩
  show (getR (crashF l s.files (s.queue.take k) 0) f).last.length ≤ _
  rw [h2 f]
  exact crashD_len ho.size _ _ _ (fun p h => ho.pend p (hp p h)) (fun g => Nat.le_trans (ho.dur g) (ho.size g)) f
theorem midR_step {s : Rs} {l : List Int} {k : Nat} {p : Int × Int} (hp : s.queue[k]? = some p) : midR s l (k + 1) = { midR s l k with files := if survB l k = true then surviveR (midR s l k).files p.1 p.2.toNat else (midR s l k).files } := by
  have hk : (s.queue.take k).length = k := by rw [List.length_take]; have := (List.getElem?_eq_some_iff.1 hp).1; omega
  unfold midR
  rw [take_snoc_ hp, crashF_snoc, hk, Nat.zero_add]
theorem lastR_step {l : List Fl} {k : Nat} {y : Fl} (h : l[k]? = some y) : lastR (l.take (k + 1)) = lastR (l.take k) ++ [⟨y.no, y.last, y.last⟩] := by
  unfold lastR
  rw [take_snoc_ h, List.map_append]
  rfl

theorem fl_new (w : World) (y : Fl) : Reads (w.drew.alloc (.cells #[.int .i64 y.no, .string (bStr y.now), .string (bStr y.last)] 66)) (w.heap.size + 1) 3 (some ⟨w.heap.size, 0, none⟩) 1 (flC [y]) := by
  refine ⟨by rw [flC_len]; rfl, fun _ => ⟨_, rfl, by simp, fun j u hj => ?_⟩⟩
  have hc := cell_of_row (w.alloc (.cells #[.int .i64 y.no, .string (bStr y.now), .string (bStr y.last)] 66)) w.heap.size j _ _ (0, 0) (heap_alloc_new w _)
  rw [show (Addr.mk w.heap.size 0 none).add j = ⟨w.heap.size, j, none⟩ from by simp [Addr.add]; omega]
  refine Eq.trans ?_ (hc.trans ?_)
  · rfl
  simpa [flC] using hj

set_option maxRecDepth 4000 in
set_option maxHeartbeats 4000000 in
theorem r_crash (w : World) (own : Nat → Option Nat) (b : Nat) (fv qv kv : Value) (S : Ds) (s : Rs) (A : Option Addr) (n c : Nat) (l : List Int) (h : Rk w own b fv qv kv s) (hs : Sim S s) (ho : Ok S) (hr : Reads w w.heap.size 1 A n (inV l)) (hoA : 0 < n → ∀ ad, A = some ad → own ad.block ≠ some 0) (hn : n ≤ 1000000) :
    Calls Try.prog 36 #[.pointer (some ⟨b, 0, none⟩), .slice A n c] w (REnd2 w own b (crashR s l) (.tuple #[])) := by
  obtain ⟨i0, hi, hz0, hz1, hz2⟩ := info_parts infoFl
  have c3 := h.blk.cell 3
  by_cases hd : s.down = true
  · have e : crashR s l = s := by unfold crashR; rw [if_pos hd]
    rw [e]
    have HE : Hid (REnd2 w own b s (.tuple #[]) (.returned (.tuple #[])) w) := ⟨rfl, own, fv, qv, kv, h, Tr.refl _ h.inb⟩
    rw [hd] at c3
    clear e h hs ho hr hoA
    go_enter Try.func36, Try.ntmps36
    go_wp2_with fail
    go_end0
    exact HE.out
  · have hdf : s.down = false := by simpa using hd
    have e : crashR s l = crashedR s l := by unfold crashR; rw [if_neg hd]
    rw [e]
    clear e
    rw [hdf] at c3
    have c1 := h.blk.cell 1
    have c4 := h.blk.cell 4
    have f3 := h.blk.frozen 3
    have f4 := h.blk.frozen 4
    have t2 := (Tr.refl (fun r => r = 0) h.inb).setOwn (p := ⟨b, 3, none⟩) h.ob rfl (.bool true) |>.setOwn (p := ⟨b, 4, none⟩) h.ob rfl (.int .i64 0)
    have hk2 := h.struct t2 s.lost 0 true ((h.blk.set_ 3 (.bool true)).set_ 4 (.int .i64 0))
    have hl : l.length = n := by have := hr.1; rw [inV_len] at this; omega
    have HK2 : Hid (Rk ((w.setCell ⟨b, 3, none⟩ (.bool true)).setCell ⟨b, 4, none⟩ (.int .i64 0)) own b fv qv kv (midR s l 0)) := hk2
    have HT2 := Lib.hid t2
    have HS := Lib.hid hs
    have HO := Lib.hid ho
    have HR := Lib.hid hr
    have HOA := Lib.hid hoA
    have HH := Lib.hid h
    have hqb : s.queue.length ≤ 4194304 := by rw [hs.queue]; exact pend_len ho
    obtain ⟨Aq, cq, rfl, _, _⟩ := own_slice h.queue.1
    have hbl := h.blk.lt
    generalize hL : s.queue.length = L at *
    have HL := Lib.hid hL
    clear h hs ho hr hoA hk2 t2 hL
    go_enter Try.func36, Try.ntmps36
    go_wp2_with fail
    generalize (w.setCell ⟨b, 3, none⟩ (.bool true)).setCell ⟨b, 4, none⟩ (.int .i64 0) = W2 at *
    clear c1 c3 c4 f3 f4
    go_loopw [4] (fun i wr => ∃ (k : Nat) (own2 : Nat → Option Nat) (fv2 : Value), k ≤ L ∧ (n = 0 → k = 0) ∧ i = .int .i64 k ∧ Hid (Rk wr own2 b fv2 (.slice Aq L cq) kv (midR s l k)) ∧ Hid (Tr (fun r => r = 0) w own own2 wr)) (fun i _ => L - (RowKit.intOf i).toNat)
    case atStart => exact ⟨0, own, fv, Nat.zero_le _, fun _ => rfl, rfl, HK2, HT2⟩
    case round =>
      clear HK2 HT2
      obtain ⟨k, own2, fv2, hk, hk0n, rfl, HK, HT⟩ := hrel
      have d1 := HK.out.blk.cell 1
      by_cases hlt : k < L ∧ 0 < n
      · obtain ⟨hlt, hpos⟩ := hlt
        obtain ⟨p, hp⟩ : ∃ p, s.queue[k]? = some p := ⟨_, List.getElem?_eq_getElem (by rw [HL.out]; exact hlt)⟩
        obtain ⟨x, hx⟩ : ∃ x, l[k % n]? = some x := ⟨_, List.getElem?_eq_getElem (by rw [hl]; exact Nat.mod_lt _ hpos)⟩
        have hsv : survB l k = decide (x % 2 = 1) := by unfold survB; rw [hl, hx]
        obtain ⟨ad, rfl, _, hcell⟩ := (HR.out.tr HOA.out HT.out).2 hpos
        have hc := hcell (k % n) (.int .i64 x) (by unfold inV; rw [List.getElem?_map, hx]; rfl)
        have hst := midR_step (l := l) hp
        have hlt' : (k : Int) < (L : Int) := by omega
        have hpos' : (0 : Int) < (n : Int) := by omega
        have hk0 : 0 ≤ (k : Int) := by omega
        have hml : k % n < n := Nat.mod_lt _ hpos
        have hpd : p ∈ S.pend := by rw [← HS.out.queue]; exact List.mem_of_getElem? hp
        obtain ⟨pf0, pf1, y, hpy, hylt⟩ := HO.out.pend p hpd
        obtain ⟨m1, m2, m3⟩ := midR_is HS.out HO.out l k
        have HQ := HK.out.queue
        have hql : (midR s l k).queue.length = L := HL.out
        rw [hql] at HQ
        obtain ⟨g, c', hv, _, _⟩ := own_some HQ.1 rfl (show 0 < L by omega)
        injection hv with hA2 _ hC
        subst hA2
        subst hC
        obtain ⟨q0, q1⟩ := HQ.secCellR (show (midR s l k).queue[k]? = some p from hp)
        obtain ⟨pf, pn⟩ := p
        simp only at hpy hylt pf0 pf1 q0 q1
        subst hpy
        by_cases hodd : x % 2 = 1
        · have e1 : bits .and .i64 x 1 = 1 := (i64_and1 x).trans hodd
          have hsv2 : survB l k = true := by rw [hsv, hodd]; rfl
          rw [if_pos hsv2] at hst
          have HCS := Lib.hid (r_survive wr own2 b fv2 (.slice (some ⟨g, 0, none⟩) L cq) kv (midR s l k) pf y HK.out (by omega) (by rw [m1]; exact hylt) (by rw [m1]; exact HO.out.size _) (m2 _))
          have HST := Lib.hid hst
          clear hst hsv hsv2 hp hx hcell m1 m2 m3 hodd HQ hpd hql hylt
          go_wp2_with fail
          refine HCS.out.mono ?_
          rintro e w3 ⟨rfl, own3, fv3, hk3, t3⟩
          have HK3 : Hid (Rk w3 own3 b fv3 (.slice (some ⟨g, 0, none⟩) L cq) kv (midR s l (k + 1))) := by rw [HST.out]; exact hk3
          have HT3 := Lib.hid (HT.out.trans t3)
          clear hk3 t3 HK HT HCS HST d1 q0 q1 hc
          go_wp2_with fail
          go_roundw
          case rel => exact ⟨k + 1, own3, fv3, by omega, fun e => by omega, by go_num, HK3, HT3⟩
          case measure => simp [RowKit.intOf]; omega
        · have h2 : x % 2 = 0 := by omega
          have e1 : bits .and .i64 x 1 = 0 := (i64_and1 x).trans h2
          have hsv2 : ¬ survB l k = true := by rw [hsv, h2]; decide
          rw [if_neg hsv2] at hst
          have HK3 : Hid (Rk wr own2 b fv2 (.slice (some ⟨g, 0, none⟩) L cq) kv (midR s l (k + 1))) := by rw [hst]; exact HK.out
          clear hst hsv hsv2 hp hx hcell m1 m2 m3 hodd HQ hpd hql hylt h2 HK
          go_wp2_with fail
          go_roundw
          case rel => exact ⟨k + 1, own2, fv2, by omega, fun e => by omega, by go_num, HK3, HT⟩
          case measure => simp [RowKit.intOf]; omega
      · have hend : midR s l k = { s with files := crashF l s.files s.queue 0, armed := 0, down := true } := by
          unfold midR
          by_cases h0 : n = 0
          · have : l = [] := List.eq_nil_of_length_eq_zero (by omega)
            subst this
            rw [crashF_none, crashF_none]
          · rw [List.take_of_length_le (by rw [HL.out]; omega)]
        obtain ⟨_, _, m3⟩ := midR_is HS.out HO.out l k
        rw [hend] at HK m3
        generalize hF : crashF l s.files s.queue 0 = F at *
        have HFE := Lib.hid hF
        have hexit : (k = L ∧ 0 ≤ (k : Int)) ∨ (k < L ∧ n = 0) := by omega
        have HQ1 := HK.out.queue
        obtain ⟨Af, cf, rfl, _, _⟩ := own_slice HK.out.files.1
        have d0 : wr.cell? ⟨b, 0, none⟩ = some (.slice Af F.length cf) := HK.out.blk.cell 0
        have HF1 := Lib.hid HK.out.files
        have HI := Lib.hid HK.out.inb
        have hfb : F.length ≤ 16 := m3
        simp only [] at d0 HF1
        generalize hM : F.length = M at *
        have HM := Lib.hid hM
        clear hM m3 hend hF HQ1 hlt
        rcases hexit with ⟨hx1, hx2⟩ | ⟨hx1, hx2⟩
        · subst hx1
          go_wp2_with fail
          obtain ⟨W3, rfl⟩ : ∃ x, x = wr := ⟨_, rfl⟩
          go_loopw [5, 6] (fun o i wr => ∃ (j : Nat) (Ao : Option Addr) (co : Nat), j ≤ M ∧ i = .int .i64 j ∧ o = .slice Ao j co ∧ Hid (wr.ownsRow 0 66 3 (.slice Ao j co) j (flC (lastR (F.take j)))) ∧ Hid (∀ g, (Value.slice Ao j co).ownBlock = some g → W3.heap.size ≤ g) ∧ Hid (Tr (fun _ => False) W3 own2 own2 wr)) (fun _ i _ => M - (RowKit.intOf i).toNat)
          case atStart => exact ⟨0, none, 0, Nat.zero_le _, rfl, rfl, World.ownsRow_nil _ _ _ _, (fun g e => by cases e), Tr.refl _ HI.out⟩
          case round =>
            obtain ⟨j, Ao, co, hj, rfl, rfl, HOR, HFR, HTL⟩ := hrel
            have d0a : wr.cell? ⟨b, 0, none⟩ = some (.slice Af M cf) := HTL.out.cell (a := ⟨b, 0, none⟩) d0 (fun _ _ h => h)
            have HF2 := Lib.hid (HF1.out.keep HTL.out (fun h => h))
            by_cases hjM : j < M
            · obtain ⟨y, hy⟩ : ∃ y, F[j]? = some y := ⟨_, List.getElem?_eq_getElem (by rw [HM.out]; exact hjM)⟩
              obtain ⟨g, c', hv, _, _⟩ := own_some HF2.out.1 rfl (show 0 < M by omega)
              injection hv with hA2 _ hC
              subst hA2
              subst hC
              obtain ⟨q0, q1, q2⟩ := HF2.out.flCell hy
              have HN := Lib.hid (lastR_step hy)
              have hj0 : 0 ≤ (j : Int) := by omega
              have hj1 : (j : Int) < (M : Int) := by omega
              have HY := Lib.hid hy
              clear hy
              go_wp2_with fail
              have HT3 := Lib.hid (HTL.out.drew.alloc (.cells #[.int .i64 y.no, .string (bStr y.last), .string (bStr y.last)] 66))
              have HO3 := Lib.hid (own_below HOR.out ((Below.refl wr.heap.size wr).drew.alloc (Nat.le_refl _) (.cells #[.int .i64 y.no, .string (bStr y.last), .string (bStr y.last)] 66)) (fun g e => (HOR.out.lt g e).2))
              have hsz3 : W3.heap.size ≤ wr.heap.size := HTL.out.size
              have hjb : j ≤ 16 := by omega
              go_region_held3 (fun w' => w'.cell? ⟨b, 0, none⟩ = some (.slice (some ⟨g, 0, none⟩) M cf) ∧ w'.cell? ⟨g, j * 3, none⟩ = some (.int .i64 y.no) ∧ w'.cell? ⟨g, j * 3 + 2, none⟩ = some (.string (bStr y.last)))
                (first | exact ⟨k1, k2.1, k2.2.2⟩ | (go_split_ands; (refine ⟨?_, ?_, ?_⟩); (next => go_keep); (next => go_keep); (next => go_keep))) (first | (refine step_append_any _ rfl (.tmp 58) (.tmp 84) 57 rfl 0 66 i0 _ 3 40 Try.underlying57 hi hz0 hz1 hz2 rfl (by decide) (.slice Ao j co) j (flC (lastR (F.take j))) rfl (by exact HO3.out) (wr.heap.size + 1) (some ⟨wr.heap.size, 0, none⟩) 1 1 (flC [⟨y.no, y.last, y.last⟩]) rfl (fl_new wr ⟨y.no, y.last, y.last⟩) (flC_one _) (by unfold maxLen; omega) (by omega) (Nat.zero_le _) ?_; intro v' w' p1 p2 p3; obtain ⟨A5, c5, rfl, _, _⟩ := own_slice p1; have HT5 := Lib.hid (HT3.out.grown p2 (fun g e => .inl (HFR.out g e))); have k1 := HT5.out.cell (a := ⟨b, 0, none⟩) d0 (fun _ _ h => h); have k2 := (HF1.out.keep HT5.out (fun h => h)).flCell HY.out; have P1 := Lib.hid p1; have P3 := Lib.hid p3; clear p1 p2 p3))
              have HO5 : Hid (w'.ownsRow 0 66 3 (.slice A5 (j + 1) c5) (j + 1) (flC (lastR (F.take (j + 1))))) := by
                rw [HN.out, flC_app]
                exact P1.out
              have HFR5 : Hid (∀ g, (Value.slice A5 (j + 1) c5).ownBlock = some g → W3.heap.size ≤ g) := fun g e => by
                rcases P3.out with p3 | p3
                · exact HFR.out g (p3 ▸ e)
                · rw [p3] at e; cases e; simp; omega
              clear P1 P3 HO3 HT3 HN HFR HTL HOR HF2 q0 q1 q2 k1 k2 HY
              go_wp2_with fail
              go_roundw
              case rel => exact ⟨j + 1, A5, c5, by omega, by go_num, rfl, HO5, HFR5, HT5⟩
              case measure => simp [RowKit.intOf]; omega
            · obtain rfl : j = M := by omega
              have htk : F.take j = F := List.take_of_length_le (by rw [HM.out]; exact Nat.le_refl _)
              rw [htk] at HOR
              have hb5 := HTL.out.blk HK.out.blk (fun _ _ h => h)
              have f0 := hb5.frozen 0
              have f1 := hb5.frozen 1
              have d1a := hb5.cell 1
              have hlen : (lastR F).length = j := by unfold lastR; rw [List.length_map]; exact HM.out
              have hnew : ∀ g, (Value.slice Ao j co).ownBlock = some g → W3.heap.size ≤ g ∧ g < wr.heap.size := fun g e => ⟨HFR.out g e, (HOR.out.lt g e).2⟩
              have TG := HTL.out.giveV (v := .slice Ao j co) hnew 1
              have ob5 := TG.role HK.out.blk.lt HK.out.ob
              have S5 := ((Tr.refl (fun r => r = 0) TG.inb).setOwn (p := ⟨b, 0, none⟩) ob5 rfl (.slice Ao j co)).setOwn (p := ⟨b, 1, none⟩) ob5 rfl (.slice none 0 0)
              have HE : Hid (REnd2 w own b (crashedR s l) (.tuple #[]) (.returned (.tuple #[])) ((wr.setCell ⟨b, 0, none⟩ (.slice Ao j co)).setCell ⟨b, 1, none⟩ (.slice none 0 0))) := by
                refine ⟨rfl, _, .slice Ao j co, .slice none 0 0, kv, ⟨(hb5.set_ 0 (.slice Ao j co)).set_ 1 (.slice none 0 0), ob5, ?_, Row.nil _ _ _ _ _, ?_, S5.inb⟩, (HT.out.weak (fun _ _ => trivial)).trans ((TG.weak (fun _ _ => trivial)).trans (S5.weak (fun _ _ => trivial)))⟩
                · have hr : Row wr (giveV own2 (.slice Ao j co) 1) 1 66 3 (.slice Ao j co) (lastR F).length (flC (lastR F)) := by
                    rw [hlen]
                    exact ⟨HOR.out, fun g e => giveV_same e⟩
                  have h6 := hr.keep S5 (by decide)
                  unfold crashedR
                  rw [HFE.out]
                  exact h6
                · exact (HK.out.keep.keep TG (fun h => h)).keep S5 (by decide)
              clear TG ob5 S5 hb5 HTL HOR HF2 htk hlen hnew
              go_wp2_with fail
              go_end0
              exact HE.out
        · subst hx2
          go_wp2_with fail
          obtain ⟨W3, rfl⟩ : ∃ x, x = wr := ⟨_, rfl⟩
          go_loopw [5, 6] (fun o i wr => ∃ (j : Nat) (Ao : Option Addr) (co : Nat), j ≤ M ∧ i = .int .i64 j ∧ o = .slice Ao j co ∧ Hid (wr.ownsRow 0 66 3 (.slice Ao j co) j (flC (lastR (F.take j)))) ∧ Hid (∀ g, (Value.slice Ao j co).ownBlock = some g → W3.heap.size ≤ g) ∧ Hid (Tr (fun _ => False) W3 own2 own2 wr)) (fun _ i _ => M - (RowKit.intOf i).toNat)
          case atStart => exact ⟨0, none, 0, Nat.zero_le _, rfl, rfl, World.ownsRow_nil _ _ _ _, (fun g e => by cases e), Tr.refl _ HI.out⟩
          case round =>
            obtain ⟨j, Ao, co, hj, rfl, rfl, HOR, HFR, HTL⟩ := hrel
            have d0a : wr.cell? ⟨b, 0, none⟩ = some (.slice Af M cf) := HTL.out.cell (a := ⟨b, 0, none⟩) d0 (fun _ _ h => h)
            have HF2 := Lib.hid (HF1.out.keep HTL.out (fun h => h))
            by_cases hjM : j < M
            · obtain ⟨y, hy⟩ : ∃ y, F[j]? = some y := ⟨_, List.getElem?_eq_getElem (by rw [HM.out]; exact hjM)⟩
              obtain ⟨g, c', hv, _, _⟩ := own_some HF2.out.1 rfl (show 0 < M by omega)
              injection hv with hA2 _ hC
              subst hA2
              subst hC
              obtain ⟨q0, q1, q2⟩ := HF2.out.flCell hy
              have HN := Lib.hid (lastR_step hy)
              have hj0 : 0 ≤ (j : Int) := by omega
              have hj1 : (j : Int) < (M : Int) := by omega
              have HY := Lib.hid hy
              clear hy
              go_wp2_with fail
              have HT3 := Lib.hid (HTL.out.drew.alloc (.cells #[.int .i64 y.no, .string (bStr y.last), .string (bStr y.last)] 66))
              have HO3 := Lib.hid (own_below HOR.out ((Below.refl wr.heap.size wr).drew.alloc (Nat.le_refl _) (.cells #[.int .i64 y.no, .string (bStr y.last), .string (bStr y.last)] 66)) (fun g e => (HOR.out.lt g e).2))
              have hsz3 : W3.heap.size ≤ wr.heap.size := HTL.out.size
              have hjb : j ≤ 16 := by omega
              go_region_held3 (fun w' => w'.cell? ⟨b, 0, none⟩ = some (.slice (some ⟨g, 0, none⟩) M cf) ∧ w'.cell? ⟨g, j * 3, none⟩ = some (.int .i64 y.no) ∧ w'.cell? ⟨g, j * 3 + 2, none⟩ = some (.string (bStr y.last)))
                (first | exact ⟨k1, k2.1, k2.2.2⟩ | (go_split_ands; (refine ⟨?_, ?_, ?_⟩); (next => go_keep); (next => go_keep); (next => go_keep))) (first | (refine step_append_any _ rfl (.tmp 58) (.tmp 84) 57 rfl 0 66 i0 _ 3 40 Try.underlying57 hi hz0 hz1 hz2 rfl (by decide) (.slice Ao j co) j (flC (lastR (F.take j))) rfl (by exact HO3.out) (wr.heap.size + 1) (some ⟨wr.heap.size, 0, none⟩) 1 1 (flC [⟨y.no, y.last, y.last⟩]) rfl (fl_new wr ⟨y.no, y.last, y.last⟩) (flC_one _) (by unfold maxLen; omega) (by omega) (Nat.zero_le _) ?_; intro v' w' p1 p2 p3; obtain ⟨A5, c5, rfl, _, _⟩ := own_slice p1; have HT5 := Lib.hid (HT3.out.grown p2 (fun g e => .inl (HFR.out g e))); have k1 := HT5.out.cell (a := ⟨b, 0, none⟩) d0 (fun _ _ h => h); have k2 := (HF1.out.keep HT5.out (fun h => h)).flCell HY.out; have P1 := Lib.hid p1; have P3 := Lib.hid p3; clear p1 p2 p3))
              have HO5 : Hid (w'.ownsRow 0 66 3 (.slice A5 (j + 1) c5) (j + 1) (flC (lastR (F.take (j + 1))))) := by
                rw [HN.out, flC_app]
                exact P1.out
              have HFR5 : Hid (∀ g, (Value.slice A5 (j + 1) c5).ownBlock = some g → W3.heap.size ≤ g) := fun g e => by
                rcases P3.out with p3 | p3
                · exact HFR.out g (p3 ▸ e)
                · rw [p3] at e; cases e; simp; omega
              clear P1 P3 HO3 HT3 HN HFR HTL HOR HF2 q0 q1 q2 k1 k2 HY
              go_wp2_with fail
              go_roundw
              case rel => exact ⟨j + 1, A5, c5, by omega, by go_num, rfl, HO5, HFR5, HT5⟩
              case measure => simp [RowKit.intOf]; omega
            · obtain rfl : j = M := by omega
              have htk : F.take j = F := List.take_of_length_le (by rw [HM.out]; exact Nat.le_refl _)
              rw [htk] at HOR
              have hb5 := HTL.out.blk HK.out.blk (fun _ _ h => h)
              have f0 := hb5.frozen 0
              have f1 := hb5.frozen 1
              have d1a := hb5.cell 1
              have hlen : (lastR F).length = j := by unfold lastR; rw [List.length_map]; exact HM.out
              have hnew : ∀ g, (Value.slice Ao j co).ownBlock = some g → W3.heap.size ≤ g ∧ g < wr.heap.size := fun g e => ⟨HFR.out g e, (HOR.out.lt g e).2⟩
              have TG := HTL.out.giveV (v := .slice Ao j co) hnew 1
              have ob5 := TG.role HK.out.blk.lt HK.out.ob
              have S5 := ((Tr.refl (fun r => r = 0) TG.inb).setOwn (p := ⟨b, 0, none⟩) ob5 rfl (.slice Ao j co)).setOwn (p := ⟨b, 1, none⟩) ob5 rfl (.slice none 0 0)
              have HE : Hid (REnd2 w own b (crashedR s l) (.tuple #[]) (.returned (.tuple #[])) ((wr.setCell ⟨b, 0, none⟩ (.slice Ao j co)).setCell ⟨b, 1, none⟩ (.slice none 0 0))) := by
                refine ⟨rfl, _, .slice Ao j co, .slice none 0 0, kv, ⟨(hb5.set_ 0 (.slice Ao j co)).set_ 1 (.slice none 0 0), ob5, ?_, Row.nil _ _ _ _ _, ?_, S5.inb⟩, (HT.out.weak (fun _ _ => trivial)).trans ((TG.weak (fun _ _ => trivial)).trans (S5.weak (fun _ _ => trivial)))⟩
                · have hr : Row wr (giveV own2 (.slice Ao j co) 1) 1 66 3 (.slice Ao j co) (lastR F).length (flC (lastR F)) := by
                    rw [hlen]
                    exact ⟨HOR.out, fun g e => giveV_same e⟩
                  have h6 := hr.keep S5 (by decide)
                  unfold crashedR
                  rw [HFE.out]
                  exact h6
                · exact (HK.out.keep.keep TG (fun h => h)).keep S5 (by decide)
              clear TG ob5 S5 hb5 HTL HOR HF2 htk hlen hnew
              go_wp2_with fail
              go_end0
              exact HE.out

end Go.Proofs.Ytnnakclmeihonaa

/- The walks of the reference's comes, Write, Sync, Truncate. Conditions: the state is that of a disk; sizes. -/
namespace Go.Proofs.Ytnnakclmeihonaa
open Go.RowKit Go.ChangeMaps

/-- What the walks ask of a state. -/
structure Rok (s : Rs) : Prop where
  len : s.files.length ≤ 16
  queue : s.queue.length ≤ 4194304
  now : ∀ f, (getR s.files f).now.length ≤ 16777216
theorem Sim.rok {S : Ds} {s : Rs} (h : Sim S s) (ho : Ok S) : Rok s := ⟨h.len, by rw [h.queue]; exact pend_len ho, fun f => by rw [h.now]; exact ho.size f⟩
theorem Sim.comesAny {S : Ds} {s : Rs} (h : Sim S s) (ho : Ok S) (f a : Int) (t : List UInt8) : ∃ S', Sim S' (comesR s f a t) ∧ Ok S' := by
  unfold comesR
  by_cases hd : s.down = true
  · rw [if_pos hd]; exact ⟨S, h, ho⟩
  · rw [if_neg hd]
    by_cases h0 : s.armed = 0
    · rw [if_pos h0]; exact ⟨S, h, ho⟩
    · rw [if_neg h0]
      have h0' : S.left ≠ 0 := by rw [← h.armed]; exact h0
      have hl := ho.left
      have ha := h.armed
      by_cases h1 : 0 < s.armed - 1
      · rw [if_pos h1]
        exact ⟨_, h.tick (s.armed - 1) (fun _ => h0'), ho.set S.down ho.lost (by omega) ho.keep⟩
      · rw [if_neg h1]
        have h2 := h.tick (s.armed - 1) (fun _ => h0')
        have ho2 : Ok { S with left := s.armed - 1 } := ho.set S.down ho.lost (by omega) ho.keep
        exact ⟨_, (h2.writeS f a t).crashed (ho2.writeS f a t) s.keep, (ho2.writeS f a t).crashed _⟩
theorem Rk.keepReads {w : World} {own : Nat → Option Nat} {b : Nat} {fv qv kv : Value} {s : Rs} (h : Rk w own b fv qv kv s) : ∃ A c, kv = .slice A s.keep.length c ∧ Reads w w.heap.size 1 A s.keep.length (inV s.keep) ∧ (0 < s.keep.length → ∀ ad, A = some ad → own ad.block ≠ some 0) := by
  obtain ⟨A, c, rfl, hr⟩ := h.keep.reads
  refine ⟨A, c, rfl, hr, fun hp ad e => ?_⟩
  subst e
  obtain ⟨g, c', hv, _, _⟩ := own_some h.keep.1 rfl hp
  injection hv with hA _ _
  injection hA with hA
  subst hA
  rw [h.keep.2 g rfl]
  decide
theorem REnd2.then {w w1 w2 : World} {own own1 : Nat → Option Nat} {b : Nat} {s : Rs} {v : Value} {e : Ending} (t : Tr (fun _ => True) w own own1 w1) (h : REnd2 w1 own1 b s v e w2) : REnd2 w own b s v e w2 := by
  obtain ⟨rfl, own', fv, qv, kv, h1, t2⟩ := h
  exact ⟨rfl, own', fv, qv, kv, h1, t.trans t2⟩

set_option maxRecDepth 4000 in
set_option maxHeartbeats 2000000 in
theorem r_comes (w : World) (own : Nat → Option Nat) (b : Nat) (fv qv kv : Value) (S : Ds) (s : Rs) (f a : Int) (t : ByteArray) (ht : t.size ≤ 16777216) (h : Rk w own b fv qv kv s) (hs : Sim S s) (ho : Ok S) :
    Calls Try.prog 53 #[.pointer (some ⟨b, 0, none⟩), .int .i64 f, .int .i64 a, .string t] w (REnd2 w own b (comesR s f a t.data.toList) (.tuple #[])) := by
  have c3 := h.blk.cell 3
  have c4 := h.blk.cell 4
  have f4 := h.blk.frozen 4
  have hrefl : REnd2 w own b s (.tuple #[]) (.returned (.tuple #[])) w := ⟨rfl, own, fv, qv, kv, h, Tr.refl _ h.inb⟩
  by_cases hd : s.down = true
  · have e : comesR s f a t.data.toList = s := by unfold comesR; rw [if_pos hd]
    rw [e]
    rw [hd] at c3
    have HE := Lib.hid hrefl
    clear e h hs ho hrefl
    go_enter Try.func53, Try.ntmps53
    go_wp2_with fail
    go_end0
    exact HE.out
  · have hdf : s.down = false := by simpa using hd
    rw [hdf] at c3
    by_cases h0 : s.armed = 0
    · have e : comesR s f a t.data.toList = s := by unfold comesR; rw [if_neg hd, if_pos h0]
      rw [e]
      rw [h0] at c4
      have HE := Lib.hid hrefl
      clear e h hs ho hrefl
      go_enter Try.func53, Try.ntmps53
      go_wp2_with fail
      go_end0
      exact HE.out
    · have hlf := ho.left
      have har := hs.armed
      have hbe : (s.armed == 0) = false := by simpa using h0
      have hb1 : (0 : Int) ≤ s.armed := by omega
      have hb2 : s.armed ≤ 9223372036854775807 := by omega
      have t1 := h.set0 4 (.int .i64 (s.armed - 1))
      have hk1 := h.struct t1 s.lost (s.armed - 1) false (hdf ▸ h.blk.set_ 4 (.int .i64 (s.armed - 1)))
      have ek1 : ({ s with lost := s.lost, armed := s.armed - 1, down := false } : Rs) = { s with armed := s.armed - 1 } := by rw [← hdf]
      rw [ek1] at hk1
      have hL0 : S.left ≠ 0 := by rw [← har]; exact h0
      have hs1 := hs.tick (s.armed - 1) (fun _ => hL0)
      have ho1 : Ok { S with left := s.armed - 1 } := ho.set S.down ho.lost (by omega) ho.keep
      have HT1 := Lib.hid t1
      clear hrefl ek1 t1 har hlf
      by_cases h1 : 0 < s.armed - 1
      · have e : comesR s f a t.data.toList = { s with armed := s.armed - 1 } := by unfold comesR; rw [if_neg hd, if_neg h0, if_pos h1]
        rw [e]
        have HE : Hid (REnd2 w own b { s with armed := s.armed - 1 } (.tuple #[]) (.returned (.tuple #[])) (w.setCell ⟨b, 4, none⟩ (.int .i64 (s.armed - 1)))) := ⟨rfl, own, fv, qv, kv, hk1, HT1.out.weak (fun _ _ => trivial)⟩
        clear e h hs ho hk1 hs1 ho1
        go_enter Try.func53, Try.ntmps53
        go_wp2_with fail
        go_end0
        exact HE.out
      · have e : comesR s f a t.data.toList = crashedR (if isF f = true ∧ fitsP a t.data.toList.length = true then addR { s with armed := s.armed - 1 } f a.toNat t.data.toList else { s with armed := s.armed - 1 }) s.keep := by unfold comesR; rw [if_neg hd, if_neg h0, if_neg h1]
        rw [e]
        have e4 : (w.setCell ⟨b, 4, none⟩ (.int .i64 (s.armed - 1))).cell? ⟨b, 4, none⟩ = some (.int .i64 (s.armed - 1)) := hk1.blk.cell 4
        obtain ⟨A5, c5, rfl, hr5, ho5⟩ := hk1.keepReads
        have e5 : (w.setCell ⟨b, 4, none⟩ (.int .i64 (s.armed - 1))).cell? ⟨b, 5, none⟩ = some (.slice A5 s.keep.length c5) := hk1.blk.cell 5
        have hkl : s.keep.length ≤ 1000000 := by rw [hs.keep hL0]; exact ho.keep
        have hcr : ∀ q : Rs, q.down = false → crashR q s.keep = crashedR q s.keep := fun q hq => by unfold crashR; rw [if_neg (by rw [hq]; decide)]
        have HK1 := Lib.hid hk1
        have HF := Lib.hid (fun W => r_fits a t W ht)
        have HC0 := Lib.hid (r_crash _ own b fv qv _ { S with left := s.armed - 1 } { s with armed := s.armed - 1 } A5 s.keep.length c5 s.keep hk1 hs1 ho1 hr5 ho5 hkl)
        rw [hcr { s with armed := s.armed - 1 } hdf] at HC0
        have hts : t.data.toList.length = t.size := rfl
        rw [hts]
        by_cases hf0 : 0 ≤ f
        · by_cases hf1 : f ≤ 15
          · have hff : isF f = true := isF_iff.2 (by omega)
            cases hfi : fitsP a t.size with
            | false =>
              rw [if_neg (by simp)]
              rw [hfi] at HF
              clear e h hs ho hk1 hs1 ho1 hr5 ho5 hcr HK1 hff
              go_enter Try.func53, Try.ntmps53
              go_wp2_with fail
              refine (HF.out _).mono ?_
              rintro e w1 ⟨rfl, rfl⟩
              go_wp2_with fail
              refine HC0.out.mono ?_
              intro e w2 he
              obtain ⟨rfl, own2, fv2, qv2, kv2, hk2, t2⟩ := REnd2.then (HT1.out.weak (fun _ _ => trivial)) he
              have HE : Hid (REnd2 w own b (crashedR { s with armed := s.armed - 1 } s.keep) (.tuple #[]) (.returned (.tuple #[])) w2) := ⟨rfl, own2, fv2, qv2, kv2, hk2, t2⟩
              clear he hk2 t2 HC0 HT1
              go_wp2_with fail
              go_end0
              exact HE.out
            | true =>
              rw [if_pos ⟨hff, rfl⟩]
              rw [hfi] at HF
              have ha : 0 ≤ a ∧ a + t.size ≤ 16777216 := by unfold fitsP at hfi; simp at hfi; omega
              obtain ⟨n, rfl⟩ := Int.eq_ofNat_of_zero_le ha.1
              rw [Int.toNat_natCast]
              have hro := hs1.rok ho1
              have HA := Lib.hid (r_add _ own b fv qv _ { s with armed := s.armed - 1 } f n t hk1 (by have := hro.len; omega) (by have := hro.queue; omega) (hro.now f) (by omega))
              have hs3 := hs1.add hff n t.data.toList
              have ho3 : Ok (stored { S with left := s.armed - 1 } f n t.data.toList) := ho1.stored (isF_iff.1 hff).1 (isF_iff.1 hff).2 (by rw [hts]; omega)
              have hadd : (addR { s with armed := s.armed - 1 } f n t.data.toList).keep = s.keep ∧ (addR { s with armed := s.armed - 1 } f n t.data.toList).down = false := by
                unfold addR
                split
                · exact ⟨rfl, hdf⟩
                · exact ⟨rfl, hdf⟩
              have HS3 := Lib.hid (And.intro hs3 ho3)
              have HAD := Lib.hid hadd
              have hcd := hcr _ hadd.2
              have HCD := Lib.hid hcd
              clear e h hs ho hk1 hs1 ho1 hr5 ho5 hcr HK1 hff hs3 ho3 hadd hcd HC0 e5 hro
              generalize addR { s with armed := s.armed - 1 } f n t.data.toList = q at *
              go_enter Try.func53, Try.ntmps53
              go_wp2_with fail
              refine (HF.out _).mono ?_
              rintro e w1 ⟨rfl, rfl⟩
              go_wp2_with fail
              refine HA.out.mono ?_
              rintro e w2 ⟨rfl, own2, fv2, qv2, kv2, hk2, t2⟩
              obtain ⟨A6, c6, rfl, hr6, ho6⟩ := hk2.keepReads
              have g5 : w2.cell? ⟨b, 5, none⟩ = some (.slice A6 q.keep.length c6) := hk2.blk.cell 5
              have HC := Lib.hid (r_crash w2 own2 b fv2 qv2 _ _ q A6 q.keep.length c6 q.keep hk2 HS3.out.1 HS3.out.2 hr6 ho6 (by rw [HAD.out.1]; exact hkl))
              have HT2 := Lib.hid ((HT1.out.weak (fun _ _ => trivial) : Tr (fun _ => True) w own own _).trans t2)
              clear hk2 t2 hr6 ho6 HA
              go_wp2_with fail
              refine HC.out.mono ?_
              intro e w3 he
              obtain ⟨rfl, own3, fv3, qv3, kv3, hk3, t3⟩ := REnd2.then HT2.out he
              rw [HAD.out.1, HCD.out] at hk3
              have HE : Hid (REnd2 w own b (crashedR q s.keep) (.tuple #[]) (.returned (.tuple #[])) w3) := ⟨rfl, own3, fv3, qv3, kv3, hk3, t3⟩
              clear he hk3 t3 HC HT1 HT2
              go_wp2_with fail
              go_end0
              exact HE.out
          · rw [if_neg (fun e => hf1 (by have := (isF_iff.1 e.1).2; omega))]
            clear e h hs ho hk1 hs1 ho1 hr5 ho5 hcr HK1 HF
            go_enter Try.func53, Try.ntmps53
            go_wp2_with fail
            refine HC0.out.mono ?_
            intro e w2 he
            obtain ⟨rfl, own2, fv2, qv2, kv2, hk2, t2⟩ := REnd2.then (HT1.out.weak (fun _ _ => trivial)) he
            have HE : Hid (REnd2 w own b (crashedR { s with armed := s.armed - 1 } s.keep) (.tuple #[]) (.returned (.tuple #[])) w2) := ⟨rfl, own2, fv2, qv2, kv2, hk2, t2⟩
            clear he hk2 t2 HC0 HT1
            go_wp2_with fail
            go_end0
            exact HE.out
        · rw [if_neg (fun e => hf0 (isF_iff.1 e.1).1)]
          clear e h hs ho hk1 hs1 ho1 hr5 ho5 hcr HK1 HF
          go_enter Try.func53, Try.ntmps53
          go_wp2_with fail
          refine HC0.out.mono ?_
          intro e w2 he
          obtain ⟨rfl, own2, fv2, qv2, kv2, hk2, t2⟩ := REnd2.then (HT1.out.weak (fun _ _ => trivial)) he
          have HE : Hid (REnd2 w own b (crashedR { s with armed := s.armed - 1 } s.keep) (.tuple #[]) (.returned (.tuple #[])) w2) := ⟨rfl, own2, fv2, qv2, kv2, hk2, t2⟩
          clear he hk2 t2 HC0 HT1
          go_wp2_with fail
          go_end0
          exact HE.out

end Go.Proofs.Ytnnakclmeihonaa

/- The walks of the reference's Write, Sync, Truncate. Conditions: the state is that of a disk; sizes. -/
namespace Go.Proofs.Ytnnakclmeihonaa
open Go.RowKit Go.ChangeMaps

theorem mayR_num (s : Rs) (f : Int) : mayR s f = 8 ∨ mayR s f = 1 ∨ (mayR s f = 0 ∧ isF f = true) := by
  unfold mayR
  split
  · exact .inl rfl
  · cases hf : isF f with
    | false => exact .inr (.inl rfl)
    | true => exact .inr (.inr ⟨rfl, rfl⟩)
theorem r_mayN {w : World} {own : Nat → Option Nat} {b : Nat} {fv qv kv : Value} {s : Rs} {f m : Int} (h : Rk w own b fv qv kv s) (hm : mayR s f = m) : Calls Try.prog 48 #[.pointer (some ⟨b, 0, none⟩), .int .i64 f] w fun e w' => e = .returned (.int .i64 m) ∧ w = w' := by
  subst hm
  exact r_may w own b fv qv kv s f h
theorem REnd2.num {w w1 : World} {own : Nat → Option Nat} {b : Nat} {s : Rs} {v : Value} {own1 : Nat → Option Nat} {fv qv kv : Value} (h : Rk w1 own1 b fv qv kv s) (t : Tr (fun _ => True) w own own1 w1) : REnd2 w own b s v (.returned v) w1 := ⟨rfl, own1, fv, qv, kv, h, t⟩

set_option maxRecDepth 4000 in
set_option maxHeartbeats 2000000 in
theorem r_write (w : World) (own : Nat → Option Nat) (b : Nat) (fv qv kv : Value) (S : Ds) (s : Rs) (f a : Int) (t : ByteArray) (ht : t.size ≤ 16777216) (h : Rk w own b fv qv kv s) (hs : Sim S s) (ho : Ok S) :
    Calls Try.prog 38 #[.pointer (some ⟨b, 0, none⟩), .int .i64 f, .int .i64 a, .string t] w (REnd2 w own b (writeR s f a t.data.toList).1 (.int .i64 (writeR s f a t.data.toList).2)) := by
  have HC := Lib.hid (r_comes w own b fv qv kv S s f a t ht h hs ho)
  obtain ⟨S', hs', ho'⟩ := hs.comesAny ho f a t.data.toList
  have HRO := Lib.hid (hs'.rok ho')
  have HF := Lib.hid (fun W => r_fits a t W ht)
  have hts : t.data.toList.length = t.size := rfl
  unfold writeR
  rw [hts]
  clear h hs ho hs' ho'
  generalize comesR s f a t.data.toList = q at *
  rcases mayR_num q f with hm | hm | ⟨hm, hf⟩
  · rw [hm, if_pos (show (8 : Int) ≠ 0 by decide)]
    have HMN := Lib.hid hm
    clear hm
    go_enter Try.func38, Try.ntmps38
    go_wp2_with fail
    refine HC.out.mono ?_
    rintro e w1 ⟨rfl, own1, fv1, qv1, kv1, hk1, t1⟩
    have HM := Lib.hid (r_mayN hk1 HMN.out)
    have HE : Hid (REnd2 w own b q (.int .i64 8) (.returned (.int .i64 8)) w1) := .num hk1 t1
    clear hk1 t1 HC
    go_wp2_with fail
    refine HM.out.mono ?_
    rintro e w2 ⟨rfl, rfl⟩
    go_wp2_with fail
    go_ret
    exact HE.out
  · rw [hm, if_pos (show (1 : Int) ≠ 0 by decide)]
    have HMN := Lib.hid hm
    clear hm
    go_enter Try.func38, Try.ntmps38
    go_wp2_with fail
    refine HC.out.mono ?_
    rintro e w1 ⟨rfl, own1, fv1, qv1, kv1, hk1, t1⟩
    have HM := Lib.hid (r_mayN hk1 HMN.out)
    have HE : Hid (REnd2 w own b q (.int .i64 1) (.returned (.int .i64 1)) w1) := .num hk1 t1
    clear hk1 t1 HC
    go_wp2_with fail
    refine HM.out.mono ?_
    rintro e w2 ⟨rfl, rfl⟩
    go_wp2_with fail
    go_ret
    exact HE.out
  · rw [hm, if_neg (show ¬ (0 : Int) ≠ 0 by decide)]
    have HMN := Lib.hid hm
    clear hm
    by_cases ha : a < 0
    · rw [if_pos ha]
      clear HF
      go_enter Try.func38, Try.ntmps38
      go_wp2_with fail
      refine HC.out.mono ?_
      rintro e w1 ⟨rfl, own1, fv1, qv1, kv1, hk1, t1⟩
      have HM := Lib.hid (r_mayN hk1 HMN.out)
      have HE : Hid (REnd2 w own b q (.int .i64 1) (.returned (.int .i64 1)) w1) := .num hk1 t1
      clear hk1 t1 HC
      go_wp2_with fail
      refine HM.out.mono ?_
      rintro e w2 ⟨rfl, rfl⟩
      go_wp2_with fail
      go_ret
      exact HE.out
    · rw [if_neg ha]
      cases hfi : fitsP a t.size with
      | false =>
        rw [if_pos rfl]
        rw [hfi] at HF
        go_enter Try.func38, Try.ntmps38
        go_wp2_with fail
        refine HC.out.mono ?_
        rintro e w1 ⟨rfl, own1, fv1, qv1, kv1, hk1, t1⟩
        have HM := Lib.hid (r_mayN hk1 HMN.out)
        have HE : Hid (REnd2 w own b q (.int .i64 6) (.returned (.int .i64 6)) w1) := .num hk1 t1
        clear hk1 t1 HC
        go_wp2_with fail
        refine HM.out.mono ?_
        rintro e w2 ⟨rfl, rfl⟩
        go_wp2_with fail
        refine (HF.out _).mono ?_
        rintro e w2 ⟨rfl, rfl⟩
        go_wp2_with fail
        go_ret
        exact HE.out
      | true =>
        rw [if_neg (by decide)]
        rw [hfi] at HF
        have hb : 0 ≤ a ∧ a + t.size ≤ 16777216 := by unfold fitsP at hfi; simp at hfi; omega
        obtain ⟨n, rfl⟩ := Int.eq_ofNat_of_zero_le hb.1
        rw [Int.toNat_natCast]
        go_enter Try.func38, Try.ntmps38
        go_wp2_with fail
        refine HC.out.mono ?_
        rintro e w1 ⟨rfl, own1, fv1, qv1, kv1, hk1, t1⟩
        have HM := Lib.hid (r_mayN hk1 HMN.out)
        have HA := Lib.hid (r_add w1 own1 b fv1 qv1 kv1 q f n t hk1 (by have := HRO.out.len; omega) (by have := HRO.out.queue; omega) (HRO.out.now f) (by omega))
        have HT1 := Lib.hid t1
        clear hk1 t1 HC
        go_wp2_with fail
        refine HM.out.mono ?_
        rintro e w2 ⟨rfl, rfl⟩
        go_wp2_with fail
        refine (HF.out _).mono ?_
        rintro e w2 ⟨rfl, rfl⟩
        go_wp2_with fail
        refine HA.out.mono ?_
        rintro e w3 ⟨rfl, own3, fv3, qv3, kv3, hk3, t3⟩
        have HE : Hid (REnd2 w own b (addR q f n t.data.toList) (.int .i64 0) (.returned (.int .i64 0)) w3) := .num hk3 (HT1.out.trans t3)
        clear hk3 t3 HA HT1 HM
        go_wp2_with fail
        go_ret
        exact HE.out

set_option maxRecDepth 4000 in
set_option maxHeartbeats 2000000 in
theorem r_sync (w : World) (own : Nat → Option Nat) (b : Nat) (fv qv kv : Value) (S : Ds) (s : Rs) (f : Int) (h : Rk w own b fv qv kv s) (hs : Sim S s) (ho : Ok S) :
    Calls Try.prog 32 #[.pointer (some ⟨b, 0, none⟩), .int .i64 f] w (REnd2 w own b (syncR s f).1 (.int .i64 (syncR s f).2)) := by
  have HC := Lib.hid (r_comes w own b fv qv kv S s 0 0 ⟨#[]⟩ (by decide) h hs ho)
  obtain ⟨S', hs', ho'⟩ := hs.comesAny ho 0 0 []
  have HRO := Lib.hid (hs'.rok ho')
  have hlo := ho'.lost
  rw [← hs'.lost] at hlo
  unfold syncR
  clear h hs ho hs' ho'
  have HC2 : Hid (Calls Try.prog 53 #[.pointer (some ⟨b, 0, none⟩), .int .i64 0, .int .i64 0, .string ⟨#[]⟩] w (REnd2 w own b (comesR s 0 0 []) (.tuple #[]))) := HC.out
  clear HC
  generalize comesR s 0 0 [] = q at *
  rcases mayR_num q f with hm | hm | ⟨hm, hf⟩
  · rw [hm, if_pos (show (8 : Int) ≠ 0 by decide)]
    have HMN := Lib.hid hm
    clear hm
    go_enter Try.func32, Try.ntmps32
    go_wp2_with fail
    refine HC2.out.mono ?_
    rintro e w1 ⟨rfl, own1, fv1, qv1, kv1, hk1, t1⟩
    have HM := Lib.hid (r_mayN hk1 HMN.out)
    have HE : Hid (REnd2 w own b q (.int .i64 8) (.returned (.int .i64 8)) w1) := .num hk1 t1
    clear hk1 t1 HC2
    go_wp2_with fail
    refine HM.out.mono ?_
    rintro e w2 ⟨rfl, rfl⟩
    go_wp2_with fail
    go_ret
    exact HE.out
  · rw [hm, if_pos (show (1 : Int) ≠ 0 by decide)]
    have HMN := Lib.hid hm
    clear hm
    go_enter Try.func32, Try.ntmps32
    go_wp2_with fail
    refine HC2.out.mono ?_
    rintro e w1 ⟨rfl, own1, fv1, qv1, kv1, hk1, t1⟩
    have HM := Lib.hid (r_mayN hk1 HMN.out)
    have HE : Hid (REnd2 w own b q (.int .i64 1) (.returned (.int .i64 1)) w1) := .num hk1 t1
    clear hk1 t1 HC2
    go_wp2_with fail
    refine HM.out.mono ?_
    rintro e w2 ⟨rfl, rfl⟩
    go_wp2_with fail
    go_ret
    exact HE.out
  · rw [hm, if_neg (show ¬ (0 : Int) ≠ 0 by decide)]
    have HMN := Lib.hid hm
    clear hm
    obtain ⟨hl1, hl2⟩ := hlo
    by_cases hz : 0 < q.lost
    · rw [if_pos hz]
      go_enter Try.func32, Try.ntmps32
      go_wp2_with fail
      refine HC2.out.mono ?_
      rintro e w1 ⟨rfl, own1, fv1, qv1, kv1, hk1, t1⟩
      have HM := Lib.hid (r_mayN hk1 HMN.out)
      have c2 : w1.cell? ⟨b, 2, none⟩ = some (.int .i64 q.lost) := hk1.blk.cell 2
      have f2 := hk1.blk.frozen 2
      have t2 := hk1.set0 2 (.int .i64 (q.lost - 1))
      have HE : Hid (REnd2 w own b { q with lost := q.lost - 1 } (.int .i64 9) (.returned (.int .i64 9)) (w1.setCell ⟨b, 2, none⟩ (.int .i64 (q.lost - 1)))) := .num (hk1.struct t2 (q.lost - 1) q.armed q.down (hk1.blk.set_ 2 (.int .i64 (q.lost - 1)))) (t1.trans (t2.weak (fun _ _ => trivial)))
      clear hk1 t1 t2 HC2
      go_wp2_with fail
      refine HM.out.mono ?_
      rintro e w2 ⟨rfl, rfl⟩
      go_wp2_with fail
      go_ret
      exact HE.out
    · rw [if_neg hz]
      go_enter Try.func32, Try.ntmps32
      go_wp2_with fail
      refine HC2.out.mono ?_
      rintro e w1 ⟨rfl, own1, fv1, qv1, kv1, hk1, t1⟩
      have HM := Lib.hid (r_mayN hk1 HMN.out)
      have c2 : w1.cell? ⟨b, 2, none⟩ = some (.int .i64 q.lost) := hk1.blk.cell 2
      have HG := Lib.hid (r_get w1 own1 b fv1 qv1 kv1 q f hk1 (by have := HRO.out.len; omega))
      have hq : ∀ (w : World) (a b c : Value), (Instr.field 66 (.agg #[a, b, c]) 1).run Try.prog w = .ok b w := fun w a b c => by kernel_rfl
      have HK1 := Lib.hid hk1
      have HT1 := Lib.hid t1
      clear hk1 t1 HC2
      generalize getR q.files f = x at *
      unfold flV at HG
      go_wp2_with fail
      refine HM.out.mono ?_
      rintro e w2 ⟨rfl, rfl⟩
      go_wp2_with fail
      refine HG.out.mono ?_
      rintro e w2 ⟨rfl, b2⟩
      have t2 := Tr.of_below (fun _ => False) HK1.out.inb b2
      have HS := Lib.hid (r_settle w2 own1 b fv1 qv1 kv1 q f x.now (HK1.out.far t2) (by have := HRO.out.len; omega) (by have := HRO.out.queue; omega))
      have HT2 := Lib.hid (HT1.out.trans (t2.weak (fun _ h => h.elim)))
      clear t2 b2 HG HM c2
      go_wp2_with fail
      refine HS.out.mono ?_
      rintro e w3 ⟨rfl, own3, fv3, qv3, kv3, hk3, t3⟩
      have HE : Hid (REnd2 w own b (settleR q f x.now) (.int .i64 0) (.returned (.int .i64 0)) w3) := .num hk3 (HT2.out.trans t3)
      clear hk3 t3 HS HT2
      go_wp2_with fail
      go_ret
      exact HE.out

set_option maxRecDepth 4000 in
set_option maxHeartbeats 2000000 in
theorem r_trunc (w : World) (own : Nat → Option Nat) (b : Nat) (fv qv kv : Value) (S : Ds) (s : Rs) (f n : Int) (h : Rk w own b fv qv kv s) (hs : Sim S s) (ho : Ok S) :
    Calls Try.prog 33 #[.pointer (some ⟨b, 0, none⟩), .int .i64 f, .int .i64 n] w (REnd2 w own b (truncR s f n).1 (.int .i64 (truncR s f n).2)) := by
  have HC := Lib.hid (r_comes w own b fv qv kv S s 0 0 ⟨#[]⟩ (by decide) h hs ho)
  obtain ⟨S', hs', ho'⟩ := hs.comesAny ho 0 0 []
  have HRO := Lib.hid (hs'.rok ho')
  unfold truncR
  clear h hs ho hs' ho'
  have HC2 : Hid (Calls Try.prog 53 #[.pointer (some ⟨b, 0, none⟩), .int .i64 0, .int .i64 0, .string ⟨#[]⟩] w (REnd2 w own b (comesR s 0 0 []) (.tuple #[]))) := HC.out
  clear HC
  generalize comesR s 0 0 [] = q at *
  rcases mayR_num q f with hm | hm | ⟨hm, hf⟩
  · rw [hm, if_pos (show (8 : Int) ≠ 0 by decide)]
    have HMN := Lib.hid hm
    clear hm
    go_enter Try.func33, Try.ntmps33
    go_wp2_with fail
    refine HC2.out.mono ?_
    rintro e w1 ⟨rfl, own1, fv1, qv1, kv1, hk1, t1⟩
    have HM := Lib.hid (r_mayN hk1 HMN.out)
    have HE : Hid (REnd2 w own b q (.int .i64 8) (.returned (.int .i64 8)) w1) := .num hk1 t1
    clear hk1 t1 HC2
    go_wp2_with fail
    refine HM.out.mono ?_
    rintro e w2 ⟨rfl, rfl⟩
    go_wp2_with fail
    go_ret
    exact HE.out
  · rw [hm, if_pos (show (1 : Int) ≠ 0 by decide)]
    have HMN := Lib.hid hm
    clear hm
    go_enter Try.func33, Try.ntmps33
    go_wp2_with fail
    refine HC2.out.mono ?_
    rintro e w1 ⟨rfl, own1, fv1, qv1, kv1, hk1, t1⟩
    have HM := Lib.hid (r_mayN hk1 HMN.out)
    have HE : Hid (REnd2 w own b q (.int .i64 1) (.returned (.int .i64 1)) w1) := .num hk1 t1
    clear hk1 t1 HC2
    go_wp2_with fail
    refine HM.out.mono ?_
    rintro e w2 ⟨rfl, rfl⟩
    go_wp2_with fail
    go_ret
    exact HE.out
  · rw [hm, if_neg (show ¬ (0 : Int) ≠ 0 by decide)]
    have HMN := Lib.hid hm
    clear hm
    have hzz := HRO.out.now f
    obtain ⟨x, hx⟩ : ∃ x, getR q.files f = x := ⟨_, rfl⟩
    rw [hx] at hzz ⊢
    have hq : ∀ (w : World) (a b c : Value), (Instr.field 66 (.agg #[a, b, c]) 1).run Try.prog w = .ok b w := fun w a b c => by kernel_rfl
    obtain ⟨xno, D, U⟩ := x
    simp only [] at hzz ⊢
    have q1 := bStr_size D
    have HX := Lib.hid hx
    clear hx
    by_cases hn : n < 0
    · rw [if_pos (.inl hn)]
      go_enter Try.func33, Try.ntmps33
      go_wp2_with fail
      refine HC2.out.mono ?_
      rintro e w1 ⟨rfl, own1, fv1, qv1, kv1, hk1, t1⟩
      have HM := Lib.hid (r_mayN hk1 HMN.out)
      have HG := Lib.hid (r_get w1 own1 b fv1 qv1 kv1 q f hk1 (by have := HRO.out.len; omega))
      have HK1 := Lib.hid hk1
      have HT1 := Lib.hid t1
      clear hk1 t1 HC2
      rw [HX.out] at HG
      unfold flV at HG
      go_wp2_with fail
      refine HM.out.mono ?_
      rintro e w2 ⟨rfl, rfl⟩
      go_wp2_with fail
      refine HG.out.mono ?_
      rintro e w2 ⟨rfl, b2⟩
      have t2 := Tr.of_below (fun _ => False) HK1.out.inb b2
      have HE : Hid (REnd2 w own b q (.int .i64 1) (.returned (.int .i64 1)) w2) := .num (HK1.out.far t2) (HT1.out.trans (t2.weak (fun _ h => h.elim)))
      clear t2 b2 HG HM HK1 HT1
      go_wp2_with fail
      go_ret
      exact HE.out
    · by_cases hl : (D.length : Int) < n
      · rw [if_pos (.inr hl)]
        go_enter Try.func33, Try.ntmps33
        go_wp2_with fail
        refine HC2.out.mono ?_
        rintro e w1 ⟨rfl, own1, fv1, qv1, kv1, hk1, t1⟩
        have HM := Lib.hid (r_mayN hk1 HMN.out)
        have HG := Lib.hid (r_get w1 own1 b fv1 qv1 kv1 q f hk1 (by have := HRO.out.len; omega))
        have HK1 := Lib.hid hk1
        have HT1 := Lib.hid t1
        clear hk1 t1 HC2
        rw [HX.out] at HG
        unfold flV at HG
        go_wp2_with fail
        refine HM.out.mono ?_
        rintro e w2 ⟨rfl, rfl⟩
        go_wp2_with fail
        refine HG.out.mono ?_
        rintro e w2 ⟨rfl, b2⟩
        have t2 := Tr.of_below (fun _ => False) HK1.out.inb b2
        have HE : Hid (REnd2 w own b q (.int .i64 1) (.returned (.int .i64 1)) w2) := .num (HK1.out.far t2) (HT1.out.trans (t2.weak (fun _ h => h.elim)))
        clear t2 b2 HG HM HK1 HT1
        go_wp2_with fail
        go_ret
        exact HE.out
      · rw [if_neg (by omega)]
        obtain ⟨m, rfl⟩ := Int.eq_ofNat_of_zero_le (show 0 ≤ n by omega)
        rw [Int.toNat_natCast]
        have hml : m ≤ D.length := by omega
        have hcut : (bStr D).extract 0 m = bStr (D.take m) := by rw [bStr_cutR, List.drop_zero, Nat.sub_zero]
        go_enter Try.func33, Try.ntmps33
        go_wp2_with fail
        refine HC2.out.mono ?_
        rintro e w1 ⟨rfl, own1, fv1, qv1, kv1, hk1, t1⟩
        have HM := Lib.hid (r_mayN hk1 HMN.out)
        have HG := Lib.hid (r_get w1 own1 b fv1 qv1 kv1 q f hk1 (by have := HRO.out.len; omega))
        have HK1 := Lib.hid hk1
        have HT1 := Lib.hid t1
        clear hk1 t1 HC2
        rw [HX.out] at HG
        unfold flV at HG
        go_wp2_with fail
        refine HM.out.mono ?_
        rintro e w2 ⟨rfl, rfl⟩
        go_wp2_with fail
        refine HG.out.mono ?_
        rintro e w2 ⟨rfl, b2⟩
        have t2 := Tr.of_below (fun _ => False) HK1.out.inb b2
        have HS := Lib.hid (r_settle w2 own1 b fv1 qv1 kv1 q f (D.take m) (HK1.out.far t2) (by have := HRO.out.len; omega) (by have := HRO.out.queue; omega))
        have HT2 := Lib.hid (HT1.out.trans (t2.weak (fun _ h => h.elim)))
        clear t2 b2 HG HM
        go_wp2_with fail
        refine HS.out.mono ?_
        rintro e w3 ⟨rfl, own3, fv3, qv3, kv3, hk3, t3⟩
        have HE : Hid (REnd2 w own b (settleR q f (D.take m)) (.int .i64 0) (.returned (.int .i64 0)) w3) := .num hk3 (HT2.out.trans t3)
        clear hk3 t3 HS HT2
        go_wp2_with fail
        go_ret
        exact HE.out

end Go.Proofs.Ytnnakclmeihonaa

/- The reference's disk as the law has it: made since a world; its methods and tell in these words. Conditions: the state is that of a disk; sizes of what comes in, as few has them. -/
namespace Go.Proofs.Ytnnakclmeihonaa
open Go.RowKit Go.ChangeMaps

section
variable {W w w' : World} {own own' own2 : Nat → Option Nat} {b b2 : Nat} {s s' : Rs} {S : Ds} {fv qv kv : Value}
/-- Its blocks stand, whatever else has turned. -/
theorem Rk.kept1 (h : Rk w own b fv qv kv s) (hk : ∀ g ρ, own g = some ρ → w'.heap[g]? = w.heap[g]?) (hs : w.heap.size ≤ w'.heap.size) : Rk w' own b fv qv kv s :=
  ⟨(hk b 0 h.ob).trans h.blk, h.ob, h.files.kept0 hk, h.queue.kept0 hk, h.keep.kept0 hk, fun g ρ e => Nat.lt_of_lt_of_le (h.inb g ρ e) hs⟩
/-- A disk of the reference that was made since W; nothing older has turned. -/
structure Rx (W w : World) (own : Nat → Option Nat) (b : Nat) (s : Rs) : Prop where
  rk : ∃ fv qv kv, Rk w own b fv qv kv s
  below : Below W.heap.size W w
  new : ∀ g r, own g = some r → W.heap.size ≤ g
theorem Rx.inb (h : Rx W w own b s) : ∀ g r, own g = some r → g < w.heap.size := by
  obtain ⟨_, _, _, hk⟩ := h.rk
  exact hk.inb
theorem Rx.turn (h : Rx W w own b s) (hd : ∃ fv qv kv, Rk w' own' b fv qv kv s') (t : Tr (fun _ => True) w own own' w') : Rx W w' own' b s' := by
  refine ⟨hd, h.below.trans (t.below h.below.size (fun g hg => ?_)), fun g r e => ?_⟩
  · cases e : own g with
    | none => rfl
    | some r => have := h.new g r e; omega
  · by_cases hg : g < w.heap.size
    · rw [t.kept g hg] at e; exact h.new g r e
    · have := h.below.size; omega
/-- How a method ends, of the reference's disk that was made since W. -/
def RXEnd (W w : World) (own : Nat → Option Nat) (b : Nat) (s : Rs) (v : Value) (e : Ending) (w' : World) : Prop := ∃ own', e = .returned v ∧ Rx W w' own' b s ∧ Tr (fun _ => True) w own own' w'
theorem Rx.step {v : Value} {e : Ending} (h : Rx W w own b s) (he : REnd2 w own b s' v e w') : RXEnd W w own b s' v e w' := by
  obtain ⟨rfl, own', fv, qv, kv, hd, t⟩ := he
  exact ⟨own', rfl, h.turn ⟨fv, qv, kv, hd⟩ t, t⟩
theorem Rx.kept1 (h : Rx W w own b s) (hk : ∀ g ρ, own g = some ρ → w'.heap[g]? = w.heap[g]?) (hs : w.heap.size ≤ w'.heap.size) (hb : Below W.heap.size W w') : Rx W w' own b s := by
  obtain ⟨fv, qv, kv, hr⟩ := h.rk
  exact ⟨⟨fv, qv, kv, hr.kept1 hk hs⟩, hb, h.new⟩
theorem Rx.past (h : Rx W w own b s) (hb : Below w.heap.size w w') : Rx W w' own b s := h.kept1 (fun g r e => hb.block g (h.inb g r e)) hb.size (h.below.trans (hb.mono h.below.size))
theorem Rx.alloc (h : Rx W w own b s) (o : Obj) : Rx W (w.alloc o) own b s := h.past ((Below.refl _ _).alloc (Nat.le_refl _) o)
theorem Rx.drew (h : Rx W w own b s) : Rx W w.drew own b s := h.past (Below.refl _ _).drew
/-- The other disk's method leaves it. -/
theorem Rx.other (h : Rx W w own2 b2 s) (ap : Apart own own2) (hb : Below W.heap.size W w') (t : Tr (fun _ => True) w own own' w') : Rx W w' own2 b2 s ∧ Apart own' own2 :=
  ⟨h.kept1 (fun g r e => t.block g (h.inb g r e) (fun r' e' => by rw [ap g r e] at e'; cases e')) t.size hb, fun g r e => (t.kept g (h.inb g r e)).trans (ap g r e)⟩
/-- The reference's method leaves the code's disk. -/
theorem Dx.other2 (h : Dx W w own b S) (ap : Apart own own2) (hb : Below W.heap.size W w') {own2' : Nat → Option Nat} (t : Tr (fun _ => True) w own2 own2' w') : Dx W w' own b S ∧ Apart own own2' := by
  obtain ⟨h3, h4⟩ := h.da.other ap.symm t
  exact ⟨⟨h3, hb, h.new⟩, h4.symm⟩
/-- Two that are new to each other. -/
theorem Apart.new (hi : ∀ g r, own2 g = some r → g < w.heap.size) (hn : ∀ g r, own g = some r → w.heap.size ≤ g) : Apart own own2 := fun g r e => by
  cases e1 : own g with
  | none => rfl
  | some r1 => have := hi g r e; have := hn g r1 e1; omega

theorem y_new (hb : Below W.heap.size W w) : Calls Try.prog 11 #[] w fun e w' => ∃ b own, e = .returned (.pointer (some ⟨b, 0, none⟩)) ∧ Rx W w' own b newR ∧ Below w.heap.size w w' ∧ ∀ g r, own g = some r → w.heap.size ≤ g := by
  refine (r_new w).mono ?_
  rintro e w' ⟨b, own, fv, qv, kv, rfl, hk, h1, h2⟩
  exact ⟨b, own, rfl, ⟨⟨fv, qv, kv, hk⟩, hb.trans (h1.mono hb.size), fun g r e => Nat.le_trans hb.size (h2 g r e)⟩, h1, h2⟩
theorem y_down (h : Rx W w own b s) {r : Bool} (hr : s.down = r) : Calls Try.prog 15 #[.pointer (some ⟨b, 0, none⟩)] w fun e w' => e = .returned (.bool r) ∧ w = w' := by
  subst hr
  obtain ⟨fv, qv, kv, hk⟩ := h.rk
  exact r_down w own b fv qv kv s hk
theorem y_size (h : Rx W w own b s) (hs : Sim S s) {f : Int} {n : Nat} (hr : (S.data f).length = n) : Calls Try.prog 17 #[.pointer (some ⟨b, 0, none⟩), .int .i64 f] w fun e w' => e = .returned (.int .i64 n) ∧ Below w.heap.size w w' := by
  subst hr
  obtain ⟨fv, qv, kv, hk⟩ := h.rk
  have := r_size w own b fv qv kv s f hk (by have := hs.len; omega)
  rw [hs.now] at this
  exact this
theorem y_read (h : Rx W w own b s) (hs : Sim S s) (ho : Ok S) {f a n : Int} {l : List UInt8} {r : Int} (hr : readP S f a n = (l, r)) : Calls Try.prog 21 #[.pointer (some ⟨b, 0, none⟩), .int .i64 f, .int .i64 a, .int .i64 n] w fun e w' => e = .returned (.tuple #[.string (bStr l), .int .i64 r]) ∧ Below w.heap.size w w' := by
  obtain ⟨fv, qv, kv, hk⟩ := h.rk
  have h1 := r_read w own b fv qv kv s f a n hk (by have := hs.len; omega) (by rw [hs.now]; exact ho.size f)
  rw [hs.read, hr] at h1
  exact h1
theorem y_start (h : Rx W w own b s) : Calls Try.prog 37 #[.pointer (some ⟨b, 0, none⟩)] w (RXEnd W w own b { s with down := false } (.tuple #[])) := by
  obtain ⟨fv, qv, kv, hk⟩ := h.rk
  exact (r_start hk).mono fun _ _ he => h.step he
theorem y_lose (h : Rx W w own b s) (n : Int) : Calls Try.prog 34 #[.pointer (some ⟨b, 0, none⟩), .int .i64 n] w (RXEnd W w own b { s with lost := max n 0 } (.tuple #[])) := by
  obtain ⟨fv, qv, kv, hk⟩ := h.rk
  exact (r_lose hk n).mono fun _ _ he => h.step he
theorem y_sync (h : Rx W w own b s) (hs : Sim S s) (ho : Ok S) (f : Int) : Calls Try.prog 32 #[.pointer (some ⟨b, 0, none⟩), .int .i64 f] w (RXEnd W w own b (syncR s f).1 (.int .i64 (syncR s f).2)) := by
  obtain ⟨fv, qv, kv, hk⟩ := h.rk
  exact (r_sync w own b fv qv kv S s f hk hs ho).mono fun _ _ he => h.step he
theorem y_trunc (h : Rx W w own b s) (hs : Sim S s) (ho : Ok S) (f n : Int) : Calls Try.prog 33 #[.pointer (some ⟨b, 0, none⟩), .int .i64 f, .int .i64 n] w (RXEnd W w own b (truncR s f n).1 (.int .i64 (truncR s f n).2)) := by
  obtain ⟨fv, qv, kv, hk⟩ := h.rk
  exact (r_trunc w own b fv qv kv S s f n hk hs ho).mono fun _ _ he => h.step he
theorem y_write (h : Rx W w own b s) (hs : Sim S s) (ho : Ok S) (f a : Int) {t : ByteArray} (ht : t.size ≤ 16777216) : Calls Try.prog 38 #[.pointer (some ⟨b, 0, none⟩), .int .i64 f, .int .i64 a, .string t] w (RXEnd W w own b (writeR s f a t.data.toList).1 (.int .i64 (writeR s f a t.data.toList).2)) := by
  obtain ⟨fv, qv, kv, hk⟩ := h.rk
  exact (r_write w own b fv qv kv S s f a t ht hk hs ho).mono fun _ _ he => h.step he
theorem y_crash (h : Rx W w own b s) (hs : Sim S s) (ho : Ok S) {A : Option Addr} {n c : Nat} {l : List Int} (hl : Nums w own A n l) : Calls Try.prog 36 #[.pointer (some ⟨b, 0, none⟩), .slice A n c] w (RXEnd W w own b (crashR s l) (.tuple #[])) := by
  obtain ⟨fv, qv, kv, hk⟩ := h.rk
  exact (r_crash w own b fv qv kv S s A n c l hk hs ho hl.1 (fun hp ad e => by rw [hl.2.1 hp ad e]; simp) hl.2.2).mono fun _ _ he => h.step he
theorem y_arm (h : Rx W w own b s) (i : Int) {A : Option Addr} {n c : Nat} {l : List Int} (hl : Nums w own A n l) : Calls Try.prog 35 #[.pointer (some ⟨b, 0, none⟩), .int .i64 i, .slice A n c] w (RXEnd W w own b { s with armed := pos i, keep := l } (.tuple #[])) := by
  obtain ⟨fv, qv, kv, hk⟩ := h.rk
  exact (r_arm w own b fv qv kv s i A n c l hk hl.1 (fun hp ad e e1 => by have h1 := hl.2.1 hp ad e; rw [e1, hk.ob] at h1; cases h1) hl.2.2).mono fun _ _ he => h.step he
theorem RXEnd.pre {s0 : Rs} {v : Value} {e : Ending} {o : Obj} (h : Rx W w own b s0) (he : RXEnd W (w.alloc o) own b s v e w') : RXEnd W w own b s v e w' := by
  obtain ⟨own', rfl, h1, t⟩ := he
  exact ⟨own', rfl, h1, ((Tr.refl _ h.inb).alloc o).trans t⟩
end

set_option maxRecDepth 4000 in
set_option maxHeartbeats 2000000 in
theorem tell_any {W w : World} {own : Nat → Option Nat} {b : Nat} {S : Ds} {s : Rs} (h : Rx W w own b s) (HS : Sim S s) (HO : Ok S) (x : Ac) (A : Option Addr) (c : Nat) (hk : Nums w own A x.keep.length x.keep) (hf : x.Fits) (hs : x.s.size ≤ 16777216) :
    Calls Try.prog 13 #[.pointer (some ⟨b, 0, none⟩), actV x A c] w (RXEnd W w own b (tellR s x).1 (.int .i64 (tellR s x).2)) := by
  have H1 := Lib.hid (h.alloc (.cells (actC x A c) 33))
  have HK := Lib.hid (hk.alloc (.cells (actC x A c) 33))
  have HP : Hid (∀ (s' : Rs) (v : Value) (e : Ending) (w' : World), RXEnd W (w.alloc (.cells (actC x A c) 33)) own b s' v e w' → RXEnd W w own b s' v e w') := fun _ _ _ _ he => RXEnd.pre h he
  unfold actC at H1 HK HP
  unfold actV
  have HSI := Lib.hid HS
  have HOK := Lib.hid HO
  clear h hk HS HO
  obtain ⟨k, hkk⟩ : ∃ k, x.d % 8 = k := ⟨_, rfl⟩
  have e7 : bits .and .i64 x.d 7 = k := (i64_and7 _).trans hkk
  have e3 := i64_and3 x.n
  have hff := hf.f
  have hfn := hf.n
  have hn4 : I64 (x.n % 4) := by unfold I64; omega
  by_cases h2 : k = 2
  · subst h2
    have hd : tellR s x = syncR s x.f := by unfold tellR; rw [if_pos hkk]
    rw [hd]
    clear hd hkk
    go_enter Try.func13, Try.ntmps13
    go_wp2_with fail
    refine (y_sync H1.out HSI.out HOK.out _).mono ?_
    intro e w' he
    obtain ⟨own', rfl, h3, t3⟩ := HP.out _ _ _ _ he
    have HE := Lib.hid h3
    have HT := Lib.hid t3
    clear h3 t3 he
    go_wp2_with fail
    go_ret
    exact ⟨own', rfl, HE.out, HT.out⟩
  · by_cases h3 : k = 3
    · subst h3
      have hd : tellR s x = truncR s x.f x.n := by unfold tellR; rw [if_neg (by rw [hkk]; decide), if_pos hkk]
      rw [hd]
      clear hd hkk
      go_enter Try.func13, Try.ntmps13
      go_wp2_with fail
      refine (y_trunc H1.out HSI.out HOK.out _ _).mono ?_
      intro e w' he
      obtain ⟨own', rfl, h3, t3⟩ := HP.out _ _ _ _ he
      have HE := Lib.hid h3
      have HT := Lib.hid t3
      clear h3 t3 he
      go_wp2_with fail
      go_ret
      exact ⟨own', rfl, HE.out, HT.out⟩
    · by_cases h4 : k = 4
      · subst h4
        have hd : tellR s x = ({ s with lost := max (x.n % 4) 0 }, 0) := by unfold tellR; rw [if_neg (by rw [hkk]; decide), if_neg (by rw [hkk]; decide), if_pos hkk]
        rw [hd]
        clear hd hkk
        go_enter Try.func13, Try.ntmps13
        go_wp2_with fail
        first | refine (y_lose H1.out _).mono ?_ | (rw [e3]; refine (y_lose H1.out _).mono ?_)
        intro e w' he
        obtain ⟨own', rfl, h3, t3⟩ := HP.out _ _ _ _ he
        have HE := Lib.hid h3
        have HT := Lib.hid t3
        clear h3 t3 he
        go_wp2_with fail
        go_ret
        exact ⟨own', rfl, HE.out, HT.out⟩
      · by_cases h5 : k = 5
        · subst h5
          have hd : tellR s x = ({ s with armed := pos x.n, keep := x.keep }, 0) := by unfold tellR; rw [if_neg (by rw [hkk]; decide), if_neg (by rw [hkk]; decide), if_neg (by rw [hkk]; decide), if_pos hkk]
          rw [hd]
          clear hd hkk
          go_enter Try.func13, Try.ntmps13
          go_wp2_with fail
          refine (y_arm H1.out _ HK.out).mono ?_
          intro e w' he
          obtain ⟨own', rfl, h3, t3⟩ := HP.out _ _ _ _ he
          have HE := Lib.hid h3
          have HT := Lib.hid t3
          clear h3 t3 he
          go_wp2_with fail
          go_ret
          exact ⟨own', rfl, HE.out, HT.out⟩
        · by_cases h6 : k = 6
          · subst h6
            have hd : tellR s x = (crashR s x.keep, 0) := by unfold tellR; rw [if_neg (by rw [hkk]; decide), if_neg (by rw [hkk]; decide), if_neg (by rw [hkk]; decide), if_neg (by rw [hkk]; decide), if_pos hkk]
            rw [hd]
            clear hd hkk
            go_enter Try.func13, Try.ntmps13
            go_wp2_with fail
            refine (y_crash H1.out HSI.out HOK.out HK.out).mono ?_
            intro e w' he
            obtain ⟨own', rfl, h3, t3⟩ := HP.out _ _ _ _ he
            have HE := Lib.hid h3
            have HT := Lib.hid t3
            clear h3 t3 he
            go_wp2_with fail
            go_ret
            exact ⟨own', rfl, HE.out, HT.out⟩
          · by_cases h7 : k = 7
            · subst h7
              have hd : tellR s x = ({ s with down := false }, 0) := by unfold tellR; rw [if_neg (by rw [hkk]; decide), if_neg (by rw [hkk]; decide), if_neg (by rw [hkk]; decide), if_neg (by rw [hkk]; decide), if_neg (by rw [hkk]; decide), if_pos hkk]
              rw [hd]
              clear hd hkk
              go_enter Try.func13, Try.ntmps13
              go_wp2_with fail
              refine (y_start H1.out).mono ?_
              intro e w' he
              obtain ⟨own', rfl, h3, t3⟩ := HP.out _ _ _ _ he
              have HE := Lib.hid h3
              have HT := Lib.hid t3
              clear h3 t3 he
              go_wp2_with fail
              go_ret
              exact ⟨own', rfl, HE.out, HT.out⟩
            · have hd : tellR s x = writeR s x.f x.n x.s.data.toList := by unfold tellR; rw [if_neg (by rw [hkk]; exact h2), if_neg (by rw [hkk]; exact h3), if_neg (by rw [hkk]; exact h4), if_neg (by rw [hkk]; exact h5), if_neg (by rw [hkk]; exact h6), if_neg (by rw [hkk]; exact h7)]
              rw [hd]
              clear hd hkk
              go_enter Try.func13, Try.ntmps13
              go_wp2_with fail
              refine (y_write H1.out HSI.out HOK.out _ _ hs).mono ?_
              intro e w' he
              obtain ⟨own', rfl, h3', t3⟩ := HP.out _ _ _ _ he
              have HE := Lib.hid h3'
              have HT := Lib.hid t3
              clear h3' t3 he
              go_wp2_with fail
              go_ret
              exact ⟨own', rfl, HE.out, HT.out⟩

end Go.Proofs.Ytnnakclmeihonaa
