/- What the law JournalStays says of the states, plainly. Conditions: no crash is scheduled; records of at most 200 bytes. -/
import Derived.Test.YtnnakclmeihonaaDoorJv
namespace Go.Proofs.YtnnakclmeihonaaDoor

/-- Sync of a journal. -/
def jsyncP (S : Ds) (f : Int) (j : Js) : Ds × Js × Int :=
  if j.broken = true then (S, j, 7) else ((syncP S f).1, { j with broken := (syncP S f).2 != 0 }, (syncP S f).2)

/-- The machine is up, no crash is scheduled; the file has at most 245 bytes for each of K records; it is the list of a journal that hasn't failed. -/
structure Inv (S : Ds) (j : Option Js) (K : Nat) : Prop where
  left : S.left = 0
  down : S.down = false
  size : (S.data 0).length ≤ 245 * K
  list : ∀ js, j = some js → (formsP js.list).length ≤ 245 * K ∧ (∀ t ∈ js.list, t.length ≤ 20000) ∧ (js.broken = false → S.data 0 = formsP js.list)

theorem strike_up {S : Ds} (h : S.left = 0) : strikeP S = (S, false) := by unfold strikeP; rw [if_pos h]
theorem write_up {S : Ds} (hl : S.left = 0) (hd : S.down = false) {f : Int} (hf : isF f = true) {a : Nat} {l : List UInt8} (ha : a + l.length ≤ 16777216) : writeP S f (a : Int) l = (stored S f a l, 0) := by
  have hc : chk f (a : Int) l.length = 0 := by
    unfold chk
    rw [if_neg (fun h => by rcases h with h | h <;> first | (rw [hf] at h; cases h; done) | omega), if_neg (by omega)]
  have hw : writeS S f (a : Int) l = stored S f a l := by unfold writeS; rw [if_pos hc, Int.toNat_natCast]
  have hst : strikeP (stored S f a l) = (stored S f a l, false) := strike_up (by unfold stored; split <;> exact hl)
  unfold writeP
  rw [if_neg (by rw [hd]; decide), hw, hst, if_neg (by simp), hc]
theorem sync_up {S : Ds} (hl : S.left = 0) (hd : S.down = false) {f : Int} (hf : isF f = true) : syncP S f = if 0 < S.lost then ({ S with lost := S.lost - 1 }, 9) else (settled S f, 0) := by
  unfold syncP
  rw [if_neg (by rw [hd]; decide), strike_up hl, if_neg (by simp), if_neg (by rw [hf]; decide)]
theorem putB_end (a b : List UInt8) : putB a a.length b = a ++ b := by
  unfold putB extB
  rw [show a.length + b.length - a.length = b.length from by omega]
  rw [List.take_left' rfl, List.drop_eq_nil_of_le (by simp), List.append_nil]
theorem stored_end {S : Ds} {f : Int} {l b : List UInt8} (h : S.data f = l) : (stored S f l.length b).data f = l ++ b ∧ (stored S f l.length b).left = S.left ∧ (stored S f l.length b).down = S.down ∧ (stored S f l.length b).lost = S.lost := by
  unfold stored
  split
  · rename_i h0
    rw [List.eq_nil_of_length_eq_zero h0, List.append_nil]
    exact ⟨h, rfl, rfl, rfl⟩
  · refine ⟨?_, rfl, rfl, rfl⟩
    show upd S.data f (putB (S.data f) l.length b) f = _
    rw [upd_same, h, putB_end]

theorem Inv.app {S : Ds} {js : Js} {K : Nat} (h : Inv S (some js) K) (hK : K ≤ 100) {t : List UInt8} (ht : t.length ≤ 200) :
    (js.broken = true ∧ appP S 0 js t = (S, js, 7)) ∨ (js.broken = false ∧ ∃ S', appP S 0 js t = (S', ⟨js.list ++ [t], false⟩, 0) ∧ Inv S' (some ⟨js.list ++ [t], false⟩) (K + 1)) := by
  cases hb : js.broken with
  | true =>
    refine .inl ⟨rfl, ?_⟩
    unfold appP
    rw [if_pos hb]
  | false =>
    refine .inr ⟨rfl, ?_⟩
    obtain ⟨h1, h2, h3⟩ := h.list js rfl
    have hd := h3 hb
    have hfl := formP_len (t := t) (by omega)
    have hw := write_up h.left h.down (f := 0) (by decide) (a := (formsP js.list).length) (l := formP t) (by omega)
    obtain ⟨s1, s2, s3, s4⟩ := stored_end (f := 0) (b := formP t) hd
    refine ⟨stored S 0 (formsP js.list).length (formP t), ?_, ?_⟩
    · unfold appP
      rw [if_neg (by rw [hb]; decide), if_neg (by omega), if_neg (by omega), hw]
      simp only [hb]
      rw [if_neg (by decide)]
    · refine ⟨s2.trans h.left, s3.trans h.down, ?_, fun q hq => ?_⟩
      · rw [s1, List.length_append]; omega
      · cases hq
        refine ⟨by show (formsP (js.list ++ [t])).length ≤ _; rw [formsP_snoc, List.length_append]; omega, fun q hq => ?_, fun _ => by show _ = formsP (js.list ++ [t]); rw [s1, formsP_snoc]⟩
        rcases List.mem_append.1 hq with hq | hq
        · exact h2 q hq
        · simp at hq; subst hq; omega
theorem Inv.more {S : Ds} {j : Option Js} {K K' : Nat} (h : Inv S j K) (hK : K ≤ K') : Inv S j K' :=
  ⟨h.left, h.down, by have := h.size; omega, fun js e => ⟨by have := (h.list js e).1; omega, (h.list js e).2⟩⟩
theorem Inv.sync {S : Ds} {js : Js} {K : Nat} (h : Inv S (some js) K) : Inv (jsyncP S 0 js).1 (some (jsyncP S 0 js).2.1) K ∧ (jsyncP S 0 js).2.1.list = js.list := by
  obtain ⟨h1, h2, h3⟩ := h.list js rfl
  unfold jsyncP
  by_cases hb : js.broken = true
  · rw [if_pos hb]
    exact ⟨h, rfl⟩
  · have hb' : js.broken = false := by simpa using hb
    rw [if_neg hb, sync_up h.left h.down (by decide)]
    by_cases hl : 0 < S.lost
    · rw [if_pos hl]
      exact ⟨⟨h.left, h.down, h.size, fun q hq => by cases hq; exact ⟨h1, h2, fun e => by cases e⟩⟩, rfl⟩
    · rw [if_neg hl]
      exact ⟨⟨h.left, h.down, h.size, fun q hq => by cases hq; exact ⟨h1, h2, fun _ => h3 hb'⟩⟩, rfl⟩
theorem Inv.lose {S : Ds} {j : Option Js} {K : Nat} (h : Inv S j K) (n : Int) : Inv { S with lost := n } j K := ⟨h.left, h.down, h.size, h.list⟩
/-- Opening at a disk that is up, with no crash scheduled. -/
theorem open_up {S : Ds} (hl : S.left = 0) (hd : S.down = false) (h0 : ¬ 0 < S.lost → S.lost = 0) :
    (0 < S.lost ∧ openP S 0 = ({ S with lost := S.lost - 1 }, 9, [])) ∨ (¬ 0 < S.lost ∧ ∃ S' ts r, openP S 0 = (S', 0, ts) ∧ recs (S.data 0) = (ts, r) ∧ Calm S' ∧ S'.data 0 = formsP ts) := by
  by_cases hz : 0 < S.lost
  · refine .inl ⟨hz, ?_⟩
    unfold openP
    rw [sync_up hl hd (by decide), if_pos hz]
    rw [if_pos (show (9 : Int) ≠ 0 by decide)]
  · refine .inr ⟨hz, ?_⟩
    obtain ⟨ts, r, hr⟩ : ∃ ts r, recs (S.data 0) = (ts, r) := ⟨_, _, rfl⟩
    obtain ⟨S', h1, h2, h3, -⟩ := calm_open (S := S) ⟨hl, h0 hz, hd⟩ (f := 0) (by decide) hr
    exact ⟨S', ts, r, h1, hr, h2, h3⟩
theorem crash_len {S : Ds} (ho : Ok S) (keep : List Int) (f : Int) : ((crashP S keep).data f).length ≤ (S.data f).length := by
  unfold crashP
  split
  · exact Nat.le_refl _
  · show (crashD S.data keep S.dur S.pend 0 f).length ≤ _
    rw [crashD_eq]
    exact (hardL_all _ _ (fun p hp => ho.pend p (survs_sub keep _ _ p hp)) ho.dur f).2.1
theorem Inv.reopen {S : Ds} {j : Option Js} {K : Nat} (h : Inv S j K) (ho : Ok S) (keep : List Int) :
    ∃ S' ts e, openP { crashP S keep with down := false } 0 = (S', e, ts) ∧ Inv S' (if e = 0 then some ⟨ts, false⟩ else none) K := by
  have hc : crashP S keep = crashed S keep := by unfold crashP; rw [if_neg (by rw [h.down]; decide)]
  have hlen := crash_len ho keep 0
  rw [hc] at hlen ⊢
  have hsz := h.size
  have hlo : ¬ 0 < S.lost → S.lost = 0 := fun hn => by have := ho.lost; omega
  rcases open_up (S := { crashed S keep with down := false }) rfl rfl hlo with ⟨-, h1⟩ | ⟨-, S', ts, r, h1, hr, hcm, hd⟩
  · exact ⟨_, _, _, h1, rfl, rfl, by show ((crashed S keep).data 0).length ≤ _; omega, fun js e => by cases e⟩
  · refine ⟨S', ts, 0, h1, ?_⟩
    obtain ⟨k1, k2, -⟩ := recs_end ((crashed S keep).data 0)
    have hr' : recs ((crashed S keep).data 0) = (ts, r) := hr
    rw [hr'] at k1 k2
    have hle : (formsP ts).length ≤ ((crashed S keep).data 0).length := by
      have := congrArg List.length k1
      rw [List.length_append] at this
      have e : (formsP (ts, r).1).length = (formsP ts).length := rfl
      omega
    rw [if_pos rfl]
    exact ⟨hcm.left, hcm.down, by rw [hd]; omega, fun js e => by cases e; exact ⟨by show (formsP ts).length ≤ _; omega, k2, fun _ => hd⟩⟩

/-- The file is wholly durable. -/
structure Dur (S : Ds) (us : List (List UInt8)) : Prop where
  calm : Calm S
  data : S.data 0 = formsP us
  dur : S.dur 0 = formsP us
  pend : ∀ p ∈ S.pend, p.1 ≠ 0
theorem settled_dur {S : Ds} (hc : Calm S) {us : List (List UInt8)} (hd : S.data 0 = formsP us) : Dur (settled S 0) us :=
  ⟨⟨hc.left, hc.lost, hc.down⟩, hd, by show upd S.dur 0 (S.data 0) 0 = _; rw [upd_same, hd], fun p hp => (mem_keepL.1 hp).2⟩
/-- Sync has returned OK. -/
theorem Inv.sure {S : Ds} {js : Js} {K : Nat} (h : Inv S (some js) K) (h0 : ¬ 0 < S.lost → S.lost = 0) (he : (jsyncP S 0 js).2.2 = 0) : Dur (jsyncP S 0 js).1 js.list ∧ (jsyncP S 0 js).2.1 = ⟨js.list, false⟩ := by
  obtain ⟨h1, h2, h3⟩ := h.list js rfl
  revert he
  unfold jsyncP
  by_cases hb : js.broken = true
  · rw [if_pos hb]
    intro he; cases he
  · have hb' : js.broken = false := by simpa using hb
    rw [if_neg hb, sync_up h.left h.down (by decide)]
    by_cases hl : 0 < S.lost
    · rw [if_pos hl]
      intro he; cases he
    · rw [if_neg hl]
      intro _
      exact ⟨settled_dur ⟨h.left, h0 hl, h.down⟩ (h3 hb'), rfl⟩
/-- A crash, a start, and an opening leave it. -/
theorem Dur.again {S : Ds} {us : List (List UInt8)} (h : Dur S us) (ht : ∀ t ∈ us, t.length ≤ 20000) (keep : List Int) :
    ∃ S', openP { crashP S keep with down := false } 0 = (S', 0, us) ∧ Dur S' us := by
  have hc : crashP S keep = crashed S keep := by unfold crashP; rw [if_neg (by rw [h.calm.down]; decide)]
  rw [hc]
  have hd : (crashed S keep).data 0 = formsP us := by
    show crashD S.data keep S.dur S.pend 0 0 = _
    rw [crashD_eq, hardL_other _ _ (fun p hp => h.pend p (survs_sub keep _ _ p hp)), h.dur]
  have hcm : Calm { crashed S keep with down := false } := ⟨rfl, h.calm.lost, rfl⟩
  refine ⟨settled { crashed S keep with down := false } 0, ?_, settled_dur hcm hd⟩
  have hdd : (settled { crashed S keep with down := false } 0).data 0 = formsP us := hd
  unfold openP
  rw [calm_sync hcm (by decide)]
  simp only [hdd, recs_forms ht]
  rw [if_neg (by decide), if_neg (by omega)]

end Go.Proofs.YtnnakclmeihonaaDoor
