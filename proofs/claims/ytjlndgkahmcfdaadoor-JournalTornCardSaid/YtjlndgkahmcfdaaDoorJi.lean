/- A torn file, plainly: bytes are missing at its end, or have become 0: its records are a beginning of those that were written. Conditions: records of at most 4000 bytes. -/
import Derived.Test.YtjlndgkahmcfdaaDoorJp
import Derived.Test.YtjlndgkahmcfdaaDoorJq
namespace Go.Proofs.YtjlndgkahmcfdaaDoor
set_option maxRecDepth 8000
open Go.Lib

/-- T is D with bytes missing at the end, and others 0. -/
def Torn (T D : List UInt8) : Prop := T.length ≤ D.length ∧ ∀ i, i < T.length → atB T i = atB D i ∨ atB T i = 0
theorem Torn.refl (D : List UInt8) : Torn D D := ⟨Nat.le_refl _, fun _ _ => .inl rfl⟩
theorem atB_app {a b : List UInt8} {i : Nat} : atB (a ++ b) i = if i < a.length then atB a i else atB b (i - a.length) := by
  unfold atB
  by_cases h : i < a.length
  · rw [if_pos h, List.getElem?_append_left h]
  · rw [if_neg h, List.getElem?_append_right (by omega)]
/-- What no 0 is in stands where it stood. -/
theorem torn_same {a b D : List UInt8} (h : Torn (a ++ b) D) (h0 : ∀ c ∈ a, c ≠ 0) : ∃ D', D = a ++ D' ∧ Torn b D' := by
  obtain ⟨hl, hb⟩ := h
  rw [List.length_append] at hl hb
  have ha : D.take a.length = a := by
    refine ext_atB (by rw [List.length_take]; omega) (fun i hi => ?_)
    rw [List.length_take] at hi
    have hi1 : i < a.length := by omega
    rw [take_atB hi1]
    have h1 := hb i (by omega)
    rw [atB_app, if_pos hi1] at h1
    rcases h1 with h1 | h1
    · exact h1.symm
    · exfalso
      have h2 := atB_lt (b := a) (i := i) hi1
      exact h0 _ (List.mem_of_getElem? h2) h1
  refine ⟨D.drop a.length, ?_, ?_, fun i hi => ?_⟩
  · have := List.take_append_drop a.length D
    rw [ha] at this
    exact this.symm
  · rw [List.length_drop]; omega
  · rw [drop_atB]
    have h1 := hb (a.length + i) (by omega)
    rw [atB_app, if_neg (by omega), show a.length + i - a.length = i from by omega] at h1
    exact h1
/-- What stands at the beginning of both. -/
theorem torn_cut {a b c D : List UInt8} (h : Torn (a ++ b) (c ++ D)) (hl : a.length = c.length) : Torn a c ∧ Torn b D := by
  obtain ⟨h1, h2⟩ := h
  rw [List.length_append, List.length_append] at h1
  refine ⟨⟨by omega, fun i hi => ?_⟩, by omega, fun i hi => ?_⟩
  · have := h2 i (by rw [List.length_append]; omega)
    rwa [atB_app, if_pos hi, atB_app, if_pos (by omega)] at this
  · have := h2 (a.length + i) (by rw [List.length_append]; omega)
    rwa [atB_app, if_neg (by omega), atB_app, if_neg (by omega), show a.length + i - a.length = i from by omega, show a.length + i - c.length = i from by omega] at this

/-- The sum, not taken modulo. -/
def rawN (l : List UInt8) : Nat → Nat
  | 0 => 0
  | k + 1 => rawN l k + (atB l k).toNat * (k + 1)
theorem rawN_le (l : List UInt8) : ∀ k, 2 * rawN l k ≤ 255 * (k * (k + 1))
  | 0 => by simp [rawN]
  | k + 1 => by
    have ih := rawN_le l k
    have hb : (atB l k).toNat ≤ 255 := by have := (atB l k).toNat_lt; omega
    have hm : (atB l k).toNat * (k + 1) ≤ 255 * (k + 1) := Nat.mul_le_mul_right _ hb
    have e : (k + 1) * (k + 1 + 1) = k * (k + 1) + 2 * (k + 1) := by
      have e1 : (k + 1) * (k + 1 + 1) = k * (k + 1 + 1) + 1 * (k + 1 + 1) := Nat.add_mul k 1 (k + 1 + 1)
      have e2 : k * (k + 1 + 1) = k * (k + 1) + k * 1 := Nat.mul_add k (k + 1) 1
      omega
    show 2 * (rawN l k + (atB l k).toNat * (k + 1)) ≤ 255 * ((k + 1) * (k + 1 + 1))
    rw [e]
    omega
theorem rawN_small (l : List UInt8) {k : Nat} (hk : k ≤ 4000) : rawN l k < 2147483647 := by
  have h := rawN_le l k
  have h2 : k * (k + 1) ≤ 4000 * 4001 := Nat.mul_le_mul hk (by omega)
  omega
theorem sumN_raw (l : List UInt8) : ∀ k, k ≤ 4000 → sumN l k = rawN l k
  | 0, _ => rfl
  | k + 1, h => by
    show (sumN l k + (atB l k).toNat * (k + 1)) % 2147483647 = rawN l k + (atB l k).toNat * (k + 1)
    rw [sumN_raw l k (by omega)]
    exact Nat.mod_eq_of_lt (rawN_small l (k := k + 1) h)
theorem raw_torn {a c : List UInt8} : ∀ k, (∀ i, i < k → atB a i = atB c i ∨ atB a i = 0) → rawN a k ≤ rawN c k ∧ (rawN a k = rawN c k → ∀ i, i < k → atB a i = atB c i)
  | 0, _ => ⟨Nat.le_refl _, fun _ i hi => by omega⟩
  | k + 1, h => by
    obtain ⟨i1, i2⟩ := raw_torn k (fun i hi => h i (by omega))
    have hk : (atB a k).toNat ≤ (atB c k).toNat := by
      rcases h k (by omega) with e | e
      · rw [e]; exact Nat.le_refl _
      · rw [e]; simp
    have hm : (atB a k).toNat * (k + 1) ≤ (atB c k).toNat * (k + 1) := Nat.mul_le_mul_right _ hk
    have ea : rawN a (k + 1) = rawN a k + (atB a k).toNat * (k + 1) := rfl
    have ec : rawN c (k + 1) = rawN c k + (atB c k).toNat * (k + 1) := rfl
    refine ⟨by omega, fun he i hi => ?_⟩
    have h1 : rawN a k = rawN c k := by omega
    have h2 : (atB a k).toNat * (k + 1) = (atB c k).toNat * (k + 1) := by omega
    have h3 : (atB a k).toNat = (atB c k).toNat := Nat.eq_of_mul_eq_mul_right (by omega) h2
    by_cases hik : i = k
    · subst hik
      exact UInt8.toNat_inj.1 h3
    · exact i2 h1 i (by omega)

theorem dec_nz (n : Nat) : ∀ c ∈ decDigits n, c ≠ 0 ∧ c ≠ 58 ∧ c ≠ 59 := fun c hc => by
  have h := List.all_eq_true.1 (decDigits_all n) c hc
  unfold isDig at h
  have h2 : 48 ≤ c.toNat ∧ c.toNat ≤ 57 := by simpa using h
  refine ⟨fun e => ?_, fun e => ?_, fun e => ?_⟩ <;> (subst e; revert h2; decide)
/-- A number, up to its end. -/
theorem dec_head {n m : Nat} {e : UInt8} {x y : List UInt8} (he : e = 58 ∨ e = 59) (h : decDigits n ++ e :: x = decDigits m ++ e :: y) (hn : n ≤ 9223372036854775807) (hm : m ≤ 9223372036854775807) : n = m ∧ x = y := by
  have hd : isDig e = false := by rcases he with rfl | rfl <;> decide
  have h1 := (digP_some (c := e) hd (m := 9223372036854775807) (l := decDigits n ++ e :: x) (n := n) (r := x)).2 ⟨hn, rfl⟩
  have h2 := (digP_some (c := e) hd (m := 9223372036854775807) (l := decDigits n ++ e :: x) (n := m) (r := y)).2 ⟨hm, h⟩
  rw [h1] at h2
  injection h2 with h2
  injection h2 with h3 h4
  exact ⟨h3, h4⟩

/-- A record that is read at the beginning of a torn form is the one that was written. -/
theorem torn_step {T t more t' r' : List UInt8} (hT : Torn T (formP t ++ more)) (ht : t.length ≤ 4000) (hs : stepP T = some (t', r')) : t' = t ∧ Torn r' more := by
  obtain ⟨hl', e⟩ := stepP_iff.1 hs
  have hsum := sumP_lt t
  have hsum' := sumP_lt t'
  have e1 : formP t' ++ r' = (decDigits t'.length ++ [58]) ++ (t' ++ ([44] ++ (wInt (sumP t') ++ r'))) := by simp [formP, wText]
  have e2 : formP t ++ more = (decDigits t.length ++ [58]) ++ (t ++ ([44] ++ (wInt (sumP t) ++ more))) := by simp [formP, wText]
  rw [e, e1, e2] at hT
  obtain ⟨D1, hD1, hT1⟩ := torn_same hT (fun c hc => by
    rcases List.mem_append.1 hc with hc | hc
    · exact (dec_nz _ c hc).1
    · simp at hc; subst hc; decide)
  have hh := dec_head (e := 58) (n := t.length) (m := t'.length) (x := t ++ ([44] ++ (wInt (sumP t) ++ more))) (y := D1) (.inl rfl) (by simpa using hD1) (by omega) (by omega)
  obtain ⟨hlen, hx⟩ := hh
  rw [← hx] at hT1
  obtain ⟨hTt, hT2⟩ := torn_cut hT1 hlen.symm
  obtain ⟨D2, hD2, hT3⟩ := torn_same hT2 (fun c hc => by simp at hc; subst hc; decide)
  have hD2' : wInt (sumP t : Nat) ++ more = D2 := by simpa using hD2
  rw [← hD2'] at hT3
  have ew : ∀ n : Nat, wInt (n : Int) = decDigits n ++ [59] := fun n => by
    unfold wInt itoa
    rw [if_neg (by omega)]
    rfl
  have e3 : wInt (sumP t' : Nat) ++ r' = (decDigits (sumP t') ++ [59]) ++ r' := by rw [ew]
  rw [e3] at hT3
  obtain ⟨D3, hD3, hT4⟩ := torn_same hT3 (fun c hc => by
    rcases List.mem_append.1 hc with hc | hc
    · exact (dec_nz _ c hc).1
    · simp at hc; subst hc; decide)
  rw [ew] at hD3
  obtain ⟨hse, hm⟩ := dec_head (e := 59) (n := sumP t) (m := sumP t') (x := more) (y := D3) (.inr rfl) (by simpa using hD3) (by omega) (by omega)
  rw [← hm] at hT4
  refine ⟨?_, hT4⟩
  have h4 : t'.length ≤ 4000 := by omega
  have r1 : rawN t' t.length = rawN t t.length := by
    rw [← sumN_raw t' t.length ht, ← sumN_raw t t.length ht]
    have : sumN t' t'.length = sumN t t.length := hse.symm
    rw [← hlen] at this
    exact this
  have h5 := (raw_torn (a := t') (c := t) t.length (fun i hi => hTt.2 i (by omega))).2 r1
  exact ext_atB (by omega) (fun i hi => h5 i (by omega))

/-- The records of a torn file are a beginning of those that were written; and behind them stands what is torn. -/
theorem torn_recs : ∀ (ts : List (List UInt8)) (T : List UInt8), Torn T (formsP ts) → (∀ t ∈ ts, t.length ≤ 4000) → ∃ k r, k ≤ ts.length ∧ recs T = (ts.take k, r) ∧ Torn r (formsP (ts.drop k))
  | [], T, hT, _ => by
    have : T = [] := List.eq_nil_of_length_eq_zero (by have := hT.1; simpa [formsP] using this)
    subst this
    exact ⟨0, [], Nat.le_refl _, rfl, hT⟩
  | t :: ts, T, hT, ht => by
    cases hs : stepP T with
    | none =>
      refine ⟨0, T, Nat.zero_le _, ?_, hT⟩
      exact recs_is (ts := []) (by rfl) (fun q hq => by cases hq) hs
    | some q =>
      obtain ⟨t', r'⟩ := q
      obtain ⟨h1, h2⟩ := torn_step (more := formsP ts) (by rw [← formsP_cons]; exact hT) (ht t (by simp)) hs
      subst h1
      obtain ⟨k, r, hk, hr, hTr⟩ := torn_recs ts r' h2 (fun q hq => ht q (by simp [hq]))
      obtain ⟨k1, k2, k3⟩ := recs_end r'
      rw [hr] at k1 k2 k3
      refine ⟨k + 1, r, by simp; omega, ?_, by simpa using hTr⟩
      refine recs_is (ts := t' :: ts.take k) ?_ (fun q hq => ?_) k3
      · rw [formsP_cons, List.append_assoc, ← k1]
        exact (stepP_iff.1 hs).2
      · rcases List.mem_cons.1 hq with hq | hq
        · rw [hq]; exact (stepP_iff.1 hs).1
        · exact k2 q hq

end Go.Proofs.YtjlndgkahmcfdaaDoor

/- What the law JournalLasts says of the states, plainly: crashes at any call. Conditions: records of at most 200 bytes. -/
namespace Go.Proofs.YtjlndgkahmcfdaaDoor
set_option maxRecDepth 8000

theorem pre_of {a T : List UInt8} (hl : a.length ≤ T.length) (h : ∀ i, i < a.length → atB T i = atB a i) : ∃ y, T = a ++ y := by
  refine ⟨T.drop a.length, ?_⟩
  have e : T.take a.length = a := ext_atB (by rw [List.length_take]; omega) (fun i hi => by
    rw [List.length_take] at hi
    rw [take_atB (by omega)]
    exact h i (by omega))
  have := List.take_append_drop a.length T
  rw [e] at this
  exact this.symm

/-- The file is torn from the forms of all; it is an addition to what is durable, which begins with the forms of sure; a journal that hasn't failed has all. -/
structure La (S : Ds) (j : Option Js) (all sure : List (List UInt8)) (K : Nat) : Prop where
  torn : Torn (S.data 3) (formsP all)
  dur : ∃ x, S.data 3 = S.dur 3 ++ x
  sur : ∃ y, S.dur 3 = formsP sure ++ y
  arec : ∀ t ∈ all, t.length ≤ 200
  srec : ∀ t ∈ sure, t.length ≤ 200
  size : (formsP all).length ≤ 245 * K
  live : ∀ js, j = some js → js.broken = false → S.down = false ∧ js.list = all ∧ S.data 3 = formsP all
  jl : ∀ js, j = some js → (formsP js.list).length ≤ 245 * K

section
variable {S S' : Ds} {j : Option Js} {js : Js} {all sure : List (List UInt8)} {K : Nat}
theorem La.more (h : La S j all sure K) {K' : Nat} (hK : K ≤ K') : La S j all sure K' :=
  ⟨h.torn, h.dur, h.sur, h.arec, h.srec, by have := h.size; omega, h.live, fun js e => by have := h.jl js e; omega⟩
/-- Only what does not count has turned. -/
theorem La.drop (h : La S j all sure K) (h1 : S'.data = S.data) (h2 : S'.dur = S.dur) : La S' none all sure K :=
  ⟨by rw [h1]; exact h.torn, by rw [h1, h2]; exact h.dur, by rw [h2]; exact h.sur, h.arec, h.srec, h.size, (fun js e => by cases e), fun js e => by cases e⟩
theorem La.same (h : La S j all sure K) (h1 : S'.data = S.data) (h2 : S'.dur = S.dur) (h3 : S'.down = S.down) : La S' j all sure K :=
  ⟨by rw [h1]; exact h.torn, by rw [h1, h2]; exact h.dur, by rw [h2]; exact h.sur, h.arec, h.srec, h.size, fun js e hb => by rw [h1, h3]; exact h.live js e hb, h.jl⟩
/-- A journal that has failed. -/
theorem La.fail (h : La S none all sure K) (l : List (List UInt8)) (hl : (formsP l).length ≤ 245 * K) : La S (some ⟨l, true⟩) all sure K :=
  ⟨h.torn, h.dur, h.sur, h.arec, h.srec, h.size, (fun js e hb => by cases e; cases hb), fun js e => by cases e; exact hl⟩
theorem La.crash (h : La S j all sure K) (ho : Ok S) (keep : List Int) : La (crashed S keep) none all sure K := by
  obtain ⟨x, hx⟩ := h.dur
  obtain ⟨y, hy⟩ := h.sur
  have hp : PendOk S.data (survs keep S.pend 0) := fun p hp => ho.pend p (survs_sub keep _ _ p hp)
  obtain ⟨a1, a2, a3, -⟩ := hardL_all (survs keep S.pend 0) S.dur hp ho.dur 3
  have hT : (crashed S keep).data 3 = hardL S.data S.dur (survs keep S.pend 0) 3 := by
    show crashD S.data keep S.dur S.pend 0 3 = _
    rw [crashD_eq]
  have hU : (crashed S keep).dur 3 = (crashed S keep).data 3 := rfl
  have hlow : ∀ i, i < (S.dur 3).length → atB (S.data 3) i = atB (S.dur 3) i := fun i hi => by rw [hx, atB_app, if_pos hi]
  refine ⟨?_, ⟨[], by rw [hU, List.append_nil]⟩, ?_, h.arec, h.srec, h.size, (fun js e => by cases e), fun js e => by cases e⟩
  · rw [hT]
    obtain ⟨t1, t2⟩ := h.torn
    refine ⟨by omega, fun i hi => ?_⟩
    rw [a1 i]
    split
    · exact t2 i (by omega)
    · by_cases hd : i < (S.dur 3).length
      · rw [← hlow i hd]
        exact t2 i (by omega)
      · exact .inr (atB_ge (by omega))
  · rw [hU, hT]
    have hyl : (formsP sure).length ≤ (S.dur 3).length := by rw [hy, List.length_append]; omega
    refine pre_of (by omega) (fun i hi => ?_)
    have e1 : atB (S.dur 3) i = atB (formsP sure) i := by rw [hy, atB_app, if_pos hi]
    rw [a1 i]
    split
    · rw [hlow i (by omega), e1]
    · exact e1
/-- A call that is counted, at a machine that is up. -/
theorem strike_la (h : La S j all sure K) (ho : Ok S) (hd : S.down = false) :
    (∃ S1, strikeP S = (S1, false) ∧ S1.data = S.data ∧ S1.dur = S.dur ∧ S1.pend = S.pend ∧ S1.lost = S.lost ∧ S1.down = false ∧ Ok S1) ∨ (∃ S1, strikeP S = (S1, true) ∧ S.left ≠ 0 ∧ La S1 none all sure K) := by
  have hok := ho.strikeP
  unfold strikeP at hok ⊢
  by_cases h0 : S.left = 0
  · rw [if_pos h0] at hok ⊢
    exact .inl ⟨S, rfl, rfl, rfl, rfl, rfl, hd, ho⟩
  · rw [if_neg h0] at hok ⊢
    by_cases h1 : 0 < S.left - 1
    · rw [if_pos h1] at hok ⊢
      exact .inl ⟨_, rfl, rfl, rfl, rfl, rfl, hd, hok⟩
    · rw [if_neg h1]
      have ho2 : Ok { S with left := S.left - 1 } := ho.set S.down ho.lost (by have := ho.left; omega) ho.keep
      exact .inr ⟨_, rfl, h0, (La.same (S' := { S with left := S.left - 1 }) h rfl rfl rfl).crash ho2 S.keep⟩

theorem La.app (h : La S (some js) all sure K) (ho : Ok S) (hK : K ≤ 100) {t : List UInt8} (ht : t.length ≤ 200) :
    (js.broken = true ∧ appP S 3 js t = (S, js, 7)) ∨
    (js.broken = false ∧ ∃ S', appP S 3 js t = (S', ⟨js.list ++ [t], false⟩, 0) ∧ La S' (some ⟨js.list ++ [t], false⟩) (all ++ [t]) sure (K + 1)) ∨
    (js.broken = false ∧ ∃ S', appP S 3 js t = (S', ⟨js.list, true⟩, 8) ∧ La S' (some ⟨js.list, true⟩) (all ++ [t]) sure (K + 1)) := by
  cases hb : js.broken with
  | true =>
    refine .inl ⟨rfl, ?_⟩
    unfold appP
    rw [if_pos hb]
  | false =>
    refine .inr ?_
    obtain ⟨hd, hl, hD⟩ := h.live js rfl hb
    have hjl := h.jl js rfl
    have hsz := h.size
    have hfl := formP_len (t := t) (by omega)
    have hc : chk 3 ((formsP js.list).length : Nat) (formP t).length = 0 := by
      unfold chk
      rw [if_neg (fun h => by rcases h with h | h <;> first | (exact absurd h (by decide)) | omega), if_neg (by omega)]
    have hw : writeS S 3 ((formsP js.list).length : Nat) (formP t) = stored S 3 (formsP js.list).length (formP t) := by unfold writeS; rw [if_pos hc, Int.toNat_natCast]
    have hDj : S.data 3 = formsP js.list := by rw [hD, hl]
    obtain ⟨s1, s2, s3, s4⟩ := stored_end (f := 3) (b := formP t) hDj
    have hos : Ok (stored S 3 (formsP js.list).length (formP t)) := ho.stored (by omega) (by omega) (by omega)
    have hdur : (stored S 3 (formsP js.list).length (formP t)).dur = S.dur := by unfold stored; split <;> rfl
    have hfs : formsP js.list ++ formP t = formsP (all ++ [t]) := by rw [formsP_snoc, hl]
    have hsz2 : (formsP (all ++ [t])).length ≤ 245 * (K + 1) := by rw [formsP_snoc, List.length_append]; omega
    obtain ⟨x, hx⟩ := h.dur
    have hLa : La (stored S 3 (formsP js.list).length (formP t)) none (all ++ [t]) sure (K + 1) := by
      refine ⟨by rw [s1, hfs]; exact Torn.refl _, ⟨x ++ formP t, by rw [s1, hdur, ← List.append_assoc, ← hx, hDj]⟩, by rw [hdur]; exact h.sur, fun q hq => ?_, h.srec, hsz2, (fun js e => by cases e), fun js e => by cases e⟩
      rcases List.mem_append.1 hq with hq | hq
      · exact h.arec q hq
      · simp at hq; subst hq; exact ht
    have hup : (stored S 3 (formsP js.list).length (formP t)).down = false := s3.trans hd
    have happ : ∀ q : Ds × Bool, strikeP (stored S 3 (formsP js.list).length (formP t)) = q → writeP S 3 ((formsP js.list).length : Nat) (formP t) = if q.2 = true then (q.1, 8) else (q.1, 0) := fun q hq => by
      unfold writeP
      rw [if_neg (by rw [hd]; decide), hw, hq, hc]
    rcases strike_la hLa hos hup with ⟨S1, e1, k1, k2, -, -, k5, -⟩ | ⟨S1, e1, -, hl1⟩
    · have hwr := happ _ e1
      rw [if_neg (by simp)] at hwr
      refine .inl ⟨rfl, S1, ?_, ?_⟩
      · unfold appP
        rw [if_neg (by rw [hb]; decide), if_neg (by omega), if_neg (by omega), hwr]
        simp only [hb]
        rw [if_neg (by decide)]
      · have hd3 : S1.data 3 = formsP (all ++ [t]) := by rw [k1, s1, hfs]
        have hn := hLa.drop (S' := S1) k1 k2
        exact ⟨hn.torn, hn.dur, hn.sur, hn.arec, hn.srec, hn.size, fun q e _ => by cases e; exact ⟨k5, by rw [hl], hd3⟩, fun q e => by cases e; show (formsP (js.list ++ [t])).length ≤ _; rw [hl]; exact hsz2⟩
    · have hwr := happ _ e1
      rw [if_pos rfl] at hwr
      refine .inr ⟨rfl, S1, ?_, hl1.fail _ (by omega)⟩
      unfold appP
      rw [if_neg (by rw [hb]; decide), if_neg (by omega), if_neg (by omega), hwr]
      rw [if_pos (show (8 : Int) ≠ 0 by decide)]

theorem settled_la (h : La S j all sure K) (h1 : S'.data = S.data) : La (settled S' 3) none all sure K ∧ (S'.data 3 = formsP all → La (settled S' 3) none all all K) := by
  obtain ⟨x, hx⟩ := h.dur
  obtain ⟨y, hy⟩ := h.sur
  have hu : (settled S' 3).dur 3 = S.data 3 := by show upd S'.dur 3 (S'.data 3) 3 = _; rw [upd_same, h1]
  have hda : (settled S' 3).data 3 = S.data 3 := by show S'.data 3 = _; rw [h1]
  refine ⟨⟨by rw [hda]; exact h.torn, ⟨[], by rw [hda, hu, List.append_nil]⟩, ⟨y ++ x, by rw [hu, hx, hy, List.append_assoc]⟩, h.arec, h.srec, h.size, (fun js e => by cases e), fun js e => by cases e⟩, fun he => ?_⟩
  rw [h1] at he
  exact ⟨by rw [hda]; exact h.torn, ⟨[], by rw [hda, hu, List.append_nil]⟩, ⟨[], by rw [hu, he, List.append_nil]⟩, h.arec, h.arec, h.size, (fun js e => by cases e), fun js e => by cases e⟩

theorem La.sync (h : La S (some js) all sure K) (ho : Ok S) : (jsyncP S 3 js).2.1.list = js.list ∧
    (((jsyncP S 3 js).2.2 = 0 ∧ js.list = all ∧ La (jsyncP S 3 js).1 (some (jsyncP S 3 js).2.1) all all K) ∨ ((jsyncP S 3 js).2.2 ≠ 0 ∧ La (jsyncP S 3 js).1 (some (jsyncP S 3 js).2.1) all sure K)) := by
  unfold jsyncP
  cases hb : js.broken with
  | true =>
    rw [if_pos rfl]
    exact ⟨rfl, .inr ⟨show (7 : Int) ≠ 0 by decide, h⟩⟩
  | false =>
    rw [if_neg (by decide)]
    refine ⟨rfl, ?_⟩
    obtain ⟨hd, hl, hD⟩ := h.live js rfl hb
    have hjl := h.jl js rfl
    rcases strike_la h ho hd with ⟨S1, e1, k1, k2, k3, k4, k5, -⟩ | ⟨S1, e1, -, hl1⟩
    · have hs : syncP S 3 = if 0 < S1.lost then ({ S1 with lost := S1.lost - 1 }, 9) else (settled S1 3, 0) := by
        unfold syncP
        rw [if_neg (by rw [hd]; decide), e1, if_neg (by simp), if_neg (by decide)]
      rw [hs]
      by_cases hz : 0 < S1.lost
      · rw [if_pos hz]
        exact .inr ⟨show (9 : Int) ≠ 0 by decide, (h.drop (S' := { S1 with lost := S1.lost - 1 }) k1 k2).fail _ hjl⟩
      · rw [if_neg hz]
        have h3 := (settled_la h k1).2 (by rw [k1]; exact hD)
        refine .inl ⟨rfl, hl, h3.torn, h3.dur, h3.sur, h3.arec, h3.srec, h3.size, fun q e _ => ?_, fun q e => by cases e; exact hjl⟩
        cases e
        exact ⟨k5, hl, by show S1.data 3 = _; rw [k1]; exact hD⟩
    · have hs : syncP S 3 = (S1, 8) := by
        unfold syncP
        rw [if_neg (by rw [hd]; decide), e1, if_pos rfl]
      rw [hs]
      exact .inr ⟨show (8 : Int) ≠ 0 by decide, hl1.fail _ hjl⟩

/-- Opening at a machine that is up. -/
theorem La.open (h : La S none all sure K) (ho : Ok S) (hd : S.down = false) :
    (∃ S' e, openP S 3 = (S', e, []) ∧ (e = 8 ∨ e = 9) ∧ La S' none all sure K ∧ (S.left ≠ 0 ∨ S.lost ≠ 0)) ∨
    (∃ S' k us, openP S 3 = (S', 0, all.take k) ∧ all.take k = sure ++ us ∧ La S' (some ⟨all.take k, false⟩) (all.take k) (all.take k) K) := by
  rcases strike_la h ho hd with ⟨S1, e1, k1, k2, k3, k4, k5, ho1⟩ | ⟨S1, e1, hl0, hl1⟩
  · have hs : syncP S 3 = if 0 < S1.lost then ({ S1 with lost := S1.lost - 1 }, 9) else (settled S1 3, 0) := by
      unfold syncP
      rw [if_neg (by rw [hd]; decide), e1, if_neg (by simp), if_neg (by decide)]
    by_cases hz : 0 < S1.lost
    · rw [if_pos hz] at hs
      refine .inl ⟨{ S1 with lost := S1.lost - 1 }, 9, ?_, .inr rfl, h.drop k1 k2, .inr (by omega)⟩
      unfold openP
      rw [hs, if_pos (show (9 : Int) ≠ 0 by decide)]
    · rw [if_neg hz] at hs
      have h2 := (settled_la h k1).1
      have hdd : (settled S1 3).data 3 = S.data 3 := by show S1.data 3 = _; rw [k1]
      obtain ⟨k, r, hk, hr, hTr⟩ := torn_recs all (S.data 3) h.torn (fun t ht => by have := h.arec t ht; omega)
      obtain ⟨r1, r2, r3⟩ := recs_end (S.data 3)
      rw [hr] at r1 r2 r3
      have r1 : S.data 3 = formsP (all.take k) ++ r := r1
      have hlen := congrArg List.length r1
      rw [List.length_append] at hlen
      have hsub : ∃ us, all.take k = sure ++ us := by
        obtain ⟨x, hx⟩ := h.dur
        obtain ⟨y, hy⟩ := h.sur
        obtain ⟨q1, q2, q3⟩ := recs_end (y ++ x)
        have e : recs (S.data 3) = (sure ++ (recs (y ++ x)).1, (recs (y ++ x)).2) := by
          refine recs_is ?_ (fun t ht => ?_) q3
          · rw [hx, hy, List.append_assoc]
            conv => lhs; rw [q1]
            unfold formsP
            rw [List.map_append, List.flatten_append, List.append_assoc]
          · rcases List.mem_append.1 ht with ht | ht
            · have := h.srec t ht; omega
            · exact q2 t ht
        rw [hr] at e
        exact ⟨_, congrArg Prod.fst e⟩
      obtain ⟨us, hus⟩ := hsub
      have hrec : ∀ t ∈ all.take k, t.length ≤ 200 := fun t ht => h.arec t (List.mem_of_mem_take ht)
      have hsz : (formsP (all.take k)).length ≤ 245 * K := by have h5 := h.torn.1; have h6 := h.size; omega
      have good : ∀ S2 : Ds, S2.data 3 = formsP (all.take k) → S2.dur 3 = formsP (all.take k) → S2.down = false → La S2 (some ⟨all.take k, false⟩) (all.take k) (all.take k) K := fun S2 g1 g2 g3 =>
        ⟨by rw [g1]; exact Torn.refl _, ⟨[], by rw [g1, g2, List.append_nil]⟩, ⟨[], by rw [g2, List.append_nil]⟩, hrec, hrec, hsz, fun js e _ => by cases e; exact ⟨g3, rfl, g1⟩, fun js e => by cases e; exact hsz⟩
      by_cases hlt : (formsP (all.take k)).length < (S.data 3).length
      · have hdn : (settled S1 3).down = false := k5
        rcases strike_la h2 (ho1.settled 3) hdn with ⟨S3, e3, m1, m2, -, -, m5, -⟩ | ⟨S3, e3, hl3, hl4⟩
        · have ht : truncP (settled S1 3) 3 ((formsP (all.take k)).length : Nat) = (truncd S3 3 (formsP (all.take k)).length, 0) := by
            unfold truncP
            rw [if_neg (by rw [hdn]; decide), e3, if_neg (by simp), if_neg (fun hh => by
              rcases hh with hh | hh | hh
              · exact absurd hh (by decide)
              · omega
              · have hh : ((S3.data 3).length : Int) < ((formsP (all.take k)).length : Nat) := hh
                rw [m1, hdd] at hh
                omega), Int.toNat_natCast]
          have hda : (truncd S3 3 (formsP (all.take k)).length).data 3 = formsP (all.take k) := by
            show upd S3.data 3 ((S3.data 3).take _) 3 = _
            rw [upd_same, m1, hdd, r1]
            exact List.take_left' rfl
          have hdu : (truncd S3 3 (formsP (all.take k)).length).dur 3 = formsP (all.take k) := by
            rw [truncd_dur, upd_same, m1, hdd, r1]
            exact List.take_left' rfl
          refine .inr ⟨truncd S3 3 (formsP (all.take k)).length, k, us, ?_, hus, good _ hda hdu m5⟩
          unfold openP
          rw [hs]
          simp only [hdd, hr]
          rw [if_neg (by decide), if_pos hlt, ht]
          exact if_neg (fun hh => hh rfl)
        · have ht : truncP (settled S1 3) 3 ((formsP (all.take k)).length : Nat) = (S3, 8) := by
            unfold truncP
            rw [if_neg (by rw [hdn]; decide), e3, if_pos rfl]
          refine .inl ⟨S3, 8, ?_, .inl rfl, hl4, .inl ?_⟩
          · unfold openP
            rw [hs]
            simp only [hdd, hr]
            rw [if_neg (by decide), if_pos hlt, ht]
            exact if_pos (show (8 : Int) ≠ 0 by decide)
          · intro h0
            have e2 : strikeP S = (S, false) := by unfold strikeP; rw [if_pos h0]
            rw [e2] at e1
            have e4 : S = S1 := congrArg Prod.fst e1
            exact hl3 (by show S1.left = 0; rw [← e4]; exact h0)
      · have hr0 : r = [] := List.eq_nil_of_length_eq_zero (by omega)
        rw [hr0, List.append_nil] at r1
        refine .inr ⟨settled S1 3, k, us, ?_, hus, good _ (by rw [hdd]; exact r1) (by show upd S1.dur 3 (S1.data 3) 3 = _; rw [upd_same, k1]; exact r1) k5⟩
        unfold openP
        rw [hs]
        simp only [hdd, hr]
        rw [if_neg (by decide), if_neg hlt]
  · have hs : syncP S 3 = (S1, 8) := by
      unfold syncP
      rw [if_neg (by rw [hd]; decide), e1, if_pos rfl]
    refine .inl ⟨S1, 8, ?_, .inl rfl, hl1, .inl hl0⟩
    unfold openP
    rw [hs, if_pos (show (8 : Int) ≠ 0 by decide)]
theorem La.crashP (h : La S j all sure K) (ho : Ok S) (keep : List Int) : La { crashP S keep with down := false } none all sure K := by
  unfold Go.Proofs.YtjlndgkahmcfdaaDoor.crashP
  split
  · exact h.drop rfl rfl
  · exact (h.crash ho keep).drop rfl rfl
theorem La.new : La (settled newD 3) (some ⟨[], false⟩) [] [] 0 :=
  ⟨Torn.refl _, ⟨[], rfl⟩, ⟨[], rfl⟩, (fun t ht => by cases ht), (fun t ht => by cases ht), Nat.le_refl _, fun js e _ => by cases e; exact ⟨rfl, rfl, rfl⟩, fun js e => by cases e; exact Nat.le_refl _⟩
end

end Go.Proofs.YtjlndgkahmcfdaaDoor
