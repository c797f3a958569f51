/- Days and months, plainly: the first day of a month, the month of a day, and what the statements ask of them. No condition but that months are below 3700. -/
namespace Go.Proofs.YtmaapbifkimdcaaDoor

def befL : List Nat := [0, 31, 59, 90, 120, 151, 181, 212, 243, 273, 304, 334]
def befP (m : Nat) : Nat := befL.getD m 0
def leapP (y : Nat) : Nat := (y + 3) / 4 - (y + 99) / 100 + (y + 399) / 400
/-- The first day of a month (0: January 2000). -/
def stP (n : Nat) : Nat := n / 12 * 365 + befP (n % 12) + leapP ((n + 10) / 12)
def szP (n : Nat) : Nat := stP (n + 1) - stP n
/-- The days of a month, by the year's and the month's number. -/
def lpP (y : Nat) : Bool := y % 4 == 0 && (y % 100 != 0 || y % 400 == 0)
def lenP (y m : Nat) : Nat := if m == 2 && lpP y then 29 else if m == 2 then 28 else if m == 4 || m == 6 || m == 9 || m == 11 then 30 else 31

theorem steps_all {n : Nat} (h : n < 3700) : stP n + 28 ≤ stP (n + 1) ∧ stP (n + 1) ≤ stP n + 31 ∧ szP n = lenP (2000 + n / 12) (n % 12 + 1) := by
  have hall : (List.range 3700).all (fun n => decide (stP n + 28 ≤ stP (n + 1)) && decide (stP (n + 1) ≤ stP n + 31) && decide (szP n = lenP (2000 + n / 12) (n % 12 + 1))) = true := by decide +kernel
  have := List.all_eq_true.1 hall n (List.mem_range.2 h)
  simp only [Bool.and_eq_true, decide_eq_true_eq] at this
  exact ⟨this.1.1, this.1.2, this.2⟩
theorem stP_up {a : Nat} : ∀ {b : Nat}, a ≤ b → b ≤ 3700 → stP a + 28 * (b - a) ≤ stP b := by
  intro b
  induction b with
  | zero => intro h _; obtain rfl : a = 0 := by omega
            simp
  | succ b ih =>
    intro h h2
    by_cases e : a = b + 1
    · subst e; simp
    · have h1 := ih (by omega) (by omega)
      have h3 := (steps_all (n := b) (by omega)).1
      omega
theorem stP_ge {n : Nat} (h : n ≤ 3700) : 28 * n ≤ stP n := by
  have := stP_up (a := 0) (b := n) (Nat.zero_le _) h
  omega
theorem st_top : stP 3286 = 100016 := by decide +kernel
theorem st_last : stP 3285 = 99985 := by decide +kernel
/-- Month m has day d. -/
structure Mon (d m : Nat) : Prop where
  lo : stP m ≤ d
  hi : d < stP (m + 1)
  le : m ≤ 3285
theorem mon_ex : ∀ {d : Nat}, d ≤ 100000 → ∃ m, Mon d m := by
  intro d
  induction d with
  | zero => intro _; exact ⟨0, by decide +kernel, by decide +kernel, by omega⟩
  | succ d ih =>
    intro h
    obtain ⟨m, h1, h2, h3⟩ := ih (by omega)
    by_cases e : d + 1 < stP (m + 1)
    · exact ⟨m, by omega, e, h3⟩
    · have hs := (steps_all (n := m + 1) (by omega)).1
      refine ⟨m + 1, by omega, by omega, ?_⟩
      by_cases e2 : m = 3285
      · subst e2; rw [st_top] at e; omega
      · omega
theorem mon_mono {a b m k : Nat} (h : Mon a m) (h2 : Mon b k) (hab : a ≤ b) : m ≤ k := by
  rcases Nat.lt_or_ge k m with hlt | hge
  · have := stP_up (a := k + 1) (b := m) (by omega) (by have := h.le; omega)
    have := h.lo
    have := h2.hi
    omega
  · exact hge
theorem mon_eq {a m k : Nat} (h : Mon a m) (h2 : Mon a k) : m = k :=
  Nat.le_antisymm (mon_mono h h2 (Nat.le_refl _)) (mon_mono h2 h (Nat.le_refl _))
theorem mon_of {n k : Nat} (hn : n ≤ 3285) (hk : k < szP n) : Mon (stP n + k) n := by
  unfold szP at hk
  exact ⟨by omega, by omega, hn⟩
theorem mon_le {d m h : Nat} (H : Mon d m) (hh : h < 3600) : d < stP (h + 1) ↔ m ≤ h := by
  constructor
  · intro h2
    rcases Nat.lt_or_ge h m with hlt | hge
    · have := stP_up (a := h + 1) (b := m) (by omega) (by have := H.le; omega)
      have := H.lo
      omega
    · exact hge
  · intro h2
    have := stP_up (a := m + 1) (b := h + 1) (by omega) (by omega)
    have := H.hi
    omega
theorem mon_28 {d m : Nat} (H : Mon d m) : m ≤ d / 28 := by
  have h1 := stP_ge (n := m) (by have := H.le; omega)
  have h2 := H.lo
  omega
theorem len_ge (y m : Nat) : 28 ≤ lenP y m ∧ lenP y m ≤ 31 := by
  unfold lenP
  split <;> (try split) <;> (try split) <;> omega
theorem sz_le {n : Nat} (h : n < 3700) : 28 ≤ szP n ∧ szP n ≤ 31 := by
  have := steps_all h
  unfold szP
  omega
/-- Day d lies in month m, and has this date. -/
structure DateP (d m : Nat) (y mo dm : Int) : Prop where
  mon : Mon d m
  le : d ≤ 100000
  ey : y = 2000 + (m : Int) / 12
  emo : mo = (m : Int) % 12 + 1
  edm : dm = (d : Int) - (stP m : Int) + 1
theorem date_ex {d : Nat} (h : d ≤ 100000) : ∃ m y mo dm, DateP d m y mo dm := by
  obtain ⟨m, hm⟩ := mon_ex h
  exact ⟨m, _, _, _, hm, h, rfl, rfl, rfl⟩
theorem DateP.bd {d m : Nat} {y mo dm : Int} (h : DateP d m y mo dm) : 2000 ≤ y ∧ y ≤ 2273 ∧ 1 ≤ mo ∧ mo ≤ 12 ∧ 1 ≤ dm ∧ dm ≤ 31 ∧ (y - 2000) * 12 + mo - 1 = (m : Int) ∧ m ≤ 3285 ∧ dm ≤ (szP m : Int) ∧ (stP m : Int) + dm - 1 = (d : Int) := by
  obtain ⟨⟨h1, h2, h3⟩, h4, rfl, rfl, rfl⟩ := h
  have h5 := steps_all (n := m) (by omega)
  have h6 : szP m = stP (m + 1) - stP m := rfl
  omega
/-- A date that a day can have, by its month's number. -/
theorem date_of {m k : Nat} {y mo dm : Int} (h1 : y = 2000 + (m : Int) / 12) (h2 : mo = (m : Int) % 12 + 1) (h3 : 1 ≤ dm) (h4 : dm ≤ (szP m : Int)) (h5 : m < 3600) (h6 : (stP m : Int) + dm - 1 = (k : Int)) (h7 : k ≤ 100000) : DateP k m y mo dm := by
  have h8 := steps_all (n := m) (by omega)
  have h9 : szP m = stP (m + 1) - stP m := rfl
  have hm : m ≤ 3285 := by
    rcases Nat.lt_or_ge 3285 m with hlt | hge
    · have := stP_up (a := 3286) (b := m) hlt (by omega)
      rw [st_top] at this
      omega
    · exact hge
  exact ⟨⟨by omega, by omega, hm⟩, h7, h1, h2, by omega⟩
theorem date_day {d d' m m' : Nat} {y mo dm : Int} (h : DateP d m y mo dm) (h' : DateP d' m' y mo dm) : d = d' ∧ m = m' := by
  have a := h.bd
  have b := h'.bd
  have e : m = m' := by omega
  subst e
  omega
theorem date_date {d m m' : Nat} {y mo dm y' mo' dm' : Int} (h : DateP d m y mo dm) (h' : DateP d m' y' mo' dm') : m = m' ∧ y = y' ∧ mo = mo' ∧ dm = dm' := by
  have e := mon_eq h.mon h'.mon
  subst e
  exact ⟨rfl, by rw [h.ey, h'.ey], by rw [h.emo, h'.emo], by rw [h.edm, h'.edm]⟩
/-- The day that is k months later. -/
structure AddP (d m r m' : Nat) (k : Int) : Prop where
  mon : Mon d m
  le : d ≤ 100000
  to : (m : Int) + k = (m' : Int)
  rm : Mon r m'
  rle : r ≤ 100000
  eq : r = stP m' + min (d - stP m) (szP m' - 1)
theorem add_rm {d m m' : Nat} (hm : m' ≤ 3287) : stP m' + min (d - stP m) (szP m' - 1) < stP (m' + 1) := by
  have h8 := steps_all (n := m') (by omega)
  have h9 : szP m' = stP (m' + 1) - stP m' := rfl
  omega
theorem add_of {d m m' : Nat} {k : Int} (h : Mon d m) (hd : d ≤ 100000) (hk : (m : Int) + k = (m' : Int)) (hm : m' ≤ 3287) (hr : stP m' + min (d - stP m) (szP m' - 1) ≤ 100000) : AddP d m (stP m' + min (d - stP m) (szP m' - 1)) m' k := by
  have hm2 : m' ≤ 3285 := by
    rcases Nat.lt_or_ge 3285 m' with hlt | hge
    · have := stP_up (a := 3286) (b := m') hlt (by omega)
      rw [st_top] at this
      omega
    · exact hge
  exact ⟨h, hd, hk, ⟨by omega, add_rm hm, hm2⟩, hr, rfl⟩
theorem AddP.uniq {d m r m' r2 m2 : Nat} {k : Int} (h : AddP d m r m' k) (h2 : AddP d m r2 m2 k) : r = r2 ∧ m' = m2 := by
  have e : m' = m2 := by have := h.to; have := h2.to; omega
  subst e
  exact ⟨by rw [h.eq, h2.eq], rfl⟩
end Go.Proofs.YtmaapbifkimdcaaDoor
