/- Calendar's functions at any ints, each by one contract; CalendarWeeks' walk. Conditions: the array 'before' is there as its text lays it. -/
import Derived.Test.YtmaapbifkimdcaaDoorKe
namespace Go.Proofs.YtmaapbifkimdcaaDoor
set_option maxRecDepth 20000
open Go.RowKit

/-- What Date says of a number. -/
def DateQ (a y mo dm e : Int) : Prop := (∃ d m : Nat, a = (d : Int) ∧ DateP d m y mo dm ∧ e = 0) ∨ (NoDay a ∧ y = 0 ∧ mo = 0 ∧ dm = 0 ∧ e = 3)
/-- What Day says of a date. -/
def DayQ (y mo dm n f : Int) : Prop := (∃ d m : Nat, DateP d m y mo dm ∧ n = (d : Int) ∧ f = 0) ∨ (¬ IsDate y mo dm ∧ n = 0 ∧ f = 3)
/-- What Month says of a number. -/
def MonQ (a s l e : Int) : Prop := (∃ d m : Nat, a = (d : Int) ∧ d ≤ 100000 ∧ Mon d m ∧ s = (stP m : Int) ∧ l = lastP m ∧ e = 0) ∨ (NoDay a ∧ s = 0 ∧ l = 0 ∧ e = 3)
/-- What Add says of a number and a number of months. -/
def AddQ (a k x f : Int) : Prop := (∃ d m r m' : Nat, a = (d : Int) ∧ AddP d m r m' k ∧ x = (r : Int) ∧ f = 0) ∨
  ((NoDay a ∨ ∃ d m : Nat, a = (d : Int) ∧ d ≤ 100000 ∧ Mon d m ∧ NoAdd d m k) ∧ x = 0 ∧ f = 3)
theorem day_or (a : Int) : NoDay a ∨ ∃ d : Nat, a = (d : Int) ∧ d ≤ 100000 := by
  unfold NoDay
  by_cases h : a < 0 ∨ 100000 < a
  · exact .inl h
  · exact .inr ⟨a.toNat, by omega, by omega⟩
theorem dateQ_ex (a : Int) : ∃ y mo dm e, DateQ a y mo dm e := by
  rcases day_or a with h | ⟨d, rfl, hd⟩
  · exact ⟨0, 0, 0, 3, .inr ⟨h, rfl, rfl, rfl, rfl⟩⟩
  · obtain ⟨m, y, mo, dm, h⟩ := date_ex hd
    exact ⟨y, mo, dm, 0, .inl ⟨d, m, rfl, h, rfl⟩⟩
theorem dayQ_ex (y mo dm : Int) : ∃ n f, DayQ y mo dm n f := by
  by_cases h : IsDate y mo dm
  · obtain ⟨d, m, h⟩ := h
    exact ⟨d, 0, .inl ⟨d, m, h, rfl, rfl⟩⟩
  · exact ⟨0, 3, .inr ⟨h, rfl, rfl⟩⟩
theorem monQ_ex (a : Int) : ∃ s l e, MonQ a s l e := by
  rcases day_or a with h | ⟨d, rfl, hd⟩
  · exact ⟨0, 0, 3, .inr ⟨h, rfl, rfl, rfl⟩⟩
  · obtain ⟨m, h⟩ := mon_ex hd
    exact ⟨_, _, 0, .inl ⟨d, m, rfl, hd, h, rfl, rfl, rfl⟩⟩
theorem addQ_ex (a k : Int) : ∃ x f, AddQ a k x f := by
  rcases day_or a with h | ⟨d, rfl, hd⟩
  · exact ⟨0, 3, .inr ⟨.inl h, rfl, rfl⟩⟩
  · obtain ⟨m, h⟩ := mon_ex hd
    by_cases h2 : NoAdd d m k
    · exact ⟨0, 3, .inr ⟨.inr ⟨d, m, rfl, hd, h, h2⟩, rfl, rfl⟩⟩
    · have : ∃ r m', AddP d m r m' k := by
        apply Classical.byContradiction
        intro hn
        exact h2 fun r m' hr => hn ⟨r, m', hr⟩
      obtain ⟨r, m', h3⟩ := this
      exact ⟨r, 0, .inl ⟨d, m, r, m', rfl, h3, rfl, rfl⟩⟩
theorem Date_any (a y mo dm e : Int) (H : Hid (DateQ a y mo dm e)) (w : World) (hB : Hid (BefT w)) :
    Calls Tryd.prog 9 #[.int .i64 a] w (TupB #[.int .i64 y, .int .i64 mo, .int .i64 dm, .int .i64 e] w) := by
  rcases H.out with ⟨d, m, rfl, h, rfl⟩ | ⟨h, rfl, rfl, rfl, rfl⟩
  · exact Date_yes d m y mo dm (Lib.hid h) w hB
  · exact (Date_no a w h).mono fun _ _ h => ⟨h.1, h.2 ▸ Below.refl _ _⟩
theorem Day_any (y mo dm n f : Int) (H : Hid (DayQ y mo dm n f)) (w : World) (hB : Hid (BefT w)) :
    Calls Tryd.prog 11 #[.int .i64 y, .int .i64 mo, .int .i64 dm] w (TupB #[.int .i64 n, .int .i64 f] w) := by
  rcases H.out with ⟨d, m, h, rfl, rfl⟩ | ⟨h, rfl, rfl⟩
  · exact Day_yes d m y mo dm (Lib.hid h) w hB
  · exact Day_no y mo dm (Lib.hid h) w hB
theorem Month_any (a s l e : Int) (H : Hid (MonQ a s l e)) (w : World) (hB : Hid (BefT w)) :
    Calls Tryd.prog 17 #[.int .i64 a] w (TupB #[.int .i64 s, .int .i64 l, .int .i64 e] w) := by
  rcases H.out with ⟨d, m, rfl, hd, h, rfl, rfl, rfl⟩ | ⟨h, rfl, rfl, rfl⟩
  · exact Month_yes d m hd (Lib.hid h) w hB
  · exact (Month_no a w h).mono fun _ _ h => ⟨h.1, h.2 ▸ Below.refl _ _⟩
theorem Add_any (a k x f : Int) (H : Hid (AddQ a k x f)) (w : World) (hB : Hid (BefT w)) :
    Calls Tryd.prog 15 #[.int .i64 a, .int .i64 k] w (TupB #[.int .i64 x, .int .i64 f] w) := by
  rcases H.out with ⟨d, m, r, m', rfl, h, rfl, rfl⟩ | ⟨h | ⟨d, m, rfl, hd, h, h2⟩, rfl, rfl⟩
  · exact Add_yes d m r m' k (Lib.hid h) w hB
  · exact Add_noDay a k w h
  · exact Add_no d m k hd (Lib.hid h) (Lib.hid h2) w hB
theorem Weekday_at (d : Nat) (x y : Int) (hx : x = (d : Int)) (hy : y = (((d + 5) % 7 : Nat) : Int)) (hd : d ≤ 100000) (w : World) :
    Calls Tryd.prog 13 #[.int .i64 x] w fun e w' => e = .returned (.tuple #[.int .i64 y, .int .i64 0]) ∧ w = w' := by
  subst hx hy
  exact Weekday_yes d hd w
set_option maxHeartbeats 2000000 in
theorem weeks_out (a : Int) (h : a < 0 ∨ 99993 < a) (w : World) (hB : Hid (BefT w)) :
    Calls Tryd.prog 5 #[.int .i64 a] w (YesB w) := by
  have C := Lib.hid (sane_any w hB)
  rcases h with h | h
  · go_enter Tryd.func5, Tryd.ntmps5
    go_wp2_with fail
    refine C.out.mono ?_
    rintro e w1 ⟨rfl, hb⟩
    have HB := Lib.hid hb
    clear hb
    go_wp2_with fail
    go_ret
    exact ⟨rfl, HB.out⟩
  · have h2 : decide (a < 0) = false := by simp; omega
    go_enter Tryd.func5, Tryd.ntmps5
    go_wp2_with fail
    refine C.out.mono ?_
    rintro e w1 ⟨rfl, hb⟩
    have HB := Lib.hid hb
    clear hb
    go_wp2_with fail
    go_ret
    exact ⟨rfl, HB.out⟩
set_option maxHeartbeats 2000000 in
theorem weeks_in (d : Nat) (hd : d ≤ 99993) (w : World) (hB : Hid (BefT w)) :
    Calls Tryd.prog 5 #[.int .i64 (d : Int)] w (YesB w) := by
  have C := Lib.hid (sane_any w hB)
  obtain ⟨x, hx⟩ : ∃ x : Int, x = (((d + 5) % 7 : Nat) : Int) := ⟨_, rfl⟩
  have h0 : 0 ≤ x := by omega
  have h6 : x ≤ 6 := by omega
  have C1 := Lib.hid (Weekday_at d (d : Int) x rfl hx (by omega))
  have C2 := Lib.hid (Weekday_at (d + 1) ((d : Int) + 1) ((x + 1) % 7) (by omega) (by omega) (by omega))
  have C3 := Lib.hid (Weekday_at (d + 7) ((d : Int) + 7) x (by omega) (by omega) (by omega))
  have h1 : decide ((d : Int) < 0) = false := by simp
  have h2 : decide ((99993 : Int) < (d : Int)) = false := by simp; omega
  clear hx
  go_enter Tryd.func5, Tryd.ntmps5
  go_wp2_with fail
  refine C.out.mono ?_
  rintro e w1 ⟨rfl, hb⟩
  have HB := Lib.hid hb
  clear hb
  go_wp2_with fail
  refine (C1.out _).mono ?_
  rintro e w_ ⟨rfl, rfl⟩
  go_wp2_with fail
  refine (C2.out _).mono ?_
  rintro e w_ ⟨rfl, rfl⟩
  go_wp2_with fail
  refine (C3.out _).mono ?_
  rintro e w_ ⟨rfl, rfl⟩
  go_wp2_with fail
  go_ret
  exact ⟨by simp, HB.out⟩
theorem weeks_walk (a : Int) (w : World) (hB : Hid (BefT w)) :
    Calls Tryd.prog 5 #[.int .i64 a] w (YesB w) := by
  by_cases h : a < 0 ∨ 99993 < a
  · exact weeks_out a h w hB
  · obtain ⟨d, rfl⟩ : ∃ d : Nat, a = (d : Int) := ⟨a.toNat, by omega⟩
    exact weeks_in d (by omega) w hB
end Go.Proofs.YtmaapbifkimdcaaDoor
