/- The walk of the reference's Add; CalendarTells' walk. Conditions: the array 'before' is there as its text lays it. -/
import Derived.Test.YtmaapbifkimdcaaDoorKm
namespace Go.Proofs.YtmaapbifkimdcaaDoor
set_option maxRecDepth 20000
open Go.RowKit

/-- The month's number that a number of months later has, and what the reference asks of Day then. -/
theorem add_day {d mm : Nat} {a y mo dm k x f : Int} (h : DateP d mm y mo dm) (ha : a = (d : Int)) (H : AddQ a k x f) {Y M l : Int} (hY : Y = 2000 + ((mm : Int) + k) / 12) (hM : M = ((mm : Int) + k) % 12 + 1)
    (hl : ∀ n : Nat, n < 3700 → (mm : Int) + k = (n : Int) → l = (szP n : Int)) : DayQ Y M (min dm l) x f := by
  subst ha
  have hmm := h.mon.le
  rcases H with ⟨d', m', r, m2, hd', A, rfl, rfl⟩ | ⟨hn, rfl, rfl⟩
  · obtain rfl : d' = d := by omega
    obtain rfl := mon_eq A.mon h.mon
    have t := A.to
    have b := h.bd
    have hr := A.rm
    have hl2 := hl m2 (by have := hr.le; omega) t
    have e := A.eq
    have h8 := steps_all (n := m2) (by have := hr.le; omega)
    have h9 : szP m2 = stP (m2 + 1) - stP m2 := rfl
    refine .inl ⟨r, m2, ⟨hr, A.rle, by rw [hY, t], by rw [hM, t], ?_⟩, rfl, rfl⟩
    rw [hl2]
    omega
  · refine .inr ⟨?_, rfl, rfl⟩
    rintro ⟨d2, m2, h2⟩
    have b := h2.bd
    have b1 := h.bd
    have hm2 : (mm : Int) + k = (m2 : Int) := by omega
    have hl2 := hl m2 (by have := h2.mon.le; omega) hm2
    have h8 := steps_all (n := m2) (by have := h2.mon.le; omega)
    have h9 : szP m2 = stP (m2 + 1) - stP m2 := rfl
    rcases hn with hn | ⟨d', m', hd', hle, hm', hno⟩
    · unfold NoDay at hn
      have := h.le
      omega
    · obtain rfl : d' = d := by omega
      obtain rfl := mon_eq hm' h.mon
      have e := h2.edm
      rw [hl2] at e
      refine hno d2 m2 ⟨h.mon, h.le, hm2, h2.mon, h2.le, ?_⟩
      omega
theorem rAdd_noDay (a k : Int) (h : NoDay a) (w : World) :
    Calls Tryd.prog 16 #[.int .i64 a, .int .i64 k] w fun e w' => e = .returned (.tuple #[.int .i64 0, .int .i64 3]) ∧ w = w' := by
  have C := Lib.hid (rDate_no a w h)
  clear h
  go_enter Tryd.func16, Tryd.ntmps16
  go_wp2_with fail
  refine C.out.mono ?_
  rintro e w' ⟨rfl, rfl⟩
  go_wp2_with fail
  go_ret2
  exact ⟨rfl, rfl⟩
theorem rAdd_far (d m : Nat) (y mo dm k : Int) (H : Hid (DateP d m y mo dm)) (hk : k < -5000 ∨ 5000 < k) (w : World) :
    Calls Tryd.prog 16 #[.int .i64 (d : Int), .int .i64 k] w fun e w' => e = .returned (.tuple #[.int .i64 0, .int .i64 3]) ∧ w = w' := by
  have C := Lib.hid (rDate_yes d m y mo dm H w)
  rcases hk with hk | hk
  · go_enter Tryd.func16, Tryd.ntmps16
    go_wp2_with fail
    refine C.out.mono ?_
    rintro e w' ⟨rfl, rfl⟩
    go_wp2_with fail
    go_ret2
    exact ⟨rfl, rfl⟩
  · have h2 : decide (k < -5000) = false := decide_eq_false (by omega)
    go_enter Tryd.func16, Tryd.ntmps16
    go_wp2_with fail
    refine C.out.mono ?_
    rintro e w' ⟨rfl, rfl⟩
    go_wp2_with fail
    go_ret2
    exact ⟨rfl, rfl⟩
/-- A year and a month by the month's number, which may be negative. -/
def YM (n Y M : Int) : Prop := Y = 2000 + n / 12 ∧ M = n % 12 + 1
set_option maxHeartbeats 8000000 in
theorem rAdd_near (d m : Nat) (y mo dm k x f : Int) (H : Hid (DateP d m y mo dm)) (HA : Hid (AddQ (d : Int) k x f)) (hk0 : -5000 ≤ k) (hk1 : k ≤ 5000) (w : World) :
    Calls Tryd.prog 16 #[.int .i64 (d : Int), .int .i64 k] w fun e w' => e = .returned (.tuple #[.int .i64 x, .int .i64 f]) ∧ w = w' := by
  have C := Lib.hid (rDate_yes d m y mo dm H w)
  have b := H.out.bd
  have hm := H.out.mon.le
  have h1 : decide (k < -5000) = false := decide_eq_false (by omega)
  have h2 : decide (5000 < k) = false := decide_eq_false (by omega)
  have H0 : Hid (YM (m : Int) y mo) := ⟨H.out.ey, H.out.emo⟩
  -- what stands behind both loops
  have TAIL : Hid (∀ (Y M : Int), YM ((m : Int) + k) Y M → ∃ l : Int, 28 ≤ l ∧ l ≤ 31 ∧ (∀ w, Calls Tryd.prog 24 #[.int .i64 Y, .int .i64 M] w fun e w' => e = .returned (.int .i64 l) ∧ w = w') ∧
      (∀ w, Calls Tryd.prog 12 #[.int .i64 Y, .int .i64 M, .int .i64 (min dm l)] w fun e w' => e = .returned (.tuple #[.int .i64 x, .int .i64 f]) ∧ w = w')) := by
    rintro Y M ⟨hY, hM⟩
    obtain ⟨yn, hyn⟩ : ∃ n : Nat, Y = (n : Int) := ⟨Y.toNat, by omega⟩
    obtain ⟨mn, hmn⟩ : ∃ n : Nat, M = (n : Int) := ⟨M.toNat, by omega⟩
    have hlg := len_ge yn mn
    refine ⟨((lenP yn mn : Nat) : Int), by omega, by omega, fun w => rLength_any yn mn Y M _ hyn hmn rfl (by omega) (by omega) w, fun w => rDay_any _ _ _ _ _ (Lib.hid (add_day H.out rfl HA.out hY hM ?_)) w⟩
    intro n hn e
    rw [(steps_all hn).2.2, show 2000 + n / 12 = yn by omega, show n % 12 + 1 = mn by omega]
  obtain ⟨b1, b2, b3, b4, b5, b6, -⟩ := b
  clear HA H
  go_enter Tryd.func16, Tryd.ntmps16
  go_wp2_with fail
  refine C.out.mono ?_
  rintro e w' ⟨rfl, rfl⟩
  go_wp2_with fail
  go_loop [6, 7, 10] (fun s6 s7 s10 => ∃ (i : Nat) (Y M : Int), s6 = .int .i64 Y ∧ s7 = .int .i64 M ∧ s10 = .int .i64 (i : Int) ∧ ((i : Int) ≤ k ∨ i = 0) ∧ 1000 ≤ Y ∧ Y ≤ 4000 ∧ 1 ≤ M ∧ M ≤ 12 ∧ Hid (YM ((m : Int) + (i : Int)) Y M)) (fun _ _ s10 => (5001 - RowKit.intOf s10).toNat)
  case atStart => exact ⟨0, y, mo, rfl, rfl, rfl, .inr rfl, by omega, by omega, by omega, by omega, (by have := H0.out; unfold YM at this; show YM _ _ _; unfold YM; simpa using this)⟩
  case round =>
    obtain ⟨i, Y, M, rfl, rfl, rfl, hi, hY0, hY1, hM0, hM1, HY⟩ := hrel
    have hi5 : i ≤ 5000 := by omega
    by_cases hlt : (i : Int) < k
    · by_cases h12 : M = 12
      · subst h12
        have HY2 : Hid (YM ((m : Int) + ((i + 1 : Nat) : Int)) (Y + 1) 1) := by show YM _ _ _; have := HY.out; unfold YM at this ⊢; omega
        have hY2 : Y + 1 ≤ 4000 := by have := HY2.out; unfold YM at this; omega
        clear hi
        go_wp2_with fail
        go_round
        case rel => exact ⟨i + 1, Y + 1, 1, rfl, rfl, by go_num, by omega, by omega, hY2, by omega, by omega, HY2⟩
        case measure => simp [RowKit.intOf]; omega
      · have hM3 : M ≤ 11 := by omega
        have hM4 : decide (12 < M + 1) = false := decide_eq_false (by omega)
        have HY2 : Hid (YM ((m : Int) + ((i + 1 : Nat) : Int)) Y (M + 1)) := by show YM _ _ _; have := HY.out; unfold YM at this ⊢; omega
        clear hi h12
        go_wp2_with fail
        go_round
        case rel => exact ⟨i + 1, Y, M + 1, rfl, rfl, by go_num, by omega, by omega, by omega, by omega, by omega, HY2⟩
        case measure => simp [RowKit.intOf]; omega
    · have hlt2 : decide ((i : Int) < k) = false := decide_eq_false hlt
      have HY3 : Hid (0 ≤ k → YM ((m : Int) + k) Y M) := by intro h0; have := HY.out; rw [show (i : Int) = k by omega] at this; exact this
      have HY4 : Hid (k < 0 → YM (m : Int) Y M) := by
        intro h0
        have := HY.out
        rw [show (i : Int) = 0 by omega] at this
        simpa using this
      clear hi hlt HY
      go_wp2_with fail
      go_loop [6, 7, 11] (fun s6 s7 s11 => ∃ (j : Nat) (Y M : Int), s6 = .int .i64 Y ∧ s7 = .int .i64 M ∧ s11 = .int .i64 (-(j : Int)) ∧ (k ≤ -(j : Int) ∨ j = 0) ∧ 1000 ≤ Y ∧ Y ≤ 4000 ∧ 1 ≤ M ∧ M ≤ 12 ∧ Hid (0 ≤ k → j = 0 ∧ YM ((m : Int) + k) Y M) ∧ Hid (k < 0 → YM ((m : Int) - (j : Int)) Y M)) (fun _ _ s11 => (5001 + RowKit.intOf s11).toNat)
      case atStart => exact ⟨0, Y, M, rfl, rfl, rfl, .inr rfl, hY0, hY1, hM0, hM1, (fun h => ⟨rfl, HY3.out h⟩), (fun h => by have := HY4.out h; simpa using this)⟩
      case round =>
        clear HY3 HY4 hY0 hY1 hM0 hM1
        obtain ⟨j, Y, M, rfl, rfl, rfl, hj, hY0, hY1, hM0, hM1, HP, HQ⟩ := hrel
        have hj5 : j ≤ 5000 := by omega
        by_cases hlt : k < -(j : Int)
        · have HY : Hid (YM ((m : Int) - (j : Int)) Y M) := HQ.out (by omega)
          by_cases h12 : M = 1
          · subst h12
            have HY2 : Hid (YM ((m : Int) - ((j + 1 : Nat) : Int)) (Y - 1) 12) := by show YM _ _ _; have := HY.out; unfold YM at this ⊢; omega
            have hY2 : 1000 ≤ Y - 1 := by have := HY2.out; unfold YM at this; omega
            clear hj
            go_wp2_with fail
            go_round
            case rel => exact ⟨j + 1, Y - 1, 12, rfl, rfl, by go_num, by omega, hY2, by omega, by omega, by omega, (fun h => by omega), (fun _ => HY2.out)⟩
            case measure => simp [RowKit.intOf]; omega
          · have hM3 : 2 ≤ M := by omega
            have hM4 : decide (M - 1 < 1) = false := decide_eq_false (by omega)
            have HY2 : Hid (YM ((m : Int) - ((j + 1 : Nat) : Int)) Y (M - 1)) := by show YM _ _ _; have := HY.out; unfold YM at this ⊢; omega
            clear hj h12
            go_wp2_with fail
            go_round
            case rel => exact ⟨j + 1, Y, M - 1, rfl, rfl, by go_num, by omega, by omega, by omega, by omega, by omega, (fun h => by omega), (fun _ => HY2.out)⟩
            case measure => simp [RowKit.intOf]; omega
        · have hlt2 : decide (k < -(j : Int)) = false := decide_eq_false hlt
          have HY : YM ((m : Int) + k) Y M := by
            by_cases h0 : 0 ≤ k
            · exact (HP.out h0).2
            · have := HQ.out (by omega)
              rw [show (m : Int) - (j : Int) = (m : Int) + k by omega] at this
              exact this
          obtain ⟨l, hl0, hl1, CL, CD⟩ := TAIL.out Y M HY
          have HL := Lib.hid CL
          have HD := Lib.hid CD
          clear HY CL CD hj hlt
          by_cases hmin : dm ≤ l
          · rw [Int.min_eq_left hmin] at HD
            go_wp2_with fail
            refine (HL.out _).mono ?_
            rintro e w_ ⟨rfl, rfl⟩
            go_wp2_with fail
            refine (HD.out _).mono ?_
            rintro e w_ ⟨rfl, rfl⟩
            go_wp2_with fail
            go_ret2
            exact ⟨rfl, rfl⟩
          · have hmin : l < dm := by omega
            rw [Int.min_eq_right (by omega)] at HD
            go_wp2_with fail
            refine (HL.out _).mono ?_
            rintro e w_ ⟨rfl, rfl⟩
            go_wp2_with fail
            refine (HD.out _).mono ?_
            rintro e w_ ⟨rfl, rfl⟩
            go_wp2_with fail
            go_ret2
            exact ⟨rfl, rfl⟩
theorem rAdd_any (a k x f : Int) (H : Hid (AddQ a k x f)) (w : World) :
    Calls Tryd.prog 16 #[.int .i64 a, .int .i64 k] w fun e w' => e = .returned (.tuple #[.int .i64 x, .int .i64 f]) ∧ w = w' := by
  rcases day_or a with h | ⟨d, rfl, hd⟩
  · rcases H.out with ⟨d, m, r, m', rfl, A, rfl, rfl⟩ | ⟨_, rfl, rfl⟩
    · have := A.le
      unfold NoDay at h
      omega
    · exact rAdd_noDay a k h w
  · obtain ⟨m, y, mo, dm, hP⟩ := date_ex hd
    by_cases hk : k < -5000 ∨ 5000 < k
    · rcases H.out with ⟨d', m', r, m2, hd', A, rfl, rfl⟩ | ⟨_, rfl, rfl⟩
      · have := A.to
        have := A.rm.le
        have := A.mon.le
        omega
      · exact rAdd_far d m y mo dm k (Lib.hid hP) hk w
    · exact rAdd_near d m y mo dm k x f (Lib.hid hP) H (by omega) (by omega) w
set_option maxHeartbeats 4000000 in
theorem tells_walk (a b c : Int) (w : World) (hB : Hid (BefT w)) :
    Calls Tryd.prog 3 #[.int .i64 a, .int .i64 b, .int .i64 c] w (YesB w) := by
  obtain ⟨y, mo, dm, e, h1⟩ := dateQ_ex a
  obtain ⟨n, f, h2⟩ := dayQ_ex a b c
  obtain ⟨x, g, h3⟩ := wdQ_ex a
  obtain ⟨x2, g2, h4⟩ := addQ_ex a b
  obtain ⟨s, l, g3, h5⟩ := monQ_ex a
  have H1 := Lib.hid h1
  have H2 := Lib.hid h2
  have H3 := Lib.hid h3
  have H4 := Lib.hid h4
  have H5 := Lib.hid h5
  clear h1 h2 h3 h4 h5
  go_enter Tryd.func3, Tryd.ntmps3
  go_wp2_with fail
  refine (sane_any w hB).mono ?_
  rintro e w1 ⟨rfl, hb⟩
  have HB1 := Lib.hid hb
  clear hb
  go_wp2_with fail
  refine (Date_any _ _ _ _ _ H1 _ (Lib.hid (hB.out.on HB1.out))).mono ?_
  rintro e w2 ⟨rfl, hb⟩
  have HB2 : Hid (Below w.heap.size w w2) := HB1.out.trans (hb.mono HB1.out.size)
  clear hb
  go_wp2_with fail
  refine (rDate_any _ _ _ _ _ H1 _).mono ?_
  rintro e w_ ⟨rfl, rfl⟩
  go_wp2_with fail
  refine (Day_any _ _ _ _ _ H2 _ (Lib.hid (hB.out.on HB2.out))).mono ?_
  rintro e w3 ⟨rfl, hb⟩
  have HB3 : Hid (Below w.heap.size w w3) := HB2.out.trans (hb.mono HB2.out.size)
  clear hb
  go_wp2_with fail
  refine (rDay_any _ _ _ _ _ H2 _).mono ?_
  rintro e w_ ⟨rfl, rfl⟩
  go_wp2_with fail
  refine (Weekday_any _ _ _ H3 _).mono ?_
  rintro e w_ ⟨rfl, rfl⟩
  go_wp2_with fail
  refine (rWeekday_any _ _ _ H3 _).mono ?_
  rintro e w_ ⟨rfl, rfl⟩
  go_wp2_with fail
  refine (Add_any _ _ _ _ H4 _ (Lib.hid (hB.out.on HB3.out))).mono ?_
  rintro e w4 ⟨rfl, hb⟩
  have HB4 : Hid (Below w.heap.size w w4) := HB3.out.trans (hb.mono HB3.out.size)
  clear hb
  go_wp2_with fail
  refine (rAdd_any _ _ _ _ H4 _).mono ?_
  rintro e w_ ⟨rfl, rfl⟩
  go_wp2_with fail
  refine (Month_any _ _ _ _ H5 _ (Lib.hid (hB.out.on HB4.out))).mono ?_
  rintro e w5 ⟨rfl, hb⟩
  have HB5 : Hid (Below w.heap.size w w5) := HB4.out.trans (hb.mono HB4.out.size)
  clear hb
  go_wp2_with fail
  refine (rMonth_any _ _ _ _ H5 _).mono ?_
  rintro e w_ ⟨rfl, rfl⟩
  go_wp2_with fail
  go_ret
  exact ⟨by first | rfl | simp, HB5.out⟩
end Go.Proofs.YtmaapbifkimdcaaDoor
