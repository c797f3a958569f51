/- The walks of the reference's Weekday, Add, Month. No condition. -/
import Derived.Test.YtmaapbifkimdcaaDoorKl
namespace Go.Proofs.YtmaapbifkimdcaaDoor
set_option maxRecDepth 20000
open Go.RowKit

theorem rDay_any (y mo dm n f : Int) (H : Hid (DayQ y mo dm n f)) (w : World) :
    Calls Tryd.prog 12 #[.int .i64 y, .int .i64 mo, .int .i64 dm] w fun e w' => e = .returned (.tuple #[.int .i64 n, .int .i64 f]) ∧ w = w' := by
  by_cases h : y < 2000 ∨ 2300 < y ∨ mo < 1 ∨ 12 < mo ∨ dm < 1
  · rcases H.out with ⟨d, m, hd, rfl, rfl⟩ | ⟨_, rfl, rfl⟩
    · have := hd.bd
      omega
    · exact rDay_out y mo dm h w
  · obtain ⟨m, hm, e1, e2⟩ : ∃ m : Nat, m < 3612 ∧ y = 2000 + (m : Int) / 12 ∧ mo = (m : Int) % 12 + 1 :=
      ⟨((y - 2000) * 12 + mo - 1).toNat, by omega, by omega, by omega⟩
    by_cases hl : (szP m : Int) < dm
    · rcases H.out with ⟨d, m2, hd, rfl, rfl⟩ | ⟨_, rfl, rfl⟩
      · have := hd.bd
        have e : m2 = m := by omega
        subst e
        omega
      · exact rDay_long y mo dm m (by omega) (by omega) (by omega) (by omega) (by omega) (Lib.hid e1) (Lib.hid e2) hl w
    · refine rDay_in y mo dm m hm (by omega) (by omega) (by omega) (by omega) (Lib.hid e1) (Lib.hid e2) (by omega) (by omega) w n f (Lib.hid ?_)
      rcases H.out with ⟨d, m2, hd, rfl, rfl⟩ | ⟨hn, rfl, rfl⟩
      · have b := hd.bd
        have l := hd.le
        have e : m2 = m := by omega
        subst e
        rw [if_pos (by omega)]
        exact ⟨by omega, rfl⟩
      · rw [if_neg]
        · exact ⟨rfl, rfl⟩
        · intro hle
          have hs : 0 ≤ (stP m : Int) := by omega
          have hm6 : m < 3600 := by
            rcases Nat.lt_or_ge m 3600 with h6 | h6
            · exact h6
            · have := stP_up (a := 3600) (b := m) h6 (by omega)
              rw [show stP 3600 = 109573 by decide +kernel] at this
              omega
          exact hn ⟨((stP m : Int) + dm - 1).toNat, m, date_of e1 e2 (by omega) (by omega) (by omega) (by omega) (by omega)⟩
/-- What Weekday says of a number. -/
def WdQ (a x e : Int) : Prop := (∃ d : Nat, a = (d : Int) ∧ d ≤ 100000 ∧ x = (((d + 5) % 7 : Nat) : Int) ∧ e = 0) ∨ (NoDay a ∧ x = 0 ∧ e = 3)
theorem wdQ_ex (a : Int) : ∃ x e, WdQ a x e := by
  rcases day_or a with h | ⟨d, rfl, hd⟩
  · exact ⟨0, 3, .inr ⟨h, rfl, rfl⟩⟩
  · exact ⟨_, 0, .inl ⟨d, rfl, hd, rfl, rfl⟩⟩
theorem Weekday_any (a x e : Int) (H : Hid (WdQ a x e)) (w : World) :
    Calls Tryd.prog 13 #[.int .i64 a] w fun e' w' => e' = .returned (.tuple #[.int .i64 x, .int .i64 e]) ∧ w = w' := by
  rcases H.out with ⟨d, rfl, hd, rfl, rfl⟩ | ⟨h, rfl, rfl⟩
  · exact Weekday_yes d hd w
  · exact Weekday_no a w h
set_option maxHeartbeats 1000000 in
theorem rWeekday_yes (d : Nat) (hd : d ≤ 100000) (w : World) :
    Calls Tryd.prog 14 #[.int .i64 (d : Int)] w fun e w' => e = .returned (.tuple #[.int .i64 (((d + 5) % 7 : Nat) : Int), .int .i64 0]) ∧ w = w' := by
  have C := Lib.hid (rValid_yes (d : Int) w (by omega) (by omega))
  have H : Hid ((((d + 5) % 7 : Nat) : Int) = (5 + (d : Int)) % 7) := by show _ = _; omega
  go_enter Tryd.func14, Tryd.ntmps14
  go_wp2_with fail
  refine C.out.mono ?_
  rintro e w' ⟨rfl, rfl⟩
  go_wp2_with fail
  go_ret2
  exact ⟨by rw [H.out]; rfl, rfl⟩
theorem rWeekday_no (d : Int) (w : World) (h : NoDay d) :
    Calls Tryd.prog 14 #[.int .i64 d] w fun e w' => e = .returned (.tuple #[.int .i64 0, .int .i64 3]) ∧ w = w' := by
  have C := Lib.hid (rValid_no d w h)
  clear h
  go_enter Tryd.func14, Tryd.ntmps14
  go_wp2_with fail
  refine C.out.mono ?_
  rintro e w' ⟨rfl, rfl⟩
  go_wp2_with fail
  go_ret2
  exact ⟨rfl, rfl⟩
theorem rWeekday_any (a x e : Int) (H : Hid (WdQ a x e)) (w : World) :
    Calls Tryd.prog 14 #[.int .i64 a] w fun e' w' => e' = .returned (.tuple #[.int .i64 x, .int .i64 e]) ∧ w = w' := by
  rcases H.out with ⟨d, rfl, hd, rfl, rfl⟩ | ⟨h, rfl, rfl⟩
  · exact rWeekday_yes d hd w
  · exact rWeekday_no a w h
set_option maxHeartbeats 1000000 in
theorem rMonth_no (a : Int) (h : NoDay a) (w : World) :
    Calls Tryd.prog 18 #[.int .i64 a] w fun e w' => e = .returned (.tuple #[.int .i64 0, .int .i64 0, .int .i64 3]) ∧ w = w' := by
  have C := Lib.hid (rDate_no a w h)
  clear h
  go_enter Tryd.func18, Tryd.ntmps18
  go_wp2_with fail
  refine C.out.mono ?_
  rintro e w' ⟨rfl, rfl⟩
  go_wp2_with fail
  go_ret3
  exact ⟨rfl, rfl⟩
set_option maxHeartbeats 2000000 in
theorem rMonth_yes (d m : Nat) (hd : d ≤ 100000) (HM : Hid (Mon d m)) (w : World) :
    Calls Tryd.prog 18 #[.int .i64 (d : Int)] w fun e w' => e = .returned (.tuple #[.int .i64 (stP m : Int), .int .i64 (lastP m), .int .i64 0]) ∧ w = w' := by
  obtain ⟨s, hs⟩ : ∃ s, s = stP m := ⟨_, rfl⟩
  obtain ⟨z, hz⟩ : ∃ z, z = szP m := ⟨_, rfl⟩
  obtain ⟨y, hy⟩ : ∃ y : Int, y = 2000 + (m : Int) / 12 := ⟨_, rfl⟩
  obtain ⟨mo, hmo⟩ : ∃ mo : Int, mo = (m : Int) % 12 + 1 := ⟨_, rfl⟩
  obtain ⟨dm, hdm⟩ : ∃ dm : Int, dm = (d : Int) - (stP m : Int) + 1 := ⟨_, rfl⟩
  have hP : DateP d m y mo dm := ⟨HM.out, hd, hy, hmo, hdm⟩
  have b := hP.bd
  have C := Lib.hid (rDate_yes d m y mo dm (Lib.hid hP) w)
  have C2 := Lib.hid (rLength_at m (by omega) y mo (z : Int) hy hmo (by rw [hz]) w)
  have hst := steps_all (n := m) (by omega)
  have hl := st_le (m := m) (by omega)
  have hz1 : z ≤ 31 := by rw [hz]; unfold szP; omega
  have HL : Hid (((s : Int) + (z : Int) - 1 ≤ 100000 → lastP m = (s : Int) + (z : Int) - 1) ∧ (100000 ≤ (s : Int) + (z : Int) - 1 → lastP m = 100000)) := by
    show _ ∧ _
    rw [hs, hz]; unfold lastP szP; omega
  have hd1 : 1 ≤ dm := by omega
  have hd2 : dm ≤ 31 := by omega
  have HF : Hid ((d : Int) - dm + 1 = (s : Int)) := by show _ = _; omega
  have hs2 : s ≤ 109573 := by omega
  rw [← hs]
  clear hs hz hy hmo hdm hP b hst hl
  go_enter Tryd.func18, Tryd.ntmps18
  go_wp2_with fail
  refine C.out.mono ?_
  rintro e w' ⟨rfl, rfl⟩
  go_wp2_with fail
  refine C2.out.mono ?_
  rintro e w' ⟨rfl, rfl⟩
  rw [HF.out]
  go_wp2_with fail
  all_goals go_ret3
  all_goals exact ⟨by first | (rw [HL.out.1 (by omega)]; rfl) | (rw [HL.out.2 (by omega)]; rfl), rfl⟩
theorem rMonth_any (a s l e : Int) (H : Hid (MonQ a s l e)) (w : World) :
    Calls Tryd.prog 18 #[.int .i64 a] w fun e' w' => e' = .returned (.tuple #[.int .i64 s, .int .i64 l, .int .i64 e]) ∧ w = w' := by
  rcases H.out with ⟨d, m, rfl, hd, h, rfl, rfl, rfl⟩ | ⟨h, rfl, rfl, rfl⟩
  · exact rMonth_yes d m hd (Lib.hid h) w
  · exact rMonth_no a h w
end Go.Proofs.YtmaapbifkimdcaaDoor
