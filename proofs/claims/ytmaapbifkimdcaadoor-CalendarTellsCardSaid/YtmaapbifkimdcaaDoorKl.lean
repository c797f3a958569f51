/- The walk of the reference's Day. No condition. -/
import Derived.Test.YtmaapbifkimdcaaDoorKk
namespace Go.Proofs.YtmaapbifkimdcaaDoor
set_option maxRecDepth 20000
open Go.RowKit

theorem rDate_any (a y mo dm e : Int) (H : Hid (DateQ a y mo dm e)) (w : World) :
    Calls Tryd.prog 10 #[.int .i64 a] w fun e' w' => e' = .returned (.tuple #[.int .i64 y, .int .i64 mo, .int .i64 dm, .int .i64 e]) ∧ w = w' := by
  rcases H.out with ⟨d, m, rfl, h, rfl⟩ | ⟨h, rfl, rfl, rfl, rfl⟩
  · exact rDate_yes d m y mo dm (Lib.hid h) w
  · exact rDate_no a w h
theorem years_all {k : Nat} (h : k < 301) : stP (12 * (k + 1)) = stP (12 * k) + (if lpP (2000 + k) then 366 else 365) := by
  have hall : (List.range 301).all (fun k => decide (stP (12 * (k + 1)) = stP (12 * k) + (if lpP (2000 + k) then 366 else 365))) = true := by decide +kernel
  have := List.all_eq_true.1 hall k (List.mem_range.2 h)
  simpa using this
theorem years_le {k : Nat} (h : k < 301) : stP (12 * (k + 1)) ≤ stP (12 * k) + 366 := by
  rw [years_all h]
  split <;> omega
set_option maxHeartbeats 4000000 in
theorem rDay_out (y mo dm : Int) (h : y < 2000 ∨ 2300 < y ∨ mo < 1 ∨ 12 < mo ∨ dm < 1) (w : World) :
    Calls Tryd.prog 12 #[.int .i64 y, .int .i64 mo, .int .i64 dm] w fun e w' => e = .returned (.tuple #[.int .i64 0, .int .i64 3]) ∧ w = w' := by
  by_cases c1 : y < 2000
  · clear h
    go_enter Tryd.func12, Tryd.ntmps12
    go_wp2_with fail
    go_ret2
    exact ⟨rfl, rfl⟩
  have h1 : decide (y < 2000) = false := decide_eq_false c1
  by_cases c2 : 2300 < y
  · clear h c1
    go_enter Tryd.func12, Tryd.ntmps12
    go_wp2_with fail
    go_ret2
    exact ⟨rfl, rfl⟩
  have h2 : decide (2300 < y) = false := decide_eq_false c2
  by_cases c3 : mo < 1
  · clear h c1 c2
    go_enter Tryd.func12, Tryd.ntmps12
    go_wp2_with fail
    go_ret2
    exact ⟨rfl, rfl⟩
  have h3 : decide (mo < 1) = false := decide_eq_false c3
  by_cases c4 : 12 < mo
  · clear h c1 c2 c3
    go_enter Tryd.func12, Tryd.ntmps12
    go_wp2_with fail
    go_ret2
    exact ⟨rfl, rfl⟩
  have h4 : decide (12 < mo) = false := decide_eq_false c4
  have c5 : dm < 1 := by omega
  clear h c1 c2 c3 c4
  go_enter Tryd.func12, Tryd.ntmps12
  go_wp2_with fail
  go_ret2
  exact ⟨rfl, rfl⟩
set_option maxHeartbeats 4000000 in
theorem rDay_long (y mo dm : Int) (m : Nat) (hm : m < 3700) (h1 : 2000 ≤ y) (h2 : y ≤ 2300) (h3 : 1 ≤ mo) (h4 : mo ≤ 12) (e1 : Hid (y = 2000 + (m : Int) / 12)) (e2 : Hid (mo = (m : Int) % 12 + 1)) (h : (szP m : Int) < dm) (w : World) :
    Calls Tryd.prog 12 #[.int .i64 y, .int .i64 mo, .int .i64 dm] w fun e w' => e = .returned (.tuple #[.int .i64 0, .int .i64 3]) ∧ w = w' := by
  have h0 := (sz_le hm).1
  have C := Lib.hid (rLength_at m hm y mo (szP m : Int) e1.out e2.out rfl w)
  have hd : 1 ≤ dm := by omega
  have hd2 : decide (dm < 1) = false := decide_eq_false (by omega)
  obtain ⟨z, hz⟩ : ∃ z, z = szP m := ⟨_, rfl⟩
  rw [← hz] at C h h0
  clear hz
  go_enter Tryd.func12, Tryd.ntmps12
  go_wp2_with fail
  refine C.out.mono ?_
  rintro e w_ ⟨rfl, rfl⟩
  go_wp2_with fail
  go_ret2
  exact ⟨rfl, rfl⟩
set_option maxHeartbeats 8000000 in
theorem rDay_in (y mo dm : Int) (m : Nat) (hm : m < 3612) (h1 : 2000 ≤ y) (h2 : y ≤ 2300) (h3 : 1 ≤ mo) (h4 : mo ≤ 12) (e1 : Hid (y = 2000 + (m : Int) / 12)) (e2 : Hid (mo = (m : Int) % 12 + 1)) (hd1 : 1 ≤ dm) (hd2 : dm ≤ (szP m : Int)) (w : World)
    (n f : Int) (hv : Hid (if (stP m : Int) + dm - 1 ≤ 100000 then n = (stP m : Int) + dm - 1 ∧ f = 0 else n = 0 ∧ f = 3)) :
    Calls Tryd.prog 12 #[.int .i64 y, .int .i64 mo, .int .i64 dm] w fun e w' => e = .returned (.tuple #[.int .i64 n, .int .i64 f]) ∧ w = w' := by
  have h0 := (sz_le (n := m) (by omega)).2
  have C := Lib.hid (rLength_at m (by omega) y mo (szP m : Int) e1.out e2.out rfl w)
  have hd3 : decide (dm < 1) = false := decide_eq_false (by omega)
  obtain ⟨z, hz⟩ : ∃ z, z = szP m := ⟨_, rfl⟩
  rw [← hz] at C hd2 h0
  have hd4 : decide ((z : Int) < dm) = false := decide_eq_false (by omega)
  have hd5 : dm ≤ 31 := by omega
  clear hz
  obtain ⟨Y, hY⟩ : ∃ Y : Nat, Y = m / 12 := ⟨_, rfl⟩
  have hy : Hid (y = 2000 + (Y : Int)) := by show _ = _; have := e1.out; omega
  have hmo : Hid (mo = ((m - 12 * Y : Nat) : Int) + 1) := by show _ = _; have := e2.out; omega
  have hY2 : Y ≤ 300 := by omega
  have hmY : 12 * Y ≤ m := by omega
  have hmY2 : m < 12 * Y + 12 := by omega
  have HY := Lib.hid hY
  clear hY
  have htop := stP_up (a := m) (b := 3612) (by omega) (by omega)
  have h3612 : stP 3612 = 109938 := by decide +kernel
  rw [h3612] at htop
  clear h3612
  go_enter Tryd.func12, Tryd.ntmps12
  go_wp2_with fail
  refine C.out.mono ?_
  rintro e w_ ⟨rfl, rfl⟩
  go_wp2_with fail
  go_loop [8, 9] (fun s8 s9 => ∃ (k : Nat) (N : Int), s8 = .int .i64 N ∧ s9 = .int .i64 ((k : Int) + 1) ∧ 12 * Y + k ≤ m ∧ 0 ≤ N ∧ N ≤ 400 ∧ Hid (N = dm - 1 + (stP (12 * Y + k) : Int) - (stP (12 * Y) : Int))) (fun _ s9 => (12 - RowKit.intOf s9).toNat)
  case atStart => exact ⟨0, dm - 1, rfl, rfl, by omega, by omega, by omega, (by show _ = _; simp)⟩
  case round =>
    obtain ⟨k, N, rfl, rfl, hk, hN0, hN1, HN⟩ := hrel
    by_cases hlt : 12 * Y + k < m
    · have hkm : (k : Int) + 1 < mo := by have := hmo.out; omega
      have hst := steps_all (n := 12 * Y + k) (by omega)
      have hup := stP_up (a := 12 * Y) (b := 12 * Y + k + 1) (by omega) (by omega)
      obtain ⟨z2, hz2⟩ : ∃ z, z = szP (12 * Y + k) := ⟨_, rfl⟩
      have C2 := Lib.hid (rLength_at (12 * Y + k) (by omega) y ((k : Int) + 1) (z2 : Int) (by have := hy.out; omega) (by omega) (by rw [hz2]) w)
      have HZ : Hid (stP (12 * Y + (k + 1)) = stP (12 * Y + k) + z2) := by show _ = _; rw [hz2, ← Nat.add_assoc]; unfold szP; omega
      have hz3 : z2 ≤ 31 := by rw [hz2]; unfold szP; omega
      have hk12 : k ≤ 11 := by omega
      have hN2 : N + (z2 : Int) ≤ 400 := by
        have := years_le (k := Y) (by omega)
        have h5 := stP_up (a := 12 * Y + (k + 1)) (b := 12 * (Y + 1)) (by omega) (by omega)
        have := HZ.out
        have := HN.out
        omega
      clear hst hup hz2
      go_wp2_with fail
      refine C2.out.mono ?_
      rintro e w_ ⟨rfl, rfl⟩
      go_wp2_with fail
      go_round
      case rel => exact ⟨k + 1, N + (z2 : Int), rfl, by go_num, by omega, by omega, hN2, (by show _ = _; have := HN.out; have := HZ.out; omega)⟩
      case measure => simp [RowKit.intOf]; omega
    · have hkm : decide ((k : Int) + 1 < mo) = false := decide_eq_false (by have := hmo.out; omega)
      have HN2 : Hid (N + (stP (12 * Y) : Int) = dm - 1 + (stP m : Int)) := by
        show _ = _
        have := HN.out
        rw [show 12 * Y + k = m by omega] at this
        omega
      clear HN hlt hk
      go_wp2_with fail
      go_loop [8, 10] (fun s8 s10 => ∃ (j : Nat) (T : Int), s8 = .int .i64 T ∧ s10 = .int .i64 (2000 + (j : Int)) ∧ j ≤ Y ∧ 0 ≤ T ∧ T ≤ 120000 ∧ Hid (T = N + (stP (12 * j) : Int))) (fun _ s10 => (2400 - RowKit.intOf s10).toNat)
      case atStart => exact ⟨0, N, rfl, rfl, by omega, hN0, by omega, (by show _ = _; rw [show stP (12 * 0) = 0 by decide +kernel]; simp)⟩
      case round =>
        obtain ⟨j, T, rfl, rfl, hj, hT0, hT1, HT⟩ := hrel
        by_cases hlt : j < Y
        · have hjy : 2000 + (j : Int) < y := by have := hy.out; omega
          have hya := years_all (k := j) (by omega)
          have hup := stP_up (a := 12 * (j + 1)) (b := 12 * Y) (by omega) (by omega)
          have hup2 := stP_up (a := 12 * Y) (b := m) (by omega) (by omega)
          have cl := rLeap_any (2000 + j) w
          rw [show ((2000 + j : Nat) : Int) = 2000 + (j : Int) by omega] at cl
          have hj3 : j ≤ 300 := by omega
          have hTb : T + 366 ≤ 120000 := by
            have := HT.out
            have := HN2.out
            have := years_le (k := j) (by omega)
            omega
          cases hl : lpP (2000 + j)
          · rw [hl] at cl hya
            have CL := Lib.hid cl
            have HT2 : Hid (T + 365 = N + (stP (12 * (j + 1)) : Int)) := by show _ = _; have := HT.out; simp at hya; omega
            clear cl hya hl hup hup2
            go_wp2_with fail
            refine CL.out.mono ?_
            rintro e w_ ⟨rfl, rfl⟩
            go_wp2_with fail
            go_round
            case rel => exact ⟨j + 1, T + 365, rfl, by go_num, by omega, by omega, by omega, HT2⟩
            case measure => simp [RowKit.intOf]; omega
          · rw [hl] at cl hya
            have CL := Lib.hid cl
            have HT2 : Hid (T + 365 + 1 = N + (stP (12 * (j + 1)) : Int)) := by show _ = _; have := HT.out; simp at hya; omega
            clear cl hya hl hup hup2
            go_wp2_with fail
            refine CL.out.mono ?_
            rintro e w_ ⟨rfl, rfl⟩
            go_wp2_with fail
            go_round
            case rel => exact ⟨j + 1, T + 365 + 1, rfl, by go_num, by omega, by omega, by omega, HT2⟩
            case measure => simp [RowKit.intOf]; omega
        · have hjy : decide (2000 + (j : Int) < y) = false := decide_eq_false (by have := hy.out; omega)
          have HT2 : Hid (T = (stP m : Int) + dm - 1) := by
            show _ = _
            have t1 := HT.out
            have t2 := HN2.out
            have t3 : j = Y := by omega
            rw [t3] at t1
            omega
          by_cases hle : T ≤ 100000
          · have HF : Hid (T = n ∧ f = 0) := by
              have := hv.out
              rw [← HT2.out, if_pos hle] at this
              exact ⟨this.1.symm, this.2⟩
            have CV := Lib.hid (rValid_yes T w hT0 hle)
            go_wp2_with fail
            refine CV.out.mono ?_
            rintro e w_ ⟨rfl, rfl⟩
            go_wp2_with fail
            go_ret2
            exact ⟨by rw [← HF.out.1, HF.out.2]; rfl, rfl⟩
          · have HF : Hid (n = 0 ∧ f = 3) := by
              have := hv.out
              rw [← HT2.out, if_neg hle] at this
              exact this
            have CV := Lib.hid (rValid_no T w (.inr (by omega)))
            go_wp2_with fail
            refine CV.out.mono ?_
            rintro e w_ ⟨rfl, rfl⟩
            go_wp2_with fail
            go_ret2
            exact ⟨by rw [HF.out.1, HF.out.2]; rfl, rfl⟩
end Go.Proofs.YtmaapbifkimdcaaDoor
