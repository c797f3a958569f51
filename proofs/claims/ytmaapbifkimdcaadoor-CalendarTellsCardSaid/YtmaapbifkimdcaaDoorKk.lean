/- The walks of the reference's functions on days and months. No condition but bounds on years. -/
import Derived.Test.YtmaapbifkimdcaaDoorKf
namespace Go.Proofs.YtmaapbifkimdcaaDoor
set_option maxRecDepth 20000
open Go.RowKit

theorem rValid_yes (d : Int) (w : World) (h1 : 0 ≤ d) (h2 : d ≤ 100000) :
    Calls Tryd.prog 23 #[.int .i64 d] w fun e w' => e = .returned (.bool true) ∧ w = w' := by
  go_enter Tryd.func23, Tryd.ntmps23
  go_wp2
  go_ret
  exact ⟨rfl, rfl⟩
theorem rValid_no (d : Int) (w : World) (h : NoDay d) :
    Calls Tryd.prog 23 #[.int .i64 d] w fun e w' => e = .returned (.bool false) ∧ w = w' := by
  rcases h with h | h
  · have h2 : decide (0 ≤ d) = false := decide_eq_false (by omega)
    go_enter Tryd.func23, Tryd.ntmps23
    go_wp2
    go_ret
    exact ⟨rfl, rfl⟩
  · have h1 : 0 ≤ d := by omega
    have h2 : decide (d ≤ 100000) = false := decide_eq_false (by omega)
    go_enter Tryd.func23, Tryd.ntmps23
    go_wp2
    go_ret
    exact ⟨rfl, rfl⟩
theorem beq_no {a b : Int} (h : ¬ a = b) : (a == b) = false := by simpa using h
theorem bne_no {a b : Int} (h : ¬ a = b) : (a != b) = true := by simpa using h
set_option maxHeartbeats 1000000 in
theorem rLeap_any (y : Nat) (w : World) :
    Calls Tryd.prog 27 #[.int .i64 (y : Int)] w fun e w' => e = .returned (.bool (lpP y)) ∧ w = w' := by
  by_cases h4 : (y : Int) % 4 = 0
  · by_cases h100 : (y : Int) % 100 = 0
    · by_cases h400 : (y : Int) % 400 = 0
      · have H : Hid (lpP y = true) := by
          show _ = _
          simp [lpP, show y % 4 = 0 by omega, show y % 400 = 0 by omega]
        go_enter Tryd.func27, Tryd.ntmps27
        go_wp2
        go_ret
        exact ⟨by rw [H.out]; rfl, rfl⟩
      · have H : Hid (lpP y = false) := by
          show _ = _
          simp [lpP, show y % 4 = 0 by omega, show y % 100 = 0 by omega, show ¬ y % 400 = 0 by omega]
        have q := beq_no h400
        clear h400
        go_enter Tryd.func27, Tryd.ntmps27
        go_wp2
        go_ret
        exact ⟨by rw [H.out]; rfl, rfl⟩
    · have H : Hid (lpP y = true) := by
        show _ = _
        simp [lpP, show y % 4 = 0 by omega, show ¬ y % 100 = 0 by omega]
      have q := bne_no h100
      have q2 := beq_no h100
      clear h100
      go_enter Tryd.func27, Tryd.ntmps27
      go_wp2
      go_ret
      exact ⟨by rw [H.out]; rfl, rfl⟩
  · have H : Hid (lpP y = false) := by
      show _ = _
      simp [lpP, show ¬ y % 4 = 0 by omega]
    have q := beq_no h4
    clear h4
    go_enter Tryd.func27, Tryd.ntmps27
    go_wp2
    go_ret
    exact ⟨by rw [H.out]; rfl, rfl⟩
set_option maxHeartbeats 4000000 in
theorem rLength_not2 (y m : Nat) (h1 : 1 ≤ m) (h12 : m ≤ 12) (h2 : ¬ m = 2) (w : World) :
    Calls Tryd.prog 24 #[.int .i64 (y : Int), .int .i64 (m : Int)] w fun e w' => e = .returned (.int .i64 ((lenP y m : Nat) : Int)) ∧ w = w' := by
  obtain rfl | rfl | rfl | rfl | rfl | rfl | rfl | rfl | rfl | rfl | rfl : m = 1 ∨ m = 3 ∨ m = 4 ∨ m = 5 ∨ m = 6 ∨ m = 7 ∨ m = 8 ∨ m = 9 ∨ m = 10 ∨ m = 11 ∨ m = 12 := by omega
  all_goals
    clear h1 h12 h2
    go_enter Tryd.func24, Tryd.ntmps24
    go_wp2
    go_ret
    exact ⟨rfl, rfl⟩
set_option maxHeartbeats 1000000 in
theorem rLength_2 (y : Nat) (w : World) :
    Calls Tryd.prog 24 #[.int .i64 (y : Int), .int .i64 2] w fun e w' => e = .returned (.int .i64 ((lenP y 2 : Nat) : Int)) ∧ w = w' := by
  have c := rLeap_any y w
  cases h : lpP y
  · have H : Hid (lenP y 2 = 28) := by show _ = _; simp [lenP, h]
    rw [h] at c
    have C := Lib.hid c
    clear c h
    go_enter Tryd.func24, Tryd.ntmps24
    go_wp2_with fail
    refine C.out.mono ?_
    rintro e w_ ⟨rfl, rfl⟩
    go_wp2_with fail
    go_ret
    exact ⟨by rw [H.out]; rfl, rfl⟩
  · have H : Hid (lenP y 2 = 29) := by show _ = _; simp [lenP, h]
    rw [h] at c
    have C := Lib.hid c
    clear c h
    go_enter Tryd.func24, Tryd.ntmps24
    go_wp2_with fail
    refine C.out.mono ?_
    rintro e w_ ⟨rfl, rfl⟩
    go_wp2_with fail
    go_ret
    exact ⟨by rw [H.out]; rfl, rfl⟩
theorem rLength_any (y m : Nat) (Y M l : Int) (hY : Y = (y : Int)) (hM : M = (m : Int)) (hl : l = ((lenP y m : Nat) : Int)) (h1 : 1 ≤ m) (h12 : m ≤ 12) (w : World) :
    Calls Tryd.prog 24 #[.int .i64 Y, .int .i64 M] w fun e w' => e = .returned (.int .i64 l) ∧ w = w' := by
  subst hY hM hl
  by_cases h2 : m = 2
  · subst h2; exact rLength_2 y w
  · exact rLength_not2 y m h1 h12 h2 w
/-- The length of a month by its number. -/
theorem rLength_at (n : Nat) (hn : n < 3700) (Y M l : Int) (hY : Y = 2000 + (n : Int) / 12) (hM : M = (n : Int) % 12 + 1) (hl : l = ((szP n : Nat) : Int)) (w : World) :
    Calls Tryd.prog 24 #[.int .i64 Y, .int .i64 M] w fun e w' => e = .returned (.int .i64 l) ∧ w = w' := by
  refine rLength_any (2000 + n / 12) (n % 12 + 1) Y M l (by omega) (by omega) ?_ (by omega) (by omega) w
  rw [hl, (steps_all hn).2.2]
theorem rDate_no (d : Int) (w : World) (h : NoDay d) :
    Calls Tryd.prog 10 #[.int .i64 d] w fun e w' => e = .returned (.tuple #[.int .i64 0, .int .i64 0, .int .i64 0, .int .i64 3]) ∧ w = w' := by
  have C := Lib.hid (rValid_no d w h)
  clear h
  go_enter Tryd.func10, Tryd.ntmps10
  go_wp2_with fail
  refine C.out.mono ?_
  rintro e w' ⟨rfl, rfl⟩
  go_wp2_with fail
  exact bodyPost_ret (v := .tuple #[.int .i64 0, .int .i64 0, .int .i64 0, .int .i64 3]) (by simp [results, Tryd.results10, go_sem]) rfl ⟨rfl, rfl⟩
theorem results_tmp4 {fn : Func} {t u v x : Tmp} (h : fn.results = #[.tmp t, .tmp u, .tmp v, .tmp x]) (tmps : Array Value) (P : Program) (w : World) :
    (results fn tmps).run P w = .ok (.tuple #[tmps.getD t undef, tmps.getD u undef, tmps.getD v undef, tmps.getD x undef]) w := by
  simp [results, h, go_sem]
set_option maxHeartbeats 4000000 in
theorem rDate_yes (d m : Nat) (y mo dm : Int) (H : Hid (DateP d m y mo dm)) (w : World) :
    Calls Tryd.prog 10 #[.int .i64 (d : Int)] w fun e w' => e = .returned (.tuple #[.int .i64 y, .int .i64 mo, .int .i64 dm, .int .i64 0]) ∧ w = w' := by
  have hd := H.out.le
  have hm := H.out.mon.le
  have C := Lib.hid (rValid_yes (d : Int) w (by omega) (by omega))
  go_enter Tryd.func10, Tryd.ntmps10
  go_wp2_with fail
  refine C.out.mono ?_
  rintro e w' ⟨rfl, rfl⟩
  go_wp2_with fail
  go_loop [0, 6, 7] (fun s0 s6 s7 => ∃ (n r : Nat) (Y M : Int), s0 = .int .i64 (r : Int) ∧ s6 = .int .i64 Y ∧ s7 = .int .i64 M ∧ Hid (Y = 2000 + (n : Int) / 12) ∧ Hid (M = (n : Int) % 12 + 1) ∧ Hid (r + stP n = d) ∧ n ≤ m ∧ r ≤ 100000) (fun s0 _ _ => (RowKit.intOf s0).toNat)
  case atStart => exact ⟨0, d, 2000, 1, rfl, rfl, rfl, (by show _ = _; omega), (by show _ = _; omega), (by show _ = _; rfl), Nat.zero_le _, hd⟩
  case round =>
    obtain ⟨n, r, Y, M, rfl, rfl, rfl, HY, HM, HR, hn, hr⟩ := hrel
    have hY1 : 2000 ≤ Y := by have := HY.out; omega
    have hY2 : Y ≤ 2300 := by have := HY.out; omega
    have hM1 : 1 ≤ M := by have := HM.out; omega
    have hM2 : M ≤ 12 := by have := HM.out; omega
    obtain ⟨z, hz⟩ : ∃ z, z = szP n := ⟨_, rfl⟩
    have HC : Hid (∀ w : World, Calls Tryd.prog 24 #[.int .i64 Y, .int .i64 M] w fun e w' => e = .returned (.int .i64 (z : Int)) ∧ w = w') :=
      fun w => rLength_at n (by omega) Y M (z : Int) HY.out HM.out (by rw [hz]) w
    have hst := steps_all (n := n) (by omega)
    have hz1 : 28 ≤ z := by rw [hz]; unfold szP; omega
    have hz2 : z ≤ 31 := by rw [hz]; unfold szP; omega
    have HZ : Hid (stP (n + 1) = stP n + z) := by show _ = _; rw [hz]; unfold szP; omega
    clear hz hst
    by_cases hlt : n < m
    · have hge : (z : Int) ≤ (r : Int) := by
        have h1 := stP_up (a := n + 1) (b := m) (by omega) (by omega)
        have h2 := H.out.mon.lo
        have := HZ.out
        have := HR.out
        omega
      by_cases h12 : M = 12
      · subst h12
        go_wp2_with fail
        refine (HC.out _).mono ?_
        rintro e w_ ⟨rfl, rfl⟩
        go_wp2_with fail
        refine (HC.out _).mono ?_
        rintro e w_ ⟨rfl, rfl⟩
        go_wp2_with fail
        go_round
        case rel => exact ⟨n + 1, r - z, Y + 1, 1, by go_num, rfl, rfl, (by show _ = _; have := HY.out; have := HM.out; omega), (by show _ = _; have := HM.out; omega), (by show _ = _; have := HR.out; have := HZ.out; omega), by omega, by omega⟩
        case measure => simp [RowKit.intOf]; omega
      · have hM3 : M ≤ 11 := by omega
        have hM4 : decide (12 < M + 1) = false := decide_eq_false (by omega)
        clear h12
        go_wp2_with fail
        refine (HC.out _).mono ?_
        rintro e w_ ⟨rfl, rfl⟩
        go_wp2_with fail
        refine (HC.out _).mono ?_
        rintro e w_ ⟨rfl, rfl⟩
        go_wp2_with fail
        go_round
        case rel => exact ⟨n + 1, r - z, Y, M + 1, by go_num, rfl, rfl, (by show _ = _; have := HY.out; have := HM.out; omega), (by show _ = _; have := HM.out; omega), (by show _ = _; have := HR.out; have := HZ.out; omega), by omega, by omega⟩
        case measure => simp [RowKit.intOf]; omega
    · have hnm : n = m := by omega
      have hge : decide (z ≤ r) = false := decide_eq_false (by
        have h2 := H.out.mon.hi
        have := HZ.out
        have := HR.out
        rw [← hnm] at h2
        omega)
      have R1 : Hid (Y = y) := by show _ = _; rw [HY.out, H.out.ey, hnm]
      have R2 : Hid (M = mo) := by show _ = _; rw [HM.out, H.out.emo, hnm]
      have R3 : Hid ((r : Int) + 1 = dm) := by show _ = _; have := H.out.edm; have := HR.out; rw [← hnm] at *; omega
      clear hnm
      go_wp2_with fail
      refine (HC.out _).mono ?_
      rintro e w_ ⟨rfl, rfl⟩
      go_wp2_with fail
      (try simp only [Exit.inBlock, Exit.then])
      refine bodyPost_ret (results_tmp4 (t := 2) (u := 3) (v := 4) (x := 5) rfl _ _ _) rfl ?_
      refine ⟨?_, rfl⟩
      rw [← R1.out, ← R2.out, ← R3.out]
      rfl
end Go.Proofs.YtmaapbifkimdcaaDoor
