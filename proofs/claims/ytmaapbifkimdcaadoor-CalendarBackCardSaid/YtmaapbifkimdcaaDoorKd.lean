/- The walks of calendar's Day, Add, Month. Conditions: the array 'before' is there as its text lays it. -/
import Derived.Test.YtmaapbifkimdcaaDoorKc
namespace Go.Proofs.YtmaapbifkimdcaaDoor
set_option maxRecDepth 8000
open Go.RowKit

theorem BefT.onD {w w' : World} (h : BefT w) (hb : Drew w w') : BefT w' := h.on hb.below
theorem start_at (m : Nat) (hm : m < 3700) (w : World) (hB : Hid (BefT w)) : Hid (∀ w' : World, Below w.heap.size w w' → Calls Tryd.prog 22 #[.int .i64 (m : Int)] w' (IntD ((stP m : Nat) : Int) w')) :=
  fun w' hb => start_any m hm w' (Lib.hid (hB.out.on hb))
theorem size_at (m : Nat) (hm : m < 3600) (w : World) (hB : Hid (BefT w)) : Hid (∀ w' : World, Below w.heap.size w w' → Calls Tryd.prog 25 #[.int .i64 (m : Int)] w' (IntD ((szP m : Nat) : Int) w')) :=
  fun w' hb => size_any m hm w' (Lib.hid (hB.out.on hb))
theorem st_le {m : Nat} (h : m < 3600) : stP m ≤ 109573 := by
  have := stP_up (a := m) (b := 3600) (by omega) (by omega)
  have h3 : stP 3600 = 109573 := by decide +kernel
  omega
/-- A month's number out of the year's and the month's. -/
theorem month_ex {y mo : Int} (h1 : 2000 ≤ y) (h2 : y ≤ 2273) (h3 : 1 ≤ mo) (h4 : mo ≤ 12) : ∃ m : Nat, m ≤ 3287 ∧ (y - 2000) * 12 + mo - 1 = (m : Int) ∧ y = 2000 + (m : Int) / 12 ∧ mo = (m : Int) % 12 + 1 :=
  ⟨((y - 2000) * 12 + mo - 1).toNat, by omega, by omega, by omega, by omega⟩
/-- The date is one of a day. -/
def IsDate (y mo dm : Int) : Prop := ∃ d m, DateP d m y mo dm
set_option maxHeartbeats 2000000 in
theorem Day_out (y mo dm : Int) (h : y < 2000 ∨ 2273 < y ∨ mo < 1 ∨ 12 < mo) (w : World) :
    Calls Tryd.prog 11 #[.int .i64 y, .int .i64 mo, .int .i64 dm] w (TupB #[.int .i64 0, .int .i64 3] w) := by
  by_cases h1 : y < 2000
  · clear h
    go_enter Tryd.func11, Tryd.ntmps11
    go_wp2_with fail
    go_ret2
    exact ⟨rfl, Below.refl _ _⟩
  · have h1' : decide (y < 2000) = false := by simp; omega
    by_cases h2 : 2273 < y
    · clear h h1
      go_enter Tryd.func11, Tryd.ntmps11
      go_wp2_with fail
      go_ret2
      exact ⟨rfl, Below.refl _ _⟩
    · have h2' : decide (2273 < y) = false := by simp; omega
      by_cases h3 : mo < 1
      · clear h h1 h2
        go_enter Tryd.func11, Tryd.ntmps11
        go_wp2_with fail
        go_ret2
        exact ⟨rfl, Below.refl _ _⟩
      · have h3' : decide (mo < 1) = false := by simp; omega
        have h4 : 12 < mo := by omega
        clear h h1 h2 h3
        go_enter Tryd.func11, Tryd.ntmps11
        go_wp2_with fail
        go_ret2
        exact ⟨rfl, Below.refl _ _⟩
set_option maxHeartbeats 2000000 in
theorem Day_low (y mo dm : Int) (h1 : 2000 ≤ y) (h2 : y ≤ 2273) (h3 : 1 ≤ mo) (h4 : mo ≤ 12) (h : dm < 1) (w : World) :
    Calls Tryd.prog 11 #[.int .i64 y, .int .i64 mo, .int .i64 dm] w (TupB #[.int .i64 0, .int .i64 3] w) := by
  go_enter Tryd.func11, Tryd.ntmps11
  go_wp2_with fail
  go_ret2
  exact ⟨rfl, Below.refl _ _⟩
set_option maxHeartbeats 2000000 in
theorem Day_in (y mo dm : Int) (m : Nat) (h1 : 2000 ≤ y) (h2 : y ≤ 2273) (h3 : 1 ≤ mo) (h4 : mo ≤ 12) (h : 1 ≤ dm) (hm : m ≤ 3287) (e : (y - 2000) * 12 + mo - 1 = (m : Int)) (w : World) (hB : Hid (BefT w))
    (v : Array Value) (hv : Hid (if dm ≤ (szP m : Int) ∧ (stP m : Int) + dm - 1 ≤ 100000 then v = #[.int .i64 ((stP m : Int) + dm - 1), .int .i64 0] else v = #[.int .i64 0, .int .i64 3])) :
    Calls Tryd.prog 11 #[.int .i64 y, .int .i64 mo, .int .i64 dm] w (TupB v w) := by
  have C1 := size_at m (by omega) w hB
  have C2 := start_at m (by omega) w hB
  have hs := st_le (m := m) (by omega)
  have hz := (sz_le (n := m) (by omega)).2
  obtain ⟨s, hs2⟩ : ∃ s, s = stP m := ⟨_, rfl⟩
  obtain ⟨z, hz2⟩ : ∃ z, z = szP m := ⟨_, rfl⟩
  rw [← hs2, ← hz2] at hv
  rw [← hs2] at hs C2
  rw [← hz2] at hz C1
  rw [← e] at C1 C2
  have h0 : decide (dm < 1) = false := by simp; omega
  clear hs2 hz2 e
  by_cases h5 : dm ≤ (z : Int)
  · by_cases h6 : (s : Int) + dm - 1 ≤ 100000
    · have V : Hid (v = #[.int .i64 ((s : Int) + dm - 1), .int .i64 0]) := by
        have := hv.out
        rwa [if_pos ⟨h5, h6⟩] at this
      clear hv
      have C3 := Lib.hid fun w => valid_yes ((s : Int) + dm - 1) w (by omega) h6
      go_enter Tryd.func11, Tryd.ntmps11
      go_wp2_with fail
      refine (C1.out _ (Below.refl _ _)).mono ?_
      rintro e w1 ⟨rfl, q, rfl⟩
      go_wp2_with fail
      refine (C2.out _ (Drew.below ⟨q, rfl⟩)).mono ?_
      rintro e w2 ⟨rfl, q2, rfl⟩
      go_wp2_with fail
      refine (C3.out _).mono ?_
      rintro e w3 ⟨rfl, rfl⟩
      go_wp2_with fail
      go_ret2
      exact ⟨by rw [V.out]; rfl, Drew.below ⟨q + q2, rfl⟩⟩
    · have V : Hid (v = #[.int .i64 0, .int .i64 3]) := by
        have := hv.out
        rwa [if_neg (fun h => h6 h.2)] at this
      clear hv
      have C3 := Lib.hid fun w => valid_no ((s : Int) + dm - 1) w (.inr (by omega))
      go_enter Tryd.func11, Tryd.ntmps11
      go_wp2_with fail
      refine (C1.out _ (Below.refl _ _)).mono ?_
      rintro e w1 ⟨rfl, q, rfl⟩
      go_wp2_with fail
      refine (C2.out _ (Drew.below ⟨q, rfl⟩)).mono ?_
      rintro e w2 ⟨rfl, q2, rfl⟩
      go_wp2_with fail
      refine (C3.out _).mono ?_
      rintro e w3 ⟨rfl, rfl⟩
      go_wp2_with fail
      go_ret2
      exact ⟨by rw [V.out]; rfl, Drew.below ⟨q + q2, rfl⟩⟩
  · have h6 : (z : Int) < dm := by omega
    have V : Hid (v = #[.int .i64 0, .int .i64 3]) := by
      have := hv.out
      rwa [if_neg (fun h => h5 h.1)] at this
    clear hv
    go_enter Tryd.func11, Tryd.ntmps11
    go_wp2_with fail
    refine (C1.out _ (Below.refl _ _)).mono ?_
    rintro e w1 ⟨rfl, q, rfl⟩
    go_wp2_with fail
    go_ret2
    exact ⟨by rw [V.out]; rfl, Drew.below ⟨q, rfl⟩⟩
theorem Day_yes (d m : Nat) (y mo dm : Int) (H : Hid (DateP d m y mo dm)) (w : World) (hB : Hid (BefT w)) :
    Calls Tryd.prog 11 #[.int .i64 y, .int .i64 mo, .int .i64 dm] w (TupB #[.int .i64 (d : Int), .int .i64 0] w) := by
  have b := H.out.bd
  have hd := H.out.le
  refine Day_in y mo dm m (by omega) (by omega) (by omega) (by omega) (by omega) (by omega) (by omega) w hB _ (Lib.hid ?_)
  rw [if_pos ⟨by omega, by omega⟩, b.2.2.2.2.2.2.2.2.2]
theorem Day_no (y mo dm : Int) (H : Hid (¬ IsDate y mo dm)) (w : World) (hB : Hid (BefT w)) :
    Calls Tryd.prog 11 #[.int .i64 y, .int .i64 mo, .int .i64 dm] w (TupB #[.int .i64 0, .int .i64 3] w) := by
  by_cases h : y < 2000 ∨ 2273 < y ∨ mo < 1 ∨ 12 < mo
  · exact Day_out y mo dm h w
  · by_cases h5 : dm < 1
    · exact Day_low y mo dm (by omega) (by omega) (by omega) (by omega) h5 w
    · obtain ⟨m, hm, e, e1, e2⟩ := month_ex (y := y) (mo := mo) (by omega) (by omega) (by omega) (by omega)
      refine Day_in y mo dm m (by omega) (by omega) (by omega) (by omega) (by omega) hm e w hB _ (Lib.hid ?_)
      rw [if_neg]
      rintro ⟨h6, h7⟩
      have hs : 0 ≤ (stP m : Int) := by omega
      exact H.out ⟨((stP m : Int) + dm - 1).toNat, m, date_of e1 e2 (by omega) h6 (by omega) (by omega) (by omega)⟩
theorem Month_no (d : Int) (w : World) (h : NoDay d) :
    Calls Tryd.prog 17 #[.int .i64 d] w fun e w' => e = .returned (.tuple #[.int .i64 0, .int .i64 0, .int .i64 3]) ∧ w = w' := by
  have C := Lib.hid (isDay_no d w h)
  clear h
  go_enter Tryd.func17, Tryd.ntmps17
  go_wp2_with fail
  refine C.out.mono ?_
  rintro e w' ⟨rfl, rfl⟩
  go_wp2_with fail
  go_ret3
  exact ⟨rfl, rfl⟩
/-- The last day of a month, at most the last one of all. -/
def lastP (m : Nat) : Int := min ((stP (m + 1) : Int) - 1) 100000
set_option maxHeartbeats 2000000 in
theorem Month_yes (d m : Nat) (hd : d ≤ 100000) (HM : Hid (Mon d m)) (w : World) (hB : Hid (BefT w)) :
    Calls Tryd.prog 17 #[.int .i64 (d : Int)] w (TupB #[.int .i64 (stP m : Int), .int .i64 (lastP m), .int .i64 0] w) := by
  have C := Lib.hid (isDay_yes (d : Int) w (by omega) (by omega))
  have C2 := Lib.hid (monthOf_any d m hd HM w hB)
  have hm := HM.out.le
  have C3 := start_at m (by omega) w hB
  have C4 := start_at (m + 1) (by omega) w hB
  have hs := st_le (m := m + 1) (by omega)
  obtain ⟨t, ht⟩ : ∃ t, t = stP (m + 1) := ⟨_, rfl⟩
  have HL : Hid (((t : Int) - 1 ≤ 100000 → lastP m = (t : Int) - 1) ∧ (100000 < (t : Int) - 1 → lastP m = 100000)) := by show _ ∧ _; rw [ht]; unfold lastP; omega
  rw [← ht, show ((m + 1 : Nat) : Int) = (m : Int) + 1 by omega] at C4
  rw [← ht] at hs
  obtain ⟨s, hs2⟩ : ∃ s, s = stP m := ⟨_, rfl⟩
  rw [← hs2] at C3 ⊢
  clear ht hs2
  go_enter Tryd.func17, Tryd.ntmps17
  go_wp2_with fail
  refine C.out.mono ?_
  rintro e w' ⟨rfl, rfl⟩
  go_wp2_with fail
  refine C2.out.mono ?_
  rintro e w1 ⟨rfl, hb⟩
  have HB := Lib.hid hb
  clear hb
  go_wp2_with fail
  refine (C3.out _ HB.out).mono ?_
  rintro e w2 ⟨rfl, q, rfl⟩
  go_wp2_with fail
  refine (C4.out _ (HB.out.trans ((Drew.below ⟨q, rfl⟩).mono HB.out.size))).mono ?_
  rintro e w2 ⟨rfl, q2, rfl⟩
  go_wp2_with fail
  all_goals go_ret3
  · exact ⟨by rw [HL.out.2 (by omega)]; rfl, HB.out.trans ((Drew.below ⟨q + q2, rfl⟩).mono HB.out.size)⟩
  · exact ⟨by rw [HL.out.1 (by omega)]; rfl, HB.out.trans ((Drew.below ⟨q + q2, rfl⟩).mono HB.out.size)⟩
/-- The day a sum of months leads to, if it is none. -/
def NoAdd (d m : Nat) (k : Int) : Prop := ∀ r m', ¬ AddP d m r m' k
theorem Add_noDay (d k : Int) (w : World) (h : NoDay d) :
    Calls Tryd.prog 15 #[.int .i64 d, .int .i64 k] w (TupB #[.int .i64 0, .int .i64 3] w) := by
  have C := Lib.hid (isDay_no d w h)
  clear h
  go_enter Tryd.func15, Tryd.ntmps15
  go_wp2_with fail
  refine C.out.mono ?_
  rintro e w' ⟨rfl, rfl⟩
  go_wp2_with fail
  go_ret2
  exact ⟨rfl, Below.refl _ _⟩
set_option maxHeartbeats 2000000 in
theorem Add_far (d m : Nat) (k : Int) (hd : d ≤ 100000) (HM : Hid (Mon d m)) (hk : (m : Int) + k < 0 ∨ 3287 < (m : Int) + k) (w : World) (hB : Hid (BefT w)) :
    Calls Tryd.prog 15 #[.int .i64 (d : Int), .int .i64 k] w (TupB #[.int .i64 0, .int .i64 3] w) := by
  have C := Lib.hid (isDay_yes (d : Int) w (by omega) (by omega))
  have C2 := Lib.hid (monthOf_any d m hd HM w hB)
  have hm := HM.out.le
  by_cases h1 : k < - (m : Int)
  · clear hk
    go_enter Tryd.func15, Tryd.ntmps15
    go_wp2_with fail
    refine C.out.mono ?_
    rintro e w' ⟨rfl, rfl⟩
    go_wp2_with fail
    refine C2.out.mono ?_
    rintro e w1 ⟨rfl, hb⟩
    have HB := Lib.hid hb
    clear hb
    go_wp2_with fail
    go_ret2
    exact ⟨rfl, HB.out⟩
  · have h2 : decide (k < - (m : Int)) = false := by simp; omega
    have h3 : 3287 - (m : Int) < k := by omega
    clear hk h1
    go_enter Tryd.func15, Tryd.ntmps15
    go_wp2_with fail
    refine C.out.mono ?_
    rintro e w' ⟨rfl, rfl⟩
    go_wp2_with fail
    refine C2.out.mono ?_
    rintro e w1 ⟨rfl, hb⟩
    have HB := Lib.hid hb
    clear hb
    go_wp2_with fail
    go_ret2
    exact ⟨rfl, HB.out⟩
set_option maxHeartbeats 2000000 in
theorem Add_in (d m m' : Nat) (k : Int) (hd : d ≤ 100000) (HM : Hid (Mon d m)) (e : (m : Int) + k = (m' : Int)) (hm' : m' ≤ 3287) (w : World) (hB : Hid (BefT w)) (x1 x2 : Int)
    (hv : Hid (if stP m' + min (d - stP m) (szP m' - 1) ≤ 100000 then x1 = ((stP m' + min (d - stP m) (szP m' - 1) : Nat) : Int) ∧ x2 = 0 else x1 = 0 ∧ x2 = 3)) :
    Calls Tryd.prog 15 #[.int .i64 (d : Int), .int .i64 k] w (TupB #[.int .i64 x1, .int .i64 x2] w) := by
  have C := Lib.hid (isDay_yes (d : Int) w (by omega) (by omega))
  have C2 := Lib.hid (monthOf_any d m hd HM w hB)
  have hm := HM.out.le
  have hlo := HM.out.lo
  have C3 := start_at m' (by omega) w hB
  have C4 := start_at m (by omega) w hB
  have C5 := size_at m' (by omega) w hB
  have hs := st_le (m := m') (by omega)
  have hz := sz_le (n := m') (by omega)
  have h1 : decide (k < - (m : Int)) = false := by simp; omega
  have h2 : decide (3287 - (m : Int) < k) = false := by simp; omega
  have hk1 : -4000 ≤ k := by omega
  have hk2 : k ≤ 4000 := by omega
  rw [← e] at C3 C5
  obtain ⟨s', hs'⟩ : ∃ s, s = stP m' := ⟨_, rfl⟩
  obtain ⟨s, hs2⟩ : ∃ s, s = stP m := ⟨_, rfl⟩
  obtain ⟨z, hz2⟩ : ∃ z, z = szP m' := ⟨_, rfl⟩
  rw [← hs'] at hs C3 hv
  rw [← hs2] at C4 hlo hv
  rw [← hz2] at hz C5 hv
  obtain ⟨hz1, hz3⟩ := hz
  clear hs' hs2 hz2 e
  obtain ⟨r, hr⟩ : ∃ r : Nat, r = s' + min (d - s) (z - 1) := ⟨_, rfl⟩
  rw [← hr] at hv
  have HR : Hid (((d : Int) - (s : Int) ≤ (z : Int) - 1 → (r : Int) = (s' : Int) + ((d : Int) - (s : Int))) ∧ ((z : Int) - 1 < (d : Int) - (s : Int) → (r : Int) = (s' : Int) + ((z : Int) - 1))) := by
    show _ ∧ _; omega
  clear hr
  have C6 : Hid (∀ w x, x = (r : Int) → Calls Tryd.prog 26 #[.int .i64 x] w fun e w' => e = .returned (.tuple #[.int .i64 x1, .int .i64 x2]) ∧ w = w') := by
    rintro w x rfl
    have := hv.out
    split at this
    · obtain ⟨rfl, rfl⟩ := this; exact valid_yes _ w (by omega) (by omega)
    · obtain ⟨rfl, rfl⟩ := this; exact valid_no _ w (.inr (by omega))
  clear hv
  by_cases hmin : (d : Int) - (s : Int) ≤ (z : Int) - 1
  · have hx := HR.out.1 hmin
    have HX := Lib.hid hx
    clear hx HR
    go_enter Tryd.func15, Tryd.ntmps15
    go_wp2_with fail
    refine C.out.mono ?_
    rintro e w' ⟨rfl, rfl⟩
    go_wp2_with fail
    refine C2.out.mono ?_
    rintro e w1 ⟨rfl, hb⟩
    have HB := Lib.hid hb
    clear hb
    go_wp2_with fail
    refine (C3.out _ HB.out).mono ?_
    rintro e w2 ⟨rfl, q, rfl⟩
    go_wp2_with fail
    refine (C4.out _ (HB.out.trans ((Drew.below ⟨q, rfl⟩).mono HB.out.size))).mono ?_
    rintro e w2 ⟨rfl, q2, rfl⟩
    go_wp2_with fail
    refine (C5.out _ (HB.out.trans ((Drew.below ⟨q + q2, rfl⟩).mono HB.out.size))).mono ?_
    rintro e w2 ⟨rfl, q3, rfl⟩
    go_wp2_with fail
    refine (C6.out _ _ (by have := HX.out; omega)).mono ?_
    rintro e w2 ⟨rfl, rfl⟩
    go_wp2_with fail
    go_ret2
    exact ⟨rfl, HB.out.trans ((Drew.below ⟨q + q2 + q3, rfl⟩).mono HB.out.size)⟩
  · have hmin : (z : Int) - 1 < (d : Int) - (s : Int) := by omega
    have hx := HR.out.2 hmin
    have HX := Lib.hid hx
    clear hx HR
    go_enter Tryd.func15, Tryd.ntmps15
    go_wp2_with fail
    refine C.out.mono ?_
    rintro e w' ⟨rfl, rfl⟩
    go_wp2_with fail
    refine C2.out.mono ?_
    rintro e w1 ⟨rfl, hb⟩
    have HB := Lib.hid hb
    clear hb
    go_wp2_with fail
    refine (C3.out _ HB.out).mono ?_
    rintro e w2 ⟨rfl, q, rfl⟩
    go_wp2_with fail
    refine (C4.out _ (HB.out.trans ((Drew.below ⟨q, rfl⟩).mono HB.out.size))).mono ?_
    rintro e w2 ⟨rfl, q2, rfl⟩
    go_wp2_with fail
    refine (C5.out _ (HB.out.trans ((Drew.below ⟨q + q2, rfl⟩).mono HB.out.size))).mono ?_
    rintro e w2 ⟨rfl, q3, rfl⟩
    go_wp2_with fail
    refine (C6.out _ _ (by have := HX.out; omega)).mono ?_
    rintro e w2 ⟨rfl, rfl⟩
    go_wp2_with fail
    go_ret2
    exact ⟨rfl, HB.out.trans ((Drew.below ⟨q + q2 + q3, rfl⟩).mono HB.out.size)⟩
theorem Add_yes (d m r m' : Nat) (k : Int) (H : Hid (AddP d m r m' k)) (w : World) (hB : Hid (BefT w)) :
    Calls Tryd.prog 15 #[.int .i64 (d : Int), .int .i64 k] w (TupB #[.int .i64 (r : Int), .int .i64 0] w) := by
  have h := H.out
  refine Add_in d m m' k h.le (Lib.hid h.mon) h.to (by have := h.rm.le; omega) w hB _ _ (Lib.hid ?_)
  rw [if_pos (by rw [← h.eq]; exact h.rle), h.eq]
  exact ⟨rfl, rfl⟩
theorem Add_no (d m : Nat) (k : Int) (hd : d ≤ 100000) (HM : Hid (Mon d m)) (H : Hid (NoAdd d m k)) (w : World) (hB : Hid (BefT w)) :
    Calls Tryd.prog 15 #[.int .i64 (d : Int), .int .i64 k] w (TupB #[.int .i64 0, .int .i64 3] w) := by
  by_cases hk : (m : Int) + k < 0 ∨ 3287 < (m : Int) + k
  · exact Add_far d m k hd HM hk w hB
  · obtain ⟨m', hm'⟩ : ∃ m' : Nat, (m : Int) + k = (m' : Int) := ⟨((m : Int) + k).toNat, by omega⟩
    refine Add_in d m m' k hd HM hm' (by omega) w hB 0 3 (Lib.hid ?_)
    rw [if_neg]
    · exact ⟨rfl, rfl⟩
    · intro hr
      exact H.out _ _ (add_of HM.out hd hm' (by omega) hr)
end Go.Proofs.YtmaapbifkimdcaaDoor
