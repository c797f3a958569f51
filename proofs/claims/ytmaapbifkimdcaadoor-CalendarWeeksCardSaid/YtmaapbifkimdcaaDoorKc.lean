/- The walks of calendar's exported functions. Conditions: the array 'before' is there as its text lays it. -/
import Derived.Test.YtmaapbifkimdcaaDoorKb
namespace Go.Proofs.YtmaapbifkimdcaaDoor
set_option maxRecDepth 8000
open Go.RowKit

/-- How a function that returns a tuple, and makes memory, ends. -/
def TupB (l : Array Value) (w : World) (e : Ending) (w' : World) : Prop := e = .returned (.tuple l) ∧ Below w.heap.size w w'
/-- The number is a day. -/
def NoDay (d : Int) : Prop := d < 0 ∨ 100000 < d

theorem valid_yes (d : Int) (w : World) (h1 : 0 ≤ d) (h2 : d ≤ 100000) :
    Calls Tryd.prog 26 #[.int .i64 d] w fun e w' => e = .returned (.tuple #[.int .i64 d, .int .i64 0]) ∧ w = w' := by
  have C := Lib.hid (isDay_yes d w h1 h2)
  go_enter Tryd.func26, Tryd.ntmps26
  go_wp2_with fail
  refine C.out.mono ?_
  rintro e w' ⟨rfl, rfl⟩
  go_wp2_with fail
  go_ret2
  exact ⟨rfl, rfl⟩
theorem valid_no (d : Int) (w : World) (h : NoDay d) :
    Calls Tryd.prog 26 #[.int .i64 d] w fun e w' => e = .returned (.tuple #[.int .i64 0, .int .i64 3]) ∧ w = w' := by
  have C := Lib.hid (isDay_no d w h)
  clear h
  go_enter Tryd.func26, Tryd.ntmps26
  go_wp2_with fail
  refine C.out.mono ?_
  rintro e w' ⟨rfl, rfl⟩
  go_wp2_with fail
  go_ret2
  exact ⟨rfl, rfl⟩
set_option maxHeartbeats 1000000 in
theorem Weekday_yes (d : Nat) (hd : d ≤ 100000) (w : World) :
    Calls Tryd.prog 13 #[.int .i64 (d : Int)] w fun e w' => e = .returned (.tuple #[.int .i64 (((d + 5) % 7 : Nat) : Int), .int .i64 0]) ∧ w = w' := by
  have C := Lib.hid (isDay_yes (d : Int) w (by omega) (by omega))
  have H : Hid ((((d + 5) % 7 : Nat) : Int) = ((d : Int) + 5) % 7) := by show _ = _; omega
  go_enter Tryd.func13, Tryd.ntmps13
  go_wp2_with fail
  refine C.out.mono ?_
  rintro e w' ⟨rfl, rfl⟩
  go_wp2_with fail
  go_ret2
  exact ⟨by rw [H.out]; rfl, rfl⟩
theorem Weekday_no (d : Int) (w : World) (h : NoDay d) :
    Calls Tryd.prog 13 #[.int .i64 d] w fun e w' => e = .returned (.tuple #[.int .i64 0, .int .i64 3]) ∧ w = w' := by
  have C := Lib.hid (isDay_no d w h)
  clear h
  go_enter Tryd.func13, Tryd.ntmps13
  go_wp2_with fail
  refine C.out.mono ?_
  rintro e w' ⟨rfl, rfl⟩
  go_wp2_with fail
  go_ret2
  exact ⟨rfl, rfl⟩
theorem Date_no (d : Int) (w : World) (h : NoDay d) :
    Calls Tryd.prog 9 #[.int .i64 d] w fun e w' => e = .returned (.tuple #[.int .i64 0, .int .i64 0, .int .i64 0, .int .i64 3]) ∧ w = w' := by
  have C := Lib.hid (isDay_no d w h)
  clear h
  go_enter Tryd.func9, Tryd.ntmps9
  go_wp2_with fail
  refine C.out.mono ?_
  rintro e w' ⟨rfl, rfl⟩
  go_wp2_with fail
  exact bodyPost_ret (v := .tuple #[.int .i64 0, .int .i64 0, .int .i64 0, .int .i64 3]) (by simp [results, Tryd.results9, go_sem]) rfl ⟨rfl, rfl⟩
set_option maxHeartbeats 2000000 in
theorem Date_yes (d m : Nat) (y mo dm : Int) (H : Hid (DateP d m y mo dm)) (w : World) (hB : Hid (BefT w)) :
    Calls Tryd.prog 9 #[.int .i64 (d : Int)] w (TupB #[.int .i64 y, .int .i64 mo, .int .i64 dm, .int .i64 0] w) := by
  have hd := H.out.le
  have C := Lib.hid (isDay_yes (d : Int) w (by omega) (by omega))
  have C2 := Lib.hid (monthOf_any d m hd (Lib.hid H.out.mon) w hB)
  have hm := H.out.mon.le
  obtain ⟨s, hs⟩ : ∃ s, s = stP m := ⟨_, rfl⟩
  have C3 : Hid (∀ w' : World, Below w.heap.size w w' → Calls Tryd.prog 22 #[.int .i64 (m : Int)] w' (IntD (s : Int) w')) := by
    intro w' hb; rw [hs]; exact start_any m (by omega) w' (Lib.hid (hB.out.on hb))
  have h1 : s ≤ d := by rw [hs]; exact H.out.mon.lo
  have E1 := Lib.hid H.out.ey
  have E2 := Lib.hid H.out.emo
  have E3 : Hid (dm = (d : Int) - (s : Int) + 1) := by show _ = _; rw [hs]; exact H.out.edm
  clear H hs
  go_enter Tryd.func9, Tryd.ntmps9
  go_wp2_with fail
  refine C.out.mono ?_
  rintro e w' ⟨rfl, rfl⟩
  go_wp2_with fail
  refine C2.out.mono ?_
  rintro e w1 ⟨rfl, hb⟩
  have HB := Lib.hid hb
  clear hb
  go_wp2_with fail
  refine (C3.out _ HB.out).mono ?_
  rintro e w2 ⟨rfl, q, rfl⟩
  go_wp2_with fail
  refine bodyPost_ret (v := .tuple #[.int .i64 (2000 + (m : Int) / 12), .int .i64 ((m : Int) % 12 + 1), .int .i64 ((d : Int) - (s : Int) + 1), .int .i64 0]) (by simp [results, Tryd.results9, go_sem]) rfl ⟨?_, ?_⟩
  · rw [E1.out, E2.out, E3.out]
  · exact HB.out.trans ((Drew.below ⟨q, rfl⟩).mono HB.out.size)
end Go.Proofs.YtmaapbifkimdcaaDoor
