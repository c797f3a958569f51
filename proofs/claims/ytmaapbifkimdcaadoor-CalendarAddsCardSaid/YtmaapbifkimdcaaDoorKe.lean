/- The walks of the laws' 'is' and 'sane'. Conditions: the array 'before' is there as its text lays it. -/
import Derived.Test.YtmaapbifkimdcaaDoorKd
namespace Go.Proofs.YtmaapbifkimdcaaDoor
set_option maxRecDepth 20000
open Go.RowKit

/-- How a law that answers true ends. -/
def YesB (w : World) (e : Ending) (w' : World) : Prop := e = .returned (.bool true) ∧ Below w.heap.size w w'
set_option maxHeartbeats 2000000 in
theorem is_yes (d m : Nat) (y mo dm : Int) (H : Hid (DateP d m y mo dm)) (w : World) (hB : Hid (BefT w)) :
    Calls Tryd.prog 19 #[.int .i64 (d : Int), .int .i64 y, .int .i64 mo, .int .i64 dm] w (YesB w) := by
  go_enter Tryd.func19, Tryd.ntmps19
  go_wp2_with fail
  refine (Date_yes d m y mo dm H w hB).mono ?_
  rintro e w1 ⟨rfl, hb⟩
  have HB1 := Lib.hid hb
  clear hb
  go_wp2_with fail
  refine (Day_yes d m y mo dm H _ (Lib.hid (hB.out.on HB1.out))).mono ?_
  rintro e w2 ⟨rfl, hb⟩
  have HB2 : Hid (Below w.heap.size w w2) := HB1.out.trans (hb.mono HB1.out.size)
  clear hb
  go_wp2_with fail
  go_ret
  exact ⟨by simp, HB2.out⟩
theorem no_29 : ¬ IsDate 2001 2 29 := by
  rintro ⟨d, m, h⟩
  have e1 := h.ey
  have e2 := h.emo
  obtain rfl : m = 13 := by omega
  have h1 := h.mon.hi
  have h2 := h.edm
  have h3 : stP 13 = 397 := by decide +kernel
  have h4 : stP 14 = 425 := by decide +kernel
  rw [h4] at h1
  rw [h3] at h2
  omega
theorem d_0 : DateP 0 0 2000 1 1 := ⟨⟨by decide +kernel, by decide +kernel, by omega⟩, by omega, by decide, by decide, by decide +kernel⟩
theorem d_59 : DateP 59 1 2000 2 29 := ⟨⟨by decide +kernel, by decide +kernel, by omega⟩, by omega, by decide, by decide, by decide +kernel⟩
theorem d_top : DateP 100000 3285 2273 10 16 := ⟨⟨by decide +kernel, by decide +kernel, by omega⟩, by omega, by decide, by decide, by decide +kernel⟩
theorem d_365 : DateP 365 11 2000 12 31 := ⟨⟨by decide +kernel, by decide +kernel, by omega⟩, by omega, by decide, by decide, by decide +kernel⟩
theorem a_30 : AddP 30 0 59 1 1 := ⟨⟨by decide +kernel, by decide +kernel, by omega⟩, by omega, by decide, ⟨by decide +kernel, by decide +kernel, by omega⟩, by omega, by decide +kernel⟩
theorem m_45 : Mon 45 1 := ⟨by decide +kernel, by decide +kernel, by omega⟩
theorem Month_45 (w : World) (hB : Hid (BefT w)) : Calls Tryd.prog 17 #[.int .i64 45] w (TupB #[.int .i64 31, .int .i64 59, .int .i64 0] w) := by
  have h := Month_yes 45 1 (by omega) (Lib.hid m_45) w hB
  rw [show ((stP 1 : Nat) : Int) = 31 by decide +kernel, show lastP 1 = 59 by decide +kernel] at h
  exact h
theorem Month_top (w : World) (hB : Hid (BefT w)) : Calls Tryd.prog 17 #[.int .i64 100000] w (TupB #[.int .i64 99985, .int .i64 100000, .int .i64 0] w) := by
  have h := Month_yes 100000 3285 (by omega) (Lib.hid d_top.mon) w hB
  rw [show ((stP 3285 : Nat) : Int) = 99985 by decide +kernel, show lastP 3285 = 100000 by decide +kernel] at h
  exact h
set_option maxHeartbeats 4000000 in
theorem sane_any (w : World) (hB : Hid (BefT w)) : Calls Tryd.prog 8 #[] w (YesB w) := by
  go_enter Tryd.func8, Tryd.ntmps8
  go_wp2_with fail
  refine (Day_no 2001 2 29 (Lib.hid no_29) w hB).mono ?_
  rintro e w1 ⟨rfl, hb⟩
  have HB1 := Lib.hid hb
  clear hb
  go_wp2_with fail
  refine (Day_yes 365 11 2000 12 31 (Lib.hid d_365) _ (Lib.hid (hB.out.on HB1.out))).mono ?_
  rintro e w2 ⟨rfl, hb⟩
  have HB2 : Hid (Below w.heap.size w w2) := HB1.out.trans (hb.mono HB1.out.size)
  clear hb
  go_wp2_with fail
  refine (Weekday_yes 0 (by omega) _).mono ?_
  rintro e w_ ⟨rfl, rfl⟩
  go_wp2_with fail
  refine (Weekday_yes 2 (by omega) _).mono ?_
  rintro e w_ ⟨rfl, rfl⟩
  go_wp2_with fail
  refine (Add_yes 30 0 59 1 1 (Lib.hid a_30) _ (Lib.hid (hB.out.on HB2.out))).mono ?_
  rintro e w3 ⟨rfl, hb⟩
  have HB3 : Hid (Below w.heap.size w w3) := HB2.out.trans (hb.mono HB2.out.size)
  clear hb
  go_wp2_with fail
  refine (Month_45 _ (Lib.hid (hB.out.on HB3.out))).mono ?_
  rintro e w4 ⟨rfl, hb⟩
  have HB4 : Hid (Below w.heap.size w w4) := HB3.out.trans (hb.mono HB3.out.size)
  clear hb
  go_wp2_with fail
  refine (Month_top _ (Lib.hid (hB.out.on HB4.out))).mono ?_
  rintro e w5 ⟨rfl, hb⟩
  have HB5 : Hid (Below w.heap.size w w5) := HB4.out.trans (hb.mono HB4.out.size)
  clear hb
  go_wp2_with fail
  refine (is_yes 0 0 2000 1 1 (Lib.hid d_0) _ (Lib.hid (hB.out.on HB5.out))).mono ?_
  rintro e w6 ⟨rfl, hb⟩
  have HB6 : Hid (Below w.heap.size w w6) := HB5.out.trans (hb.mono HB5.out.size)
  clear hb
  go_wp2_with fail
  refine (is_yes 59 1 2000 2 29 (Lib.hid d_59) _ (Lib.hid (hB.out.on HB6.out))).mono ?_
  rintro e w7 ⟨rfl, hb⟩
  have HB7 : Hid (Below w.heap.size w w7) := HB6.out.trans (hb.mono HB6.out.size)
  clear hb
  go_wp2_with fail
  refine (is_yes 100000 3285 2273 10 16 (Lib.hid d_top) _ (Lib.hid (hB.out.on HB7.out))).mono ?_
  rintro e w8 ⟨rfl, hb⟩
  have HB8 : Hid (Below w.heap.size w w8) := HB7.out.trans (hb.mono HB7.out.size)
  clear hb
  go_wp2_with fail
  go_ret
  exact ⟨rfl, HB8.out⟩
end Go.Proofs.YtmaapbifkimdcaaDoor
