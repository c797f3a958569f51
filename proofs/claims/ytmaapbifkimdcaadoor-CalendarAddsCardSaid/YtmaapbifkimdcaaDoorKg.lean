/- CalendarBack's walk. Conditions: the array 'before' is there as its text lays it. -/
import Derived.Test.YtmaapbifkimdcaaDoorKf
namespace Go.Proofs.YtmaapbifkimdcaaDoor
set_option maxRecDepth 20000
open Go.RowKit

set_option maxHeartbeats 4000000 in
theorem back_low_yes (a b year month dom k : Int) (ha : a < 0) (u2 v2 d2 h2 : Int) (H1 : Hid (DateQ a 0 0 0 3)) (H2 : Hid (DayQ 0 0 0 0 3)) (H3 : Hid (DayQ year month dom k 0)) (H4 : Hid (DateQ k year month dom 0)) (H5 : Hid (DateQ b u2 v2 d2 h2)) (w : World) (hB : Hid (BefT w)) :
    Calls Tryd.prog 4 #[.int .i64 a, .int .i64 b, .int .i64 year, .int .i64 month, .int .i64 dom] w (YesB w) := by
  have nf1 : decide (0 ≤ a) = false := decide_eq_false (by omega)
  go_enter Tryd.func4, Tryd.ntmps4
  go_wp2_with fail
  refine (sane_any w hB).mono ?_
  rintro e w1 ⟨rfl, hb⟩
  have HB1 := Lib.hid hb
  clear hb
  go_wp2_with fail
  refine (Date_any _ _ _ _ _ H1 _ (Lib.hid (hB.out.on HB1.out))).mono ?_
  rintro e w2 ⟨rfl, hb⟩
  have HB2 : Hid (Below w.heap.size w w2) := HB1.out.trans (hb.mono HB1.out.size)
  clear hb
  go_wp2_with fail
  refine (Day_any _ _ _ _ _ H2 _ (Lib.hid (hB.out.on HB2.out))).mono ?_
  rintro e w3 ⟨rfl, hb⟩
  have HB3 : Hid (Below w.heap.size w w3) := HB2.out.trans (hb.mono HB2.out.size)
  clear hb
  go_wp2_with fail
  refine (Day_any _ _ _ _ _ H3 _ (Lib.hid (hB.out.on HB3.out))).mono ?_
  rintro e w4 ⟨rfl, hb⟩
  have HB4 : Hid (Below w.heap.size w w4) := HB3.out.trans (hb.mono HB3.out.size)
  clear hb
  go_wp2_with fail
  refine (Date_any _ _ _ _ _ H4 _ (Lib.hid (hB.out.on HB4.out))).mono ?_
  rintro e w5 ⟨rfl, hb⟩
  have HB5 : Hid (Below w.heap.size w w5) := HB4.out.trans (hb.mono HB4.out.size)
  clear hb
  go_wp2_with fail
  refine (Date_any _ _ _ _ _ H5 _ (Lib.hid (hB.out.on HB5.out))).mono ?_
  rintro e w6 ⟨rfl, hb⟩
  have HB6 : Hid (Below w.heap.size w w6) := HB5.out.trans (hb.mono HB5.out.size)
  clear hb
  go_wp2_with fail
  go_ret
  exact ⟨by first | rfl | simp, HB6.out⟩
set_option maxHeartbeats 4000000 in
theorem back_high_yes (a b year month dom k : Int) (ha : 100000 < a) (u2 v2 d2 h2 : Int) (H1 : Hid (DateQ a 0 0 0 3)) (H2 : Hid (DayQ 0 0 0 0 3)) (H3 : Hid (DayQ year month dom k 0)) (H4 : Hid (DateQ k year month dom 0)) (H5 : Hid (DateQ b u2 v2 d2 h2)) (w : World) (hB : Hid (BefT w)) :
    Calls Tryd.prog 4 #[.int .i64 a, .int .i64 b, .int .i64 year, .int .i64 month, .int .i64 dom] w (YesB w) := by
  have ha0 : 0 ≤ a := by omega
  have nf2 : decide (a ≤ 100000) = false := decide_eq_false (by omega)
  go_enter Tryd.func4, Tryd.ntmps4
  go_wp2_with fail
  refine (sane_any w hB).mono ?_
  rintro e w1 ⟨rfl, hb⟩
  have HB1 := Lib.hid hb
  clear hb
  go_wp2_with fail
  refine (Date_any _ _ _ _ _ H1 _ (Lib.hid (hB.out.on HB1.out))).mono ?_
  rintro e w2 ⟨rfl, hb⟩
  have HB2 : Hid (Below w.heap.size w w2) := HB1.out.trans (hb.mono HB1.out.size)
  clear hb
  go_wp2_with fail
  refine (Day_any _ _ _ _ _ H2 _ (Lib.hid (hB.out.on HB2.out))).mono ?_
  rintro e w3 ⟨rfl, hb⟩
  have HB3 : Hid (Below w.heap.size w w3) := HB2.out.trans (hb.mono HB2.out.size)
  clear hb
  go_wp2_with fail
  refine (Day_any _ _ _ _ _ H3 _ (Lib.hid (hB.out.on HB3.out))).mono ?_
  rintro e w4 ⟨rfl, hb⟩
  have HB4 : Hid (Below w.heap.size w w4) := HB3.out.trans (hb.mono HB3.out.size)
  clear hb
  go_wp2_with fail
  refine (Date_any _ _ _ _ _ H4 _ (Lib.hid (hB.out.on HB4.out))).mono ?_
  rintro e w5 ⟨rfl, hb⟩
  have HB5 : Hid (Below w.heap.size w w5) := HB4.out.trans (hb.mono HB4.out.size)
  clear hb
  go_wp2_with fail
  refine (Date_any _ _ _ _ _ H5 _ (Lib.hid (hB.out.on HB5.out))).mono ?_
  rintro e w6 ⟨rfl, hb⟩
  have HB6 : Hid (Below w.heap.size w w6) := HB5.out.trans (hb.mono HB5.out.size)
  clear hb
  go_wp2_with fail
  go_ret
  exact ⟨by first | rfl | simp, HB6.out⟩
set_option maxHeartbeats 4000000 in
theorem back_day_yes_no (a b year month dom k : Int) (y mo dm : Int) (ha0 : 0 ≤ a) (ha1 : a ≤ 100000) (u2 v2 d2 : Int) (H1 : Hid (DateQ a y mo dm 0)) (H2 : Hid (DayQ y mo dm a 0)) (H3 : Hid (DayQ year month dom k 0)) (H4 : Hid (DateQ k year month dom 0)) (H5 : Hid (DateQ b u2 v2 d2 3)) (w : World) (hB : Hid (BefT w)) :
    Calls Tryd.prog 4 #[.int .i64 a, .int .i64 b, .int .i64 year, .int .i64 month, .int .i64 dom] w (YesB w) := by
  go_enter Tryd.func4, Tryd.ntmps4
  go_wp2_with fail
  refine (sane_any w hB).mono ?_
  rintro e w1 ⟨rfl, hb⟩
  have HB1 := Lib.hid hb
  clear hb
  go_wp2_with fail
  refine (Date_any _ _ _ _ _ H1 _ (Lib.hid (hB.out.on HB1.out))).mono ?_
  rintro e w2 ⟨rfl, hb⟩
  have HB2 : Hid (Below w.heap.size w w2) := HB1.out.trans (hb.mono HB1.out.size)
  clear hb
  go_wp2_with fail
  refine (Day_any _ _ _ _ _ H2 _ (Lib.hid (hB.out.on HB2.out))).mono ?_
  rintro e w3 ⟨rfl, hb⟩
  have HB3 : Hid (Below w.heap.size w w3) := HB2.out.trans (hb.mono HB2.out.size)
  clear hb
  go_wp2_with fail
  refine (Day_any _ _ _ _ _ H3 _ (Lib.hid (hB.out.on HB3.out))).mono ?_
  rintro e w4 ⟨rfl, hb⟩
  have HB4 : Hid (Below w.heap.size w w4) := HB3.out.trans (hb.mono HB3.out.size)
  clear hb
  go_wp2_with fail
  refine (Date_any _ _ _ _ _ H4 _ (Lib.hid (hB.out.on HB4.out))).mono ?_
  rintro e w5 ⟨rfl, hb⟩
  have HB5 : Hid (Below w.heap.size w w5) := HB4.out.trans (hb.mono HB4.out.size)
  clear hb
  go_wp2_with fail
  refine (Date_any _ _ _ _ _ H5 _ (Lib.hid (hB.out.on HB5.out))).mono ?_
  rintro e w6 ⟨rfl, hb⟩
  have HB6 : Hid (Below w.heap.size w w6) := HB5.out.trans (hb.mono HB5.out.size)
  clear hb
  go_wp2_with fail
  go_ret
  exact ⟨by first | rfl | simp, HB6.out⟩
set_option maxHeartbeats 4000000 in
theorem back_day_yes_ge (a b year month dom k : Int) (y mo dm : Int) (ha0 : 0 ≤ a) (ha1 : a ≤ 100000) (u2 v2 d2 : Int) (hab : b ≤ a) (H1 : Hid (DateQ a y mo dm 0)) (H2 : Hid (DayQ y mo dm a 0)) (H3 : Hid (DayQ year month dom k 0)) (H4 : Hid (DateQ k year month dom 0)) (H5 : Hid (DateQ b u2 v2 d2 0)) (w : World) (hB : Hid (BefT w)) :
    Calls Tryd.prog 4 #[.int .i64 a, .int .i64 b, .int .i64 year, .int .i64 month, .int .i64 dom] w (YesB w) := by
  go_enter Tryd.func4, Tryd.ntmps4
  go_wp2_with fail
  refine (sane_any w hB).mono ?_
  rintro e w1 ⟨rfl, hb⟩
  have HB1 := Lib.hid hb
  clear hb
  go_wp2_with fail
  refine (Date_any _ _ _ _ _ H1 _ (Lib.hid (hB.out.on HB1.out))).mono ?_
  rintro e w2 ⟨rfl, hb⟩
  have HB2 : Hid (Below w.heap.size w w2) := HB1.out.trans (hb.mono HB1.out.size)
  clear hb
  go_wp2_with fail
  refine (Day_any _ _ _ _ _ H2 _ (Lib.hid (hB.out.on HB2.out))).mono ?_
  rintro e w3 ⟨rfl, hb⟩
  have HB3 : Hid (Below w.heap.size w w3) := HB2.out.trans (hb.mono HB2.out.size)
  clear hb
  go_wp2_with fail
  refine (Day_any _ _ _ _ _ H3 _ (Lib.hid (hB.out.on HB3.out))).mono ?_
  rintro e w4 ⟨rfl, hb⟩
  have HB4 : Hid (Below w.heap.size w w4) := HB3.out.trans (hb.mono HB3.out.size)
  clear hb
  go_wp2_with fail
  refine (Date_any _ _ _ _ _ H4 _ (Lib.hid (hB.out.on HB4.out))).mono ?_
  rintro e w5 ⟨rfl, hb⟩
  have HB5 : Hid (Below w.heap.size w w5) := HB4.out.trans (hb.mono HB4.out.size)
  clear hb
  go_wp2_with fail
  refine (Date_any _ _ _ _ _ H5 _ (Lib.hid (hB.out.on HB5.out))).mono ?_
  rintro e w6 ⟨rfl, hb⟩
  have HB6 : Hid (Below w.heap.size w w6) := HB5.out.trans (hb.mono HB5.out.size)
  clear hb
  go_wp2_with fail
  go_ret
  exact ⟨by first | rfl | simp, HB6.out⟩
set_option maxHeartbeats 4000000 in
theorem back_day_yes_lt1 (a b year month dom k : Int) (y mo dm : Int) (ha0 : 0 ≤ a) (ha1 : a ≤ 100000) (u2 v2 d2 : Int) (hab : a < b) (hlt : y < u2) (H1 : Hid (DateQ a y mo dm 0)) (H2 : Hid (DayQ y mo dm a 0)) (H3 : Hid (DayQ year month dom k 0)) (H4 : Hid (DateQ k year month dom 0)) (H5 : Hid (DateQ b u2 v2 d2 0)) (w : World) (hB : Hid (BefT w)) :
    Calls Tryd.prog 4 #[.int .i64 a, .int .i64 b, .int .i64 year, .int .i64 month, .int .i64 dom] w (YesB w) := by
  have nf3 : decide (b ≤ a) = false := decide_eq_false (by omega)
  go_enter Tryd.func4, Tryd.ntmps4
  go_wp2_with fail
  refine (sane_any w hB).mono ?_
  rintro e w1 ⟨rfl, hb⟩
  have HB1 := Lib.hid hb
  clear hb
  go_wp2_with fail
  refine (Date_any _ _ _ _ _ H1 _ (Lib.hid (hB.out.on HB1.out))).mono ?_
  rintro e w2 ⟨rfl, hb⟩
  have HB2 : Hid (Below w.heap.size w w2) := HB1.out.trans (hb.mono HB1.out.size)
  clear hb
  go_wp2_with fail
  refine (Day_any _ _ _ _ _ H2 _ (Lib.hid (hB.out.on HB2.out))).mono ?_
  rintro e w3 ⟨rfl, hb⟩
  have HB3 : Hid (Below w.heap.size w w3) := HB2.out.trans (hb.mono HB2.out.size)
  clear hb
  go_wp2_with fail
  refine (Day_any _ _ _ _ _ H3 _ (Lib.hid (hB.out.on HB3.out))).mono ?_
  rintro e w4 ⟨rfl, hb⟩
  have HB4 : Hid (Below w.heap.size w w4) := HB3.out.trans (hb.mono HB3.out.size)
  clear hb
  go_wp2_with fail
  refine (Date_any _ _ _ _ _ H4 _ (Lib.hid (hB.out.on HB4.out))).mono ?_
  rintro e w5 ⟨rfl, hb⟩
  have HB5 : Hid (Below w.heap.size w w5) := HB4.out.trans (hb.mono HB4.out.size)
  clear hb
  go_wp2_with fail
  refine (Date_any _ _ _ _ _ H5 _ (Lib.hid (hB.out.on HB5.out))).mono ?_
  rintro e w6 ⟨rfl, hb⟩
  have HB6 : Hid (Below w.heap.size w w6) := HB5.out.trans (hb.mono HB5.out.size)
  clear hb
  go_wp2_with fail
  go_ret
  exact ⟨by first | rfl | simp, HB6.out⟩
set_option maxHeartbeats 4000000 in
theorem back_day_yes_lt2 (a b year month dom k : Int) (y mo dm : Int) (ha0 : 0 ≤ a) (ha1 : a ≤ 100000) (v2 d2 : Int) (hab : a < b) (hlt : mo < v2) (H1 : Hid (DateQ a y mo dm 0)) (H2 : Hid (DayQ y mo dm a 0)) (H3 : Hid (DayQ year month dom k 0)) (H4 : Hid (DateQ k year month dom 0)) (H5 : Hid (DateQ b y v2 d2 0)) (w : World) (hB : Hid (BefT w)) :
    Calls Tryd.prog 4 #[.int .i64 a, .int .i64 b, .int .i64 year, .int .i64 month, .int .i64 dom] w (YesB w) := by
  have nf4 : decide (b ≤ a) = false := decide_eq_false (by omega)
  go_enter Tryd.func4, Tryd.ntmps4
  go_wp2_with fail
  refine (sane_any w hB).mono ?_
  rintro e w1 ⟨rfl, hb⟩
  have HB1 := Lib.hid hb
  clear hb
  go_wp2_with fail
  refine (Date_any _ _ _ _ _ H1 _ (Lib.hid (hB.out.on HB1.out))).mono ?_
  rintro e w2 ⟨rfl, hb⟩
  have HB2 : Hid (Below w.heap.size w w2) := HB1.out.trans (hb.mono HB1.out.size)
  clear hb
  go_wp2_with fail
  refine (Day_any _ _ _ _ _ H2 _ (Lib.hid (hB.out.on HB2.out))).mono ?_
  rintro e w3 ⟨rfl, hb⟩
  have HB3 : Hid (Below w.heap.size w w3) := HB2.out.trans (hb.mono HB2.out.size)
  clear hb
  go_wp2_with fail
  refine (Day_any _ _ _ _ _ H3 _ (Lib.hid (hB.out.on HB3.out))).mono ?_
  rintro e w4 ⟨rfl, hb⟩
  have HB4 : Hid (Below w.heap.size w w4) := HB3.out.trans (hb.mono HB3.out.size)
  clear hb
  go_wp2_with fail
  refine (Date_any _ _ _ _ _ H4 _ (Lib.hid (hB.out.on HB4.out))).mono ?_
  rintro e w5 ⟨rfl, hb⟩
  have HB5 : Hid (Below w.heap.size w w5) := HB4.out.trans (hb.mono HB4.out.size)
  clear hb
  go_wp2_with fail
  refine (Date_any _ _ _ _ _ H5 _ (Lib.hid (hB.out.on HB5.out))).mono ?_
  rintro e w6 ⟨rfl, hb⟩
  have HB6 : Hid (Below w.heap.size w w6) := HB5.out.trans (hb.mono HB5.out.size)
  clear hb
  go_wp2_with fail
  go_ret
  exact ⟨by first | rfl | simp, HB6.out⟩
set_option maxHeartbeats 4000000 in
theorem back_day_yes_lt3 (a b year month dom k : Int) (y mo dm : Int) (ha0 : 0 ≤ a) (ha1 : a ≤ 100000) (d2 : Int) (hab : a < b) (hlt : dm < d2) (H1 : Hid (DateQ a y mo dm 0)) (H2 : Hid (DayQ y mo dm a 0)) (H3 : Hid (DayQ year month dom k 0)) (H4 : Hid (DateQ k year month dom 0)) (H5 : Hid (DateQ b y mo d2 0)) (w : World) (hB : Hid (BefT w)) :
    Calls Tryd.prog 4 #[.int .i64 a, .int .i64 b, .int .i64 year, .int .i64 month, .int .i64 dom] w (YesB w) := by
  have nf5 : decide (b ≤ a) = false := decide_eq_false (by omega)
  go_enter Tryd.func4, Tryd.ntmps4
  go_wp2_with fail
  refine (sane_any w hB).mono ?_
  rintro e w1 ⟨rfl, hb⟩
  have HB1 := Lib.hid hb
  clear hb
  go_wp2_with fail
  refine (Date_any _ _ _ _ _ H1 _ (Lib.hid (hB.out.on HB1.out))).mono ?_
  rintro e w2 ⟨rfl, hb⟩
  have HB2 : Hid (Below w.heap.size w w2) := HB1.out.trans (hb.mono HB1.out.size)
  clear hb
  go_wp2_with fail
  refine (Day_any _ _ _ _ _ H2 _ (Lib.hid (hB.out.on HB2.out))).mono ?_
  rintro e w3 ⟨rfl, hb⟩
  have HB3 : Hid (Below w.heap.size w w3) := HB2.out.trans (hb.mono HB2.out.size)
  clear hb
  go_wp2_with fail
  refine (Day_any _ _ _ _ _ H3 _ (Lib.hid (hB.out.on HB3.out))).mono ?_
  rintro e w4 ⟨rfl, hb⟩
  have HB4 : Hid (Below w.heap.size w w4) := HB3.out.trans (hb.mono HB3.out.size)
  clear hb
  go_wp2_with fail
  refine (Date_any _ _ _ _ _ H4 _ (Lib.hid (hB.out.on HB4.out))).mono ?_
  rintro e w5 ⟨rfl, hb⟩
  have HB5 : Hid (Below w.heap.size w w5) := HB4.out.trans (hb.mono HB4.out.size)
  clear hb
  go_wp2_with fail
  refine (Date_any _ _ _ _ _ H5 _ (Lib.hid (hB.out.on HB5.out))).mono ?_
  rintro e w6 ⟨rfl, hb⟩
  have HB6 : Hid (Below w.heap.size w w6) := HB5.out.trans (hb.mono HB5.out.size)
  clear hb
  go_wp2_with fail
  go_ret
  exact ⟨by first | rfl | simp, HB6.out⟩
set_option maxHeartbeats 4000000 in
theorem back_low_no (a b year month dom k : Int) (ha : a < 0) (u v d h : Int) (u2 v2 d2 h2 : Int) (H1 : Hid (DateQ a 0 0 0 3)) (H2 : Hid (DayQ 0 0 0 0 3)) (H3 : Hid (DayQ year month dom k 3)) (H4 : Hid (DateQ k u v d h)) (H5 : Hid (DateQ b u2 v2 d2 h2)) (w : World) (hB : Hid (BefT w)) :
    Calls Tryd.prog 4 #[.int .i64 a, .int .i64 b, .int .i64 year, .int .i64 month, .int .i64 dom] w (YesB w) := by
  have nf6 : decide (0 ≤ a) = false := decide_eq_false (by omega)
  go_enter Tryd.func4, Tryd.ntmps4
  go_wp2_with fail
  refine (sane_any w hB).mono ?_
  rintro e w1 ⟨rfl, hb⟩
  have HB1 := Lib.hid hb
  clear hb
  go_wp2_with fail
  refine (Date_any _ _ _ _ _ H1 _ (Lib.hid (hB.out.on HB1.out))).mono ?_
  rintro e w2 ⟨rfl, hb⟩
  have HB2 : Hid (Below w.heap.size w w2) := HB1.out.trans (hb.mono HB1.out.size)
  clear hb
  go_wp2_with fail
  refine (Day_any _ _ _ _ _ H2 _ (Lib.hid (hB.out.on HB2.out))).mono ?_
  rintro e w3 ⟨rfl, hb⟩
  have HB3 : Hid (Below w.heap.size w w3) := HB2.out.trans (hb.mono HB2.out.size)
  clear hb
  go_wp2_with fail
  refine (Day_any _ _ _ _ _ H3 _ (Lib.hid (hB.out.on HB3.out))).mono ?_
  rintro e w4 ⟨rfl, hb⟩
  have HB4 : Hid (Below w.heap.size w w4) := HB3.out.trans (hb.mono HB3.out.size)
  clear hb
  go_wp2_with fail
  refine (Date_any _ _ _ _ _ H4 _ (Lib.hid (hB.out.on HB4.out))).mono ?_
  rintro e w5 ⟨rfl, hb⟩
  have HB5 : Hid (Below w.heap.size w w5) := HB4.out.trans (hb.mono HB4.out.size)
  clear hb
  go_wp2_with fail
  refine (Date_any _ _ _ _ _ H5 _ (Lib.hid (hB.out.on HB5.out))).mono ?_
  rintro e w6 ⟨rfl, hb⟩
  have HB6 : Hid (Below w.heap.size w w6) := HB5.out.trans (hb.mono HB5.out.size)
  clear hb
  go_wp2_with fail
  go_ret
  exact ⟨by first | rfl | simp, HB6.out⟩
set_option maxHeartbeats 4000000 in
theorem back_high_no (a b year month dom k : Int) (ha : 100000 < a) (u v d h : Int) (u2 v2 d2 h2 : Int) (H1 : Hid (DateQ a 0 0 0 3)) (H2 : Hid (DayQ 0 0 0 0 3)) (H3 : Hid (DayQ year month dom k 3)) (H4 : Hid (DateQ k u v d h)) (H5 : Hid (DateQ b u2 v2 d2 h2)) (w : World) (hB : Hid (BefT w)) :
    Calls Tryd.prog 4 #[.int .i64 a, .int .i64 b, .int .i64 year, .int .i64 month, .int .i64 dom] w (YesB w) := by
  have ha0 : 0 ≤ a := by omega
  have nf7 : decide (a ≤ 100000) = false := decide_eq_false (by omega)
  go_enter Tryd.func4, Tryd.ntmps4
  go_wp2_with fail
  refine (sane_any w hB).mono ?_
  rintro e w1 ⟨rfl, hb⟩
  have HB1 := Lib.hid hb
  clear hb
  go_wp2_with fail
  refine (Date_any _ _ _ _ _ H1 _ (Lib.hid (hB.out.on HB1.out))).mono ?_
  rintro e w2 ⟨rfl, hb⟩
  have HB2 : Hid (Below w.heap.size w w2) := HB1.out.trans (hb.mono HB1.out.size)
  clear hb
  go_wp2_with fail
  refine (Day_any _ _ _ _ _ H2 _ (Lib.hid (hB.out.on HB2.out))).mono ?_
  rintro e w3 ⟨rfl, hb⟩
  have HB3 : Hid (Below w.heap.size w w3) := HB2.out.trans (hb.mono HB2.out.size)
  clear hb
  go_wp2_with fail
  refine (Day_any _ _ _ _ _ H3 _ (Lib.hid (hB.out.on HB3.out))).mono ?_
  rintro e w4 ⟨rfl, hb⟩
  have HB4 : Hid (Below w.heap.size w w4) := HB3.out.trans (hb.mono HB3.out.size)
  clear hb
  go_wp2_with fail
  refine (Date_any _ _ _ _ _ H4 _ (Lib.hid (hB.out.on HB4.out))).mono ?_
  rintro e w5 ⟨rfl, hb⟩
  have HB5 : Hid (Below w.heap.size w w5) := HB4.out.trans (hb.mono HB4.out.size)
  clear hb
  go_wp2_with fail
  refine (Date_any _ _ _ _ _ H5 _ (Lib.hid (hB.out.on HB5.out))).mono ?_
  rintro e w6 ⟨rfl, hb⟩
  have HB6 : Hid (Below w.heap.size w w6) := HB5.out.trans (hb.mono HB5.out.size)
  clear hb
  go_wp2_with fail
  go_ret
  exact ⟨by first | rfl | simp, HB6.out⟩
set_option maxHeartbeats 4000000 in
theorem back_day_no_no (a b year month dom k : Int) (y mo dm : Int) (ha0 : 0 ≤ a) (ha1 : a ≤ 100000) (u v d h : Int) (u2 v2 d2 : Int) (H1 : Hid (DateQ a y mo dm 0)) (H2 : Hid (DayQ y mo dm a 0)) (H3 : Hid (DayQ year month dom k 3)) (H4 : Hid (DateQ k u v d h)) (H5 : Hid (DateQ b u2 v2 d2 3)) (w : World) (hB : Hid (BefT w)) :
    Calls Tryd.prog 4 #[.int .i64 a, .int .i64 b, .int .i64 year, .int .i64 month, .int .i64 dom] w (YesB w) := by
  go_enter Tryd.func4, Tryd.ntmps4
  go_wp2_with fail
  refine (sane_any w hB).mono ?_
  rintro e w1 ⟨rfl, hb⟩
  have HB1 := Lib.hid hb
  clear hb
  go_wp2_with fail
  refine (Date_any _ _ _ _ _ H1 _ (Lib.hid (hB.out.on HB1.out))).mono ?_
  rintro e w2 ⟨rfl, hb⟩
  have HB2 : Hid (Below w.heap.size w w2) := HB1.out.trans (hb.mono HB1.out.size)
  clear hb
  go_wp2_with fail
  refine (Day_any _ _ _ _ _ H2 _ (Lib.hid (hB.out.on HB2.out))).mono ?_
  rintro e w3 ⟨rfl, hb⟩
  have HB3 : Hid (Below w.heap.size w w3) := HB2.out.trans (hb.mono HB2.out.size)
  clear hb
  go_wp2_with fail
  refine (Day_any _ _ _ _ _ H3 _ (Lib.hid (hB.out.on HB3.out))).mono ?_
  rintro e w4 ⟨rfl, hb⟩
  have HB4 : Hid (Below w.heap.size w w4) := HB3.out.trans (hb.mono HB3.out.size)
  clear hb
  go_wp2_with fail
  refine (Date_any _ _ _ _ _ H4 _ (Lib.hid (hB.out.on HB4.out))).mono ?_
  rintro e w5 ⟨rfl, hb⟩
  have HB5 : Hid (Below w.heap.size w w5) := HB4.out.trans (hb.mono HB4.out.size)
  clear hb
  go_wp2_with fail
  refine (Date_any _ _ _ _ _ H5 _ (Lib.hid (hB.out.on HB5.out))).mono ?_
  rintro e w6 ⟨rfl, hb⟩
  have HB6 : Hid (Below w.heap.size w w6) := HB5.out.trans (hb.mono HB5.out.size)
  clear hb
  go_wp2_with fail
  go_ret
  exact ⟨by first | rfl | simp, HB6.out⟩
set_option maxHeartbeats 4000000 in
theorem back_day_no_ge (a b year month dom k : Int) (y mo dm : Int) (ha0 : 0 ≤ a) (ha1 : a ≤ 100000) (u v d h : Int) (u2 v2 d2 : Int) (hab : b ≤ a) (H1 : Hid (DateQ a y mo dm 0)) (H2 : Hid (DayQ y mo dm a 0)) (H3 : Hid (DayQ year month dom k 3)) (H4 : Hid (DateQ k u v d h)) (H5 : Hid (DateQ b u2 v2 d2 0)) (w : World) (hB : Hid (BefT w)) :
    Calls Tryd.prog 4 #[.int .i64 a, .int .i64 b, .int .i64 year, .int .i64 month, .int .i64 dom] w (YesB w) := by
  go_enter Tryd.func4, Tryd.ntmps4
  go_wp2_with fail
  refine (sane_any w hB).mono ?_
  rintro e w1 ⟨rfl, hb⟩
  have HB1 := Lib.hid hb
  clear hb
  go_wp2_with fail
  refine (Date_any _ _ _ _ _ H1 _ (Lib.hid (hB.out.on HB1.out))).mono ?_
  rintro e w2 ⟨rfl, hb⟩
  have HB2 : Hid (Below w.heap.size w w2) := HB1.out.trans (hb.mono HB1.out.size)
  clear hb
  go_wp2_with fail
  refine (Day_any _ _ _ _ _ H2 _ (Lib.hid (hB.out.on HB2.out))).mono ?_
  rintro e w3 ⟨rfl, hb⟩
  have HB3 : Hid (Below w.heap.size w w3) := HB2.out.trans (hb.mono HB2.out.size)
  clear hb
  go_wp2_with fail
  refine (Day_any _ _ _ _ _ H3 _ (Lib.hid (hB.out.on HB3.out))).mono ?_
  rintro e w4 ⟨rfl, hb⟩
  have HB4 : Hid (Below w.heap.size w w4) := HB3.out.trans (hb.mono HB3.out.size)
  clear hb
  go_wp2_with fail
  refine (Date_any _ _ _ _ _ H4 _ (Lib.hid (hB.out.on HB4.out))).mono ?_
  rintro e w5 ⟨rfl, hb⟩
  have HB5 : Hid (Below w.heap.size w w5) := HB4.out.trans (hb.mono HB4.out.size)
  clear hb
  go_wp2_with fail
  refine (Date_any _ _ _ _ _ H5 _ (Lib.hid (hB.out.on HB5.out))).mono ?_
  rintro e w6 ⟨rfl, hb⟩
  have HB6 : Hid (Below w.heap.size w w6) := HB5.out.trans (hb.mono HB5.out.size)
  clear hb
  go_wp2_with fail
  go_ret
  exact ⟨by first | rfl | simp, HB6.out⟩
set_option maxHeartbeats 4000000 in
theorem back_day_no_lt1 (a b year month dom k : Int) (y mo dm : Int) (ha0 : 0 ≤ a) (ha1 : a ≤ 100000) (u v d h : Int) (u2 v2 d2 : Int) (hab : a < b) (hlt : y < u2) (H1 : Hid (DateQ a y mo dm 0)) (H2 : Hid (DayQ y mo dm a 0)) (H3 : Hid (DayQ year month dom k 3)) (H4 : Hid (DateQ k u v d h)) (H5 : Hid (DateQ b u2 v2 d2 0)) (w : World) (hB : Hid (BefT w)) :
    Calls Tryd.prog 4 #[.int .i64 a, .int .i64 b, .int .i64 year, .int .i64 month, .int .i64 dom] w (YesB w) := by
  have nf8 : decide (b ≤ a) = false := decide_eq_false (by omega)
  go_enter Tryd.func4, Tryd.ntmps4
  go_wp2_with fail
  refine (sane_any w hB).mono ?_
  rintro e w1 ⟨rfl, hb⟩
  have HB1 := Lib.hid hb
  clear hb
  go_wp2_with fail
  refine (Date_any _ _ _ _ _ H1 _ (Lib.hid (hB.out.on HB1.out))).mono ?_
  rintro e w2 ⟨rfl, hb⟩
  have HB2 : Hid (Below w.heap.size w w2) := HB1.out.trans (hb.mono HB1.out.size)
  clear hb
  go_wp2_with fail
  refine (Day_any _ _ _ _ _ H2 _ (Lib.hid (hB.out.on HB2.out))).mono ?_
  rintro e w3 ⟨rfl, hb⟩
  have HB3 : Hid (Below w.heap.size w w3) := HB2.out.trans (hb.mono HB2.out.size)
  clear hb
  go_wp2_with fail
  refine (Day_any _ _ _ _ _ H3 _ (Lib.hid (hB.out.on HB3.out))).mono ?_
  rintro e w4 ⟨rfl, hb⟩
  have HB4 : Hid (Below w.heap.size w w4) := HB3.out.trans (hb.mono HB3.out.size)
  clear hb
  go_wp2_with fail
  refine (Date_any _ _ _ _ _ H4 _ (Lib.hid (hB.out.on HB4.out))).mono ?_
  rintro e w5 ⟨rfl, hb⟩
  have HB5 : Hid (Below w.heap.size w w5) := HB4.out.trans (hb.mono HB4.out.size)
  clear hb
  go_wp2_with fail
  refine (Date_any _ _ _ _ _ H5 _ (Lib.hid (hB.out.on HB5.out))).mono ?_
  rintro e w6 ⟨rfl, hb⟩
  have HB6 : Hid (Below w.heap.size w w6) := HB5.out.trans (hb.mono HB5.out.size)
  clear hb
  go_wp2_with fail
  go_ret
  exact ⟨by first | rfl | simp, HB6.out⟩
set_option maxHeartbeats 4000000 in
theorem back_day_no_lt2 (a b year month dom k : Int) (y mo dm : Int) (ha0 : 0 ≤ a) (ha1 : a ≤ 100000) (u v d h : Int) (v2 d2 : Int) (hab : a < b) (hlt : mo < v2) (H1 : Hid (DateQ a y mo dm 0)) (H2 : Hid (DayQ y mo dm a 0)) (H3 : Hid (DayQ year month dom k 3)) (H4 : Hid (DateQ k u v d h)) (H5 : Hid (DateQ b y v2 d2 0)) (w : World) (hB : Hid (BefT w)) :
    Calls Tryd.prog 4 #[.int .i64 a, .int .i64 b, .int .i64 year, .int .i64 month, .int .i64 dom] w (YesB w) := by
  have nf9 : decide (b ≤ a) = false := decide_eq_false (by omega)
  go_enter Tryd.func4, Tryd.ntmps4
  go_wp2_with fail
  refine (sane_any w hB).mono ?_
  rintro e w1 ⟨rfl, hb⟩
  have HB1 := Lib.hid hb
  clear hb
  go_wp2_with fail
  refine (Date_any _ _ _ _ _ H1 _ (Lib.hid (hB.out.on HB1.out))).mono ?_
  rintro e w2 ⟨rfl, hb⟩
  have HB2 : Hid (Below w.heap.size w w2) := HB1.out.trans (hb.mono HB1.out.size)
  clear hb
  go_wp2_with fail
  refine (Day_any _ _ _ _ _ H2 _ (Lib.hid (hB.out.on HB2.out))).mono ?_
  rintro e w3 ⟨rfl, hb⟩
  have HB3 : Hid (Below w.heap.size w w3) := HB2.out.trans (hb.mono HB2.out.size)
  clear hb
  go_wp2_with fail
  refine (Day_any _ _ _ _ _ H3 _ (Lib.hid (hB.out.on HB3.out))).mono ?_
  rintro e w4 ⟨rfl, hb⟩
  have HB4 : Hid (Below w.heap.size w w4) := HB3.out.trans (hb.mono HB3.out.size)
  clear hb
  go_wp2_with fail
  refine (Date_any _ _ _ _ _ H4 _ (Lib.hid (hB.out.on HB4.out))).mono ?_
  rintro e w5 ⟨rfl, hb⟩
  have HB5 : Hid (Below w.heap.size w w5) := HB4.out.trans (hb.mono HB4.out.size)
  clear hb
  go_wp2_with fail
  refine (Date_any _ _ _ _ _ H5 _ (Lib.hid (hB.out.on HB5.out))).mono ?_
  rintro e w6 ⟨rfl, hb⟩
  have HB6 : Hid (Below w.heap.size w w6) := HB5.out.trans (hb.mono HB5.out.size)
  clear hb
  go_wp2_with fail
  go_ret
  exact ⟨by first | rfl | simp, HB6.out⟩
set_option maxHeartbeats 4000000 in
theorem back_day_no_lt3 (a b year month dom k : Int) (y mo dm : Int) (ha0 : 0 ≤ a) (ha1 : a ≤ 100000) (u v d h : Int) (d2 : Int) (hab : a < b) (hlt : dm < d2) (H1 : Hid (DateQ a y mo dm 0)) (H2 : Hid (DayQ y mo dm a 0)) (H3 : Hid (DayQ year month dom k 3)) (H4 : Hid (DateQ k u v d h)) (H5 : Hid (DateQ b y mo d2 0)) (w : World) (hB : Hid (BefT w)) :
    Calls Tryd.prog 4 #[.int .i64 a, .int .i64 b, .int .i64 year, .int .i64 month, .int .i64 dom] w (YesB w) := by
  have nf10 : decide (b ≤ a) = false := decide_eq_false (by omega)
  go_enter Tryd.func4, Tryd.ntmps4
  go_wp2_with fail
  refine (sane_any w hB).mono ?_
  rintro e w1 ⟨rfl, hb⟩
  have HB1 := Lib.hid hb
  clear hb
  go_wp2_with fail
  refine (Date_any _ _ _ _ _ H1 _ (Lib.hid (hB.out.on HB1.out))).mono ?_
  rintro e w2 ⟨rfl, hb⟩
  have HB2 : Hid (Below w.heap.size w w2) := HB1.out.trans (hb.mono HB1.out.size)
  clear hb
  go_wp2_with fail
  refine (Day_any _ _ _ _ _ H2 _ (Lib.hid (hB.out.on HB2.out))).mono ?_
  rintro e w3 ⟨rfl, hb⟩
  have HB3 : Hid (Below w.heap.size w w3) := HB2.out.trans (hb.mono HB2.out.size)
  clear hb
  go_wp2_with fail
  refine (Day_any _ _ _ _ _ H3 _ (Lib.hid (hB.out.on HB3.out))).mono ?_
  rintro e w4 ⟨rfl, hb⟩
  have HB4 : Hid (Below w.heap.size w w4) := HB3.out.trans (hb.mono HB3.out.size)
  clear hb
  go_wp2_with fail
  refine (Date_any _ _ _ _ _ H4 _ (Lib.hid (hB.out.on HB4.out))).mono ?_
  rintro e w5 ⟨rfl, hb⟩
  have HB5 : Hid (Below w.heap.size w w5) := HB4.out.trans (hb.mono HB4.out.size)
  clear hb
  go_wp2_with fail
  refine (Date_any _ _ _ _ _ H5 _ (Lib.hid (hB.out.on HB5.out))).mono ?_
  rintro e w6 ⟨rfl, hb⟩
  have HB6 : Hid (Below w.heap.size w w6) := HB5.out.trans (hb.mono HB5.out.size)
  clear hb
  go_wp2_with fail
  go_ret
  exact ⟨by first | rfl | simp, HB6.out⟩
theorem date_lt {d d' m m' : Nat} {y mo dm y' mo' dm' : Int} (h : DateP d m y mo dm) (h' : DateP d' m' y' mo' dm') (hlt : d < d') : y < y' ∨ (y = y' ∧ (mo < mo' ∨ (mo = mo' ∧ dm < dm'))) := by
  have hm := mon_mono h.mon h'.mon (by omega)
  have a := h.bd
  have b := h'.bd
  by_cases e : m = m'
  · subst e
    have e1 := h.ey
    have e2 := h'.ey
    have e3 := h.emo
    have e4 := h'.emo
    omega
  · omega
theorem dateQ_day {k y mo dm : Int} {d m : Nat} (h : DateP d m y mo dm) (hk : k = (d : Int)) : DateQ k y mo dm 0 := .inl ⟨d, m, hk, h, rfl⟩
theorem no_000 : ¬ IsDate 0 0 0 := by
  rintro ⟨d, m, h⟩
  have := h.bd
  omega
theorem back_walk (a b year month dom : Int) (w : World) (hB : Hid (BefT w)) :
    Calls Tryd.prog 4 #[.int .i64 a, .int .i64 b, .int .i64 year, .int .i64 month, .int .i64 dom] w (YesB w) := by
  obtain ⟨k, g, HK⟩ := dayQ_ex year month dom
  obtain ⟨u2, v2, d2, h2, HB⟩ := dateQ_ex b
  have hz : ∃ u v d h, DateQ 0 u v d h := dateQ_ex 0
  obtain ⟨u, v, d, h, HZ⟩ := hz
  have HN : DayQ 0 0 0 0 3 := .inr ⟨no_000, rfl, rfl⟩
  rcases day_or a with ha | ⟨da, rfl, hda⟩
  · have HA : DateQ a 0 0 0 3 := .inr ⟨ha, rfl, rfl, rfl, rfl⟩
    rcases HK with ⟨dk, mk, hk, rfl, rfl⟩ | ⟨hk, rfl, rfl⟩
    · have HU := dateQ_day (k := (dk : Int)) hk rfl
      have HK : DayQ year month dom (dk : Int) 0 := .inl ⟨dk, mk, hk, rfl, rfl⟩
      rcases ha with ha | ha
      · exact back_low_yes _ _ _ _ _ _ ha _ _ _ _ (Lib.hid HA) (Lib.hid HN) (Lib.hid HK) (Lib.hid HU) (Lib.hid HB) w hB
      · exact back_high_yes _ _ _ _ _ _ ha _ _ _ _ (Lib.hid HA) (Lib.hid HN) (Lib.hid HK) (Lib.hid HU) (Lib.hid HB) w hB
    · have HK : DayQ year month dom 0 3 := .inr ⟨hk, rfl, rfl⟩
      rcases ha with ha | ha
      · exact back_low_no _ _ _ _ _ _ ha _ _ _ _ _ _ _ _ (Lib.hid HA) (Lib.hid HN) (Lib.hid HK) (Lib.hid HZ) (Lib.hid HB) w hB
      · exact back_high_no _ _ _ _ _ _ ha _ _ _ _ _ _ _ _ (Lib.hid HA) (Lib.hid HN) (Lib.hid HK) (Lib.hid HZ) (Lib.hid HB) w hB
  · obtain ⟨m, y, mo, dm, hP⟩ := date_ex hda
    have HA : DateQ (da : Int) y mo dm 0 := .inl ⟨da, m, rfl, hP, rfl⟩
    have HD : DayQ y mo dm (da : Int) 0 := .inl ⟨da, m, hP, rfl, rfl⟩
    have ha0 : 0 ≤ (da : Int) := by omega
    have ha1 : (da : Int) ≤ 100000 := by omega
    rcases HK with ⟨dk, mk, hk, rfl, rfl⟩ | ⟨hk, rfl, rfl⟩
    · have HU := dateQ_day (k := (dk : Int)) hk rfl
      have HK : DayQ year month dom (dk : Int) 0 := .inl ⟨dk, mk, hk, rfl, rfl⟩
      rcases HB with ⟨db, mb, rfl, hb, rfl⟩ | ⟨hb, rfl, rfl, rfl, rfl⟩
      · have HB : DateQ (db : Int) u2 v2 d2 0 := .inl ⟨db, mb, rfl, hb, rfl⟩
        by_cases hab : (db : Int) ≤ (da : Int)
        · exact back_day_yes_ge _ _ _ _ _ _ _ _ _ ha0 ha1 _ _ _ hab (Lib.hid HA) (Lib.hid HD) (Lib.hid HK) (Lib.hid HU) (Lib.hid HB) w hB
        · have hab : (da : Int) < (db : Int) := by omega
          rcases date_lt hP hb (by omega) with h1 | ⟨rfl, h1 | ⟨rfl, h1⟩⟩
          · exact back_day_yes_lt1 _ _ _ _ _ _ _ _ _ ha0 ha1 _ _ _ hab h1 (Lib.hid HA) (Lib.hid HD) (Lib.hid HK) (Lib.hid HU) (Lib.hid HB) w hB
          · exact back_day_yes_lt2 _ _ _ _ _ _ _ _ _ ha0 ha1 _ _ hab h1 (Lib.hid HA) (Lib.hid HD) (Lib.hid HK) (Lib.hid HU) (Lib.hid HB) w hB
          · exact back_day_yes_lt3 _ _ _ _ _ _ _ _ _ ha0 ha1 _ hab h1 (Lib.hid HA) (Lib.hid HD) (Lib.hid HK) (Lib.hid HU) (Lib.hid HB) w hB
      · exact back_day_yes_no _ _ _ _ _ _ _ _ _ ha0 ha1 _ _ _ (Lib.hid HA) (Lib.hid HD) (Lib.hid HK) (Lib.hid HU) (Lib.hid (.inr ⟨hb, rfl, rfl, rfl, rfl⟩)) w hB
    · have HK : DayQ year month dom 0 3 := .inr ⟨hk, rfl, rfl⟩
      rcases HB with ⟨db, mb, rfl, hb, rfl⟩ | ⟨hb, rfl, rfl, rfl, rfl⟩
      · have HB : DateQ (db : Int) u2 v2 d2 0 := .inl ⟨db, mb, rfl, hb, rfl⟩
        by_cases hab : (db : Int) ≤ (da : Int)
        · exact back_day_no_ge _ _ _ _ _ _ _ _ _ ha0 ha1 _ _ _ _ _ _ _ hab (Lib.hid HA) (Lib.hid HD) (Lib.hid HK) (Lib.hid HZ) (Lib.hid HB) w hB
        · have hab : (da : Int) < (db : Int) := by omega
          rcases date_lt hP hb (by omega) with h1 | ⟨rfl, h1 | ⟨rfl, h1⟩⟩
          · exact back_day_no_lt1 _ _ _ _ _ _ _ _ _ ha0 ha1 _ _ _ _ _ _ _ hab h1 (Lib.hid HA) (Lib.hid HD) (Lib.hid HK) (Lib.hid HZ) (Lib.hid HB) w hB
          · exact back_day_no_lt2 _ _ _ _ _ _ _ _ _ ha0 ha1 _ _ _ _ _ _ hab h1 (Lib.hid HA) (Lib.hid HD) (Lib.hid HK) (Lib.hid HZ) (Lib.hid HB) w hB
          · exact back_day_no_lt3 _ _ _ _ _ _ _ _ _ ha0 ha1 _ _ _ _ _ hab h1 (Lib.hid HA) (Lib.hid HD) (Lib.hid HK) (Lib.hid HZ) (Lib.hid HB) w hB
      · exact back_day_no_no _ _ _ _ _ _ _ _ _ ha0 ha1 _ _ _ _ _ _ _ (Lib.hid HA) (Lib.hid HD) (Lib.hid HK) (Lib.hid HZ) (Lib.hid (.inr ⟨hb, rfl, rfl, rfl, rfl⟩)) w hB
end Go.Proofs.YtmaapbifkimdcaaDoor
