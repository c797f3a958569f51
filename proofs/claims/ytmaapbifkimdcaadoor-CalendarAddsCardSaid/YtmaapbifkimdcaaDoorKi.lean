/- CalendarAdds' walk. Conditions: the array 'before' is there as its text lays it. -/
import Derived.Test.YtmaapbifkimdcaaDoorKh
namespace Go.Proofs.YtmaapbifkimdcaaDoor
set_option maxRecDepth 20000
open Go.RowKit

set_option maxHeartbeats 4000000 in
theorem adds_out0 (a b m n : Int)  (hc : m < -5000) (w : World) (hB : Hid (BefT w)) :
    Calls Tryd.prog 7 #[.int .i64 a, .int .i64 b, .int .i64 m, .int .i64 n] w (YesB w) := by
  go_enter Tryd.func7, Tryd.ntmps7
  go_wp2_with fail
  refine (sane_any w hB).mono ?_
  rintro e w1 ⟨rfl, hb⟩
  have HB1 := Lib.hid hb
  clear hb
  go_wp2_with fail
  go_ret
  exact ⟨rfl, HB1.out⟩
set_option maxHeartbeats 4000000 in
theorem adds_out1 (a b m n : Int) (_m0 : -5000 ≤ m) (hc : 5000 < m) (w : World) (hB : Hid (BefT w)) :
    Calls Tryd.prog 7 #[.int .i64 a, .int .i64 b, .int .i64 m, .int .i64 n] w (YesB w) := by
  have nf66 : decide (m < -5000) = false := decide_eq_false (by omega)
  go_enter Tryd.func7, Tryd.ntmps7
  go_wp2_with fail
  refine (sane_any w hB).mono ?_
  rintro e w1 ⟨rfl, hb⟩
  have HB1 := Lib.hid hb
  clear hb
  go_wp2_with fail
  go_ret
  exact ⟨rfl, HB1.out⟩
set_option maxHeartbeats 4000000 in
theorem adds_out2 (a b m n : Int) (_m0 : -5000 ≤ m) (m1 : m ≤ 5000) (hc : n < -5000) (w : World) (hB : Hid (BefT w)) :
    Calls Tryd.prog 7 #[.int .i64 a, .int .i64 b, .int .i64 m, .int .i64 n] w (YesB w) := by
  have nf70 : decide (m < -5000) = false := decide_eq_false (by omega)
  have nf71 : decide (5000 < m) = false := decide_eq_false (by omega)
  go_enter Tryd.func7, Tryd.ntmps7
  go_wp2_with fail
  refine (sane_any w hB).mono ?_
  rintro e w1 ⟨rfl, hb⟩
  have HB1 := Lib.hid hb
  clear hb
  go_wp2_with fail
  go_ret
  exact ⟨rfl, HB1.out⟩
set_option maxHeartbeats 4000000 in
theorem adds_out3 (a b m n : Int) (_m0 : -5000 ≤ m) (m1 : m ≤ 5000) (_n0 : -5000 ≤ n) (hc : 5000 < n) (w : World) (hB : Hid (BefT w)) :
    Calls Tryd.prog 7 #[.int .i64 a, .int .i64 b, .int .i64 m, .int .i64 n] w (YesB w) := by
  have nf74 : decide (m < -5000) = false := decide_eq_false (by omega)
  have nf75 : decide (5000 < m) = false := decide_eq_false (by omega)
  have nf76 : decide (n < -5000) = false := decide_eq_false (by omega)
  go_enter Tryd.func7, Tryd.ntmps7
  go_wp2_with fail
  refine (sane_any w hB).mono ?_
  rintro e w1 ⟨rfl, hb⟩
  have HB1 := Lib.hid hb
  clear hb
  go_wp2_with fail
  go_ret
  exact ⟨rfl, HB1.out⟩
set_option maxHeartbeats 4000000 in
theorem adds_noday (a b m n : Int) (_m0 : -5000 ≤ m) (m1 : m ≤ 5000) (_n0 : -5000 ≤ n) (n1 : n ≤ 5000) (H1 : Hid (DateQ a 0 0 0 3)) (H2 : Hid (AddQ a m 0 3)) (w : World) (hB : Hid (BefT w)) :
    Calls Tryd.prog 7 #[.int .i64 a, .int .i64 b, .int .i64 m, .int .i64 n] w (YesB w) := by
  have nf78 : decide (m < -5000) = false := decide_eq_false (by omega)
  have nf79 : decide (5000 < m) = false := decide_eq_false (by omega)
  have nf80 : decide (n < -5000) = false := decide_eq_false (by omega)
  have nf81 : decide (5000 < n) = false := decide_eq_false (by omega)
  go_enter Tryd.func7, Tryd.ntmps7
  go_wp2_with fail
  refine (sane_any w hB).mono ?_
  rintro e w1 ⟨rfl, hb⟩
  have HB1 := Lib.hid hb
  clear hb
  go_wp2_with fail
  refine (Date_any _ _ _ _ _ H1 _ (Lib.hid (hB.out.on HB1.out))).mono ?_
  rintro e w2 ⟨rfl, hb⟩
  have HB2 : Hid (Below w.heap.size w w2) := HB1.out.trans (hb.mono HB1.out.size)
  clear hb
  go_wp2_with fail
  refine (Add_any _ _ _ _ H2 _ (Lib.hid (hB.out.on HB2.out))).mono ?_
  rintro e w3 ⟨rfl, hb⟩
  have HB3 : Hid (Below w.heap.size w w3) := HB2.out.trans (hb.mono HB2.out.size)
  clear hb
  go_wp2_with fail
  go_ret
  exact ⟨by first | rfl | simp, HB3.out⟩
set_option maxHeartbeats 4000000 in
theorem adds_noadd (a b m n y mo dm : Int) (_m0 : -5000 ≤ m) (m1 : m ≤ 5000) (_n0 : -5000 ≤ n) (n1 : n ≤ 5000) (H1 : Hid (DateQ a y mo dm 0)) (H2 : Hid (AddQ a m 0 3)) (w : World) (hB : Hid (BefT w)) :
    Calls Tryd.prog 7 #[.int .i64 a, .int .i64 b, .int .i64 m, .int .i64 n] w (YesB w) := by
  have nf82 : decide (m < -5000) = false := decide_eq_false (by omega)
  have nf83 : decide (5000 < m) = false := decide_eq_false (by omega)
  have nf84 : decide (n < -5000) = false := decide_eq_false (by omega)
  have nf85 : decide (5000 < n) = false := decide_eq_false (by omega)
  go_enter Tryd.func7, Tryd.ntmps7
  go_wp2_with fail
  refine (sane_any w hB).mono ?_
  rintro e w1 ⟨rfl, hb⟩
  have HB1 := Lib.hid hb
  clear hb
  go_wp2_with fail
  refine (Date_any _ _ _ _ _ H1 _ (Lib.hid (hB.out.on HB1.out))).mono ?_
  rintro e w2 ⟨rfl, hb⟩
  have HB2 : Hid (Below w.heap.size w w2) := HB1.out.trans (hb.mono HB1.out.size)
  clear hb
  go_wp2_with fail
  refine (Add_any _ _ _ _ H2 _ (Lib.hid (hB.out.on HB2.out))).mono ?_
  rintro e w3 ⟨rfl, hb⟩
  have HB3 : Hid (Below w.heap.size w w3) := HB2.out.trans (hb.mono HB2.out.size)
  clear hb
  go_wp2_with fail
  go_ret
  exact ⟨by first | rfl | simp, HB3.out⟩
set_option maxHeartbeats 4000000 in
theorem adds_eq_ok_no (a b m n y mo dm x u v s : Int) (_m0 : -5000 ≤ m) (m1 : m ≤ 5000) (_n0 : -5000 ≤ n) (n1 : n ≤ 5000) (l : Int) (hy0 : 2000 ≤ y) (hy1 : y ≤ 2273) (hmo0 : 1 ≤ mo) (hmo1 : mo ≤ 12) (_hd0 : 1 ≤ dm) (_hd1 : dm ≤ 31) (hu0 : 2000 ≤ u) (hu1 : u ≤ 2273) (hv0 : 1 ≤ v) (hv1 : v ≤ 12) (hq2 : (u * 12 + v != y * 12 + mo + m) = false) (t : Int) (h28 : dm ≤ 28) (z : Int) (H1 : Hid (DateQ a y mo dm 0)) (H2 : Hid (AddQ a m x 0)) (H3 : Hid (DateQ x u v dm 0)) (H4 : Hid (MonQ x s l 0)) (H5 : Hid (AddQ x n t 0)) (H6 : Hid (AddQ a (m + n) t 0)) (H7 : Hid (AddQ b m z 3)) (w : World) (hB : Hid (BefT w)) :
    Calls Tryd.prog 7 #[.int .i64 a, .int .i64 b, .int .i64 m, .int .i64 n] w (YesB w) := by
  have nf86 : decide (m < -5000) = false := decide_eq_false (by omega)
  have nf87 : decide (5000 < m) = false := decide_eq_false (by omega)
  have nf88 : decide (n < -5000) = false := decide_eq_false (by omega)
  have nf89 : decide (5000 < n) = false := decide_eq_false (by omega)
  go_enter Tryd.func7, Tryd.ntmps7
  go_wp2_with fail
  refine (sane_any w hB).mono ?_
  rintro e w1 ⟨rfl, hb⟩
  have HB1 := Lib.hid hb
  clear hb
  go_wp2_with fail
  refine (Date_any _ _ _ _ _ H1 _ (Lib.hid (hB.out.on HB1.out))).mono ?_
  rintro e w2 ⟨rfl, hb⟩
  have HB2 : Hid (Below w.heap.size w w2) := HB1.out.trans (hb.mono HB1.out.size)
  clear hb
  go_wp2_with fail
  refine (Add_any _ _ _ _ H2 _ (Lib.hid (hB.out.on HB2.out))).mono ?_
  rintro e w3 ⟨rfl, hb⟩
  have HB3 : Hid (Below w.heap.size w w3) := HB2.out.trans (hb.mono HB2.out.size)
  clear hb
  go_wp2_with fail
  refine (Date_any _ _ _ _ _ H3 _ (Lib.hid (hB.out.on HB3.out))).mono ?_
  rintro e w4 ⟨rfl, hb⟩
  have HB4 : Hid (Below w.heap.size w w4) := HB3.out.trans (hb.mono HB3.out.size)
  clear hb
  go_wp2_with fail
  refine (Month_any _ _ _ _ H4 _ (Lib.hid (hB.out.on HB4.out))).mono ?_
  rintro e w5 ⟨rfl, hb⟩
  have HB5 : Hid (Below w.heap.size w w5) := HB4.out.trans (hb.mono HB4.out.size)
  clear hb
  go_wp2_with fail
  refine (Add_any _ _ _ _ H5 _ (Lib.hid (hB.out.on HB5.out))).mono ?_
  rintro e w6 ⟨rfl, hb⟩
  have HB6 : Hid (Below w.heap.size w w6) := HB5.out.trans (hb.mono HB5.out.size)
  clear hb
  go_wp2_with fail
  refine (Add_any _ _ _ _ H6 _ (Lib.hid (hB.out.on HB6.out))).mono ?_
  rintro e w7 ⟨rfl, hb⟩
  have HB7 : Hid (Below w.heap.size w w7) := HB6.out.trans (hb.mono HB6.out.size)
  clear hb
  go_wp2_with fail
  refine (Add_any _ _ _ _ H7 _ (Lib.hid (hB.out.on HB7.out))).mono ?_
  rintro e w8 ⟨rfl, hb⟩
  have HB8 : Hid (Below w.heap.size w w8) := HB7.out.trans (hb.mono HB7.out.size)
  clear hb
  go_wp2_with fail
  go_ret
  exact ⟨by first | rfl | simp, HB8.out⟩
set_option maxHeartbeats 4000000 in
theorem adds_eq_no_no (a b m n y mo dm x u v s : Int) (_m0 : -5000 ≤ m) (m1 : m ≤ 5000) (_n0 : -5000 ≤ n) (n1 : n ≤ 5000) (l : Int) (hy0 : 2000 ≤ y) (hy1 : y ≤ 2273) (hmo0 : 1 ≤ mo) (hmo1 : mo ≤ 12) (_hd0 : 1 ≤ dm) (_hd1 : dm ≤ 31) (hu0 : 2000 ≤ u) (hu1 : u ≤ 2273) (hv0 : 1 ≤ v) (hv1 : v ≤ 12) (hq2 : (u * 12 + v != y * 12 + mo + m) = false) (t o j : Int) (h28 : dm ≤ 28) (z : Int) (H1 : Hid (DateQ a y mo dm 0)) (H2 : Hid (AddQ a m x 0)) (H3 : Hid (DateQ x u v dm 0)) (H4 : Hid (MonQ x s l 0)) (H5 : Hid (AddQ x n t 3)) (H6 : Hid (AddQ a (m + n) o j)) (H7 : Hid (AddQ b m z 3)) (w : World) (hB : Hid (BefT w)) :
    Calls Tryd.prog 7 #[.int .i64 a, .int .i64 b, .int .i64 m, .int .i64 n] w (YesB w) := by
  have nf90 : decide (m < -5000) = false := decide_eq_false (by omega)
  have nf91 : decide (5000 < m) = false := decide_eq_false (by omega)
  have nf92 : decide (n < -5000) = false := decide_eq_false (by omega)
  have nf93 : decide (5000 < n) = false := decide_eq_false (by omega)
  go_enter Tryd.func7, Tryd.ntmps7
  go_wp2_with fail
  refine (sane_any w hB).mono ?_
  rintro e w1 ⟨rfl, hb⟩
  have HB1 := Lib.hid hb
  clear hb
  go_wp2_with fail
  refine (Date_any _ _ _ _ _ H1 _ (Lib.hid (hB.out.on HB1.out))).mono ?_
  rintro e w2 ⟨rfl, hb⟩
  have HB2 : Hid (Below w.heap.size w w2) := HB1.out.trans (hb.mono HB1.out.size)
  clear hb
  go_wp2_with fail
  refine (Add_any _ _ _ _ H2 _ (Lib.hid (hB.out.on HB2.out))).mono ?_
  rintro e w3 ⟨rfl, hb⟩
  have HB3 : Hid (Below w.heap.size w w3) := HB2.out.trans (hb.mono HB2.out.size)
  clear hb
  go_wp2_with fail
  refine (Date_any _ _ _ _ _ H3 _ (Lib.hid (hB.out.on HB3.out))).mono ?_
  rintro e w4 ⟨rfl, hb⟩
  have HB4 : Hid (Below w.heap.size w w4) := HB3.out.trans (hb.mono HB3.out.size)
  clear hb
  go_wp2_with fail
  refine (Month_any _ _ _ _ H4 _ (Lib.hid (hB.out.on HB4.out))).mono ?_
  rintro e w5 ⟨rfl, hb⟩
  have HB5 : Hid (Below w.heap.size w w5) := HB4.out.trans (hb.mono HB4.out.size)
  clear hb
  go_wp2_with fail
  refine (Add_any _ _ _ _ H5 _ (Lib.hid (hB.out.on HB5.out))).mono ?_
  rintro e w6 ⟨rfl, hb⟩
  have HB6 : Hid (Below w.heap.size w w6) := HB5.out.trans (hb.mono HB5.out.size)
  clear hb
  go_wp2_with fail
  refine (Add_any _ _ _ _ H6 _ (Lib.hid (hB.out.on HB6.out))).mono ?_
  rintro e w7 ⟨rfl, hb⟩
  have HB7 : Hid (Below w.heap.size w w7) := HB6.out.trans (hb.mono HB6.out.size)
  clear hb
  go_wp2_with fail
  refine (Add_any _ _ _ _ H7 _ (Lib.hid (hB.out.on HB7.out))).mono ?_
  rintro e w8 ⟨rfl, hb⟩
  have HB8 : Hid (Below w.heap.size w w8) := HB7.out.trans (hb.mono HB7.out.size)
  clear hb
  go_wp2_with fail
  go_ret
  exact ⟨by first | rfl | simp, HB8.out⟩
set_option maxHeartbeats 4000000 in
theorem adds_eq_big_no (a b m n y mo dm x u v s : Int) (_m0 : -5000 ≤ m) (m1 : m ≤ 5000) (_n0 : -5000 ≤ n) (n1 : n ≤ 5000) (l : Int) (hy0 : 2000 ≤ y) (hy1 : y ≤ 2273) (hmo0 : 1 ≤ mo) (hmo1 : mo ≤ 12) (_hd0 : 1 ≤ dm) (_hd1 : dm ≤ 31) (hu0 : 2000 ≤ u) (hu1 : u ≤ 2273) (hv0 : 1 ≤ v) (hv1 : v ≤ 12) (hq2 : (u * 12 + v != y * 12 + mo + m) = false) (t i o j : Int) (h28 : 28 < dm) (z : Int) (H1 : Hid (DateQ a y mo dm 0)) (H2 : Hid (AddQ a m x 0)) (H3 : Hid (DateQ x u v dm 0)) (H4 : Hid (MonQ x s l 0)) (H5 : Hid (AddQ x n t i)) (H6 : Hid (AddQ a (m + n) o j)) (H7 : Hid (AddQ b m z 3)) (w : World) (hB : Hid (BefT w)) :
    Calls Tryd.prog 7 #[.int .i64 a, .int .i64 b, .int .i64 m, .int .i64 n] w (YesB w) := by
  have nf94 : decide (m < -5000) = false := decide_eq_false (by omega)
  have nf95 : decide (5000 < m) = false := decide_eq_false (by omega)
  have nf96 : decide (n < -5000) = false := decide_eq_false (by omega)
  have nf97 : decide (5000 < n) = false := decide_eq_false (by omega)
  have nf98 : decide (dm ≤ 28) = false := decide_eq_false (by omega)
  go_enter Tryd.func7, Tryd.ntmps7
  go_wp2_with fail
  refine (sane_any w hB).mono ?_
  rintro e w1 ⟨rfl, hb⟩
  have HB1 := Lib.hid hb
  clear hb
  go_wp2_with fail
  refine (Date_any _ _ _ _ _ H1 _ (Lib.hid (hB.out.on HB1.out))).mono ?_
  rintro e w2 ⟨rfl, hb⟩
  have HB2 : Hid (Below w.heap.size w w2) := HB1.out.trans (hb.mono HB1.out.size)
  clear hb
  go_wp2_with fail
  refine (Add_any _ _ _ _ H2 _ (Lib.hid (hB.out.on HB2.out))).mono ?_
  rintro e w3 ⟨rfl, hb⟩
  have HB3 : Hid (Below w.heap.size w w3) := HB2.out.trans (hb.mono HB2.out.size)
  clear hb
  go_wp2_with fail
  refine (Date_any _ _ _ _ _ H3 _ (Lib.hid (hB.out.on HB3.out))).mono ?_
  rintro e w4 ⟨rfl, hb⟩
  have HB4 : Hid (Below w.heap.size w w4) := HB3.out.trans (hb.mono HB3.out.size)
  clear hb
  go_wp2_with fail
  refine (Month_any _ _ _ _ H4 _ (Lib.hid (hB.out.on HB4.out))).mono ?_
  rintro e w5 ⟨rfl, hb⟩
  have HB5 : Hid (Below w.heap.size w w5) := HB4.out.trans (hb.mono HB4.out.size)
  clear hb
  go_wp2_with fail
  refine (Add_any _ _ _ _ H5 _ (Lib.hid (hB.out.on HB5.out))).mono ?_
  rintro e w6 ⟨rfl, hb⟩
  have HB6 : Hid (Below w.heap.size w w6) := HB5.out.trans (hb.mono HB5.out.size)
  clear hb
  go_wp2_with fail
  refine (Add_any _ _ _ _ H6 _ (Lib.hid (hB.out.on HB6.out))).mono ?_
  rintro e w7 ⟨rfl, hb⟩
  have HB7 : Hid (Below w.heap.size w w7) := HB6.out.trans (hb.mono HB6.out.size)
  clear hb
  go_wp2_with fail
  refine (Add_any _ _ _ _ H7 _ (Lib.hid (hB.out.on HB7.out))).mono ?_
  rintro e w8 ⟨rfl, hb⟩
  have HB8 : Hid (Below w.heap.size w w8) := HB7.out.trans (hb.mono HB7.out.size)
  clear hb
  go_wp2_with fail
  go_ret
  exact ⟨by first | rfl | simp, HB8.out⟩
set_option maxHeartbeats 4000000 in
theorem adds_cut_big_no (a b m n y mo dm x u v s : Int) (_m0 : -5000 ≤ m) (m1 : m ≤ 5000) (_n0 : -5000 ≤ n) (n1 : n ≤ 5000) (wd : Int) (hw : wd < dm) (hy0 : 2000 ≤ y) (hy1 : y ≤ 2273) (hmo0 : 1 ≤ mo) (hmo1 : mo ≤ 12) (_hd0 : 1 ≤ dm) (_hd1 : dm ≤ 31) (hu0 : 2000 ≤ u) (hu1 : u ≤ 2273) (hv0 : 1 ≤ v) (hv1 : v ≤ 12) (hq2 : (u * 12 + v != y * 12 + mo + m) = false) (t i o j : Int) (h28 : 28 < dm) (z : Int) (H1 : Hid (DateQ a y mo dm 0)) (H2 : Hid (AddQ a m x 0)) (H3 : Hid (DateQ x u v wd 0)) (H4 : Hid (MonQ x s x 0)) (H5 : Hid (AddQ x n t i)) (H6 : Hid (AddQ a (m + n) o j)) (H7 : Hid (AddQ b m z 3)) (w : World) (hB : Hid (BefT w)) :
    Calls Tryd.prog 7 #[.int .i64 a, .int .i64 b, .int .i64 m, .int .i64 n] w (YesB w) := by
  have nf99 : decide (m < -5000) = false := decide_eq_false (by omega)
  have nf100 : decide (5000 < m) = false := decide_eq_false (by omega)
  have nf101 : decide (n < -5000) = false := decide_eq_false (by omega)
  have nf102 : decide (5000 < n) = false := decide_eq_false (by omega)
  have nf103 : decide (dm < wd) = false := decide_eq_false (by omega)
  have nw1 : (wd == dm) = false := by simp; omega
  have nw2 : (wd != dm) = true := by simp; omega
  have nf104 : decide (dm ≤ 28) = false := decide_eq_false (by omega)
  go_enter Tryd.func7, Tryd.ntmps7
  go_wp2_with fail
  refine (sane_any w hB).mono ?_
  rintro e w1 ⟨rfl, hb⟩
  have HB1 := Lib.hid hb
  clear hb
  go_wp2_with fail
  refine (Date_any _ _ _ _ _ H1 _ (Lib.hid (hB.out.on HB1.out))).mono ?_
  rintro e w2 ⟨rfl, hb⟩
  have HB2 : Hid (Below w.heap.size w w2) := HB1.out.trans (hb.mono HB1.out.size)
  clear hb
  go_wp2_with fail
  refine (Add_any _ _ _ _ H2 _ (Lib.hid (hB.out.on HB2.out))).mono ?_
  rintro e w3 ⟨rfl, hb⟩
  have HB3 : Hid (Below w.heap.size w w3) := HB2.out.trans (hb.mono HB2.out.size)
  clear hb
  go_wp2_with fail
  refine (Date_any _ _ _ _ _ H3 _ (Lib.hid (hB.out.on HB3.out))).mono ?_
  rintro e w4 ⟨rfl, hb⟩
  have HB4 : Hid (Below w.heap.size w w4) := HB3.out.trans (hb.mono HB3.out.size)
  clear hb
  go_wp2_with fail
  refine (Month_any _ _ _ _ H4 _ (Lib.hid (hB.out.on HB4.out))).mono ?_
  rintro e w5 ⟨rfl, hb⟩
  have HB5 : Hid (Below w.heap.size w w5) := HB4.out.trans (hb.mono HB4.out.size)
  clear hb
  go_wp2_with fail
  refine (Add_any _ _ _ _ H5 _ (Lib.hid (hB.out.on HB5.out))).mono ?_
  rintro e w6 ⟨rfl, hb⟩
  have HB6 : Hid (Below w.heap.size w w6) := HB5.out.trans (hb.mono HB5.out.size)
  clear hb
  go_wp2_with fail
  refine (Add_any _ _ _ _ H6 _ (Lib.hid (hB.out.on HB6.out))).mono ?_
  rintro e w7 ⟨rfl, hb⟩
  have HB7 : Hid (Below w.heap.size w w7) := HB6.out.trans (hb.mono HB6.out.size)
  clear hb
  go_wp2_with fail
  refine (Add_any _ _ _ _ H7 _ (Lib.hid (hB.out.on HB7.out))).mono ?_
  rintro e w8 ⟨rfl, hb⟩
  have HB8 : Hid (Below w.heap.size w w8) := HB7.out.trans (hb.mono HB7.out.size)
  clear hb
  go_wp2_with fail
  go_ret
  exact ⟨by first | rfl | simp, HB8.out⟩
set_option maxHeartbeats 4000000 in
theorem adds_eq_ok_lt (a b m n y mo dm x u v s : Int) (_m0 : -5000 ≤ m) (m1 : m ≤ 5000) (_n0 : -5000 ≤ n) (n1 : n ≤ 5000) (l : Int) (hy0 : 2000 ≤ y) (hy1 : y ≤ 2273) (hmo0 : 1 ≤ mo) (hmo1 : mo ≤ 12) (_hd0 : 1 ≤ dm) (_hd1 : dm ≤ 31) (hu0 : 2000 ≤ u) (hu1 : u ≤ 2273) (hv0 : 1 ≤ v) (hv1 : v ≤ 12) (hq2 : (u * 12 + v != y * 12 + mo + m) = false) (t : Int) (h28 : dm ≤ 28) (z : Int) (hba : b < a) (H1 : Hid (DateQ a y mo dm 0)) (H2 : Hid (AddQ a m x 0)) (H3 : Hid (DateQ x u v dm 0)) (H4 : Hid (MonQ x s l 0)) (H5 : Hid (AddQ x n t 0)) (H6 : Hid (AddQ a (m + n) t 0)) (H7 : Hid (AddQ b m z 0)) (w : World) (hB : Hid (BefT w)) :
    Calls Tryd.prog 7 #[.int .i64 a, .int .i64 b, .int .i64 m, .int .i64 n] w (YesB w) := by
  have nf105 : decide (m < -5000) = false := decide_eq_false (by omega)
  have nf106 : decide (5000 < m) = false := decide_eq_false (by omega)
  have nf107 : decide (n < -5000) = false := decide_eq_false (by omega)
  have nf108 : decide (5000 < n) = false := decide_eq_false (by omega)
  go_enter Tryd.func7, Tryd.ntmps7
  go_wp2_with fail
  refine (sane_any w hB).mono ?_
  rintro e w1 ⟨rfl, hb⟩
  have HB1 := Lib.hid hb
  clear hb
  go_wp2_with fail
  refine (Date_any _ _ _ _ _ H1 _ (Lib.hid (hB.out.on HB1.out))).mono ?_
  rintro e w2 ⟨rfl, hb⟩
  have HB2 : Hid (Below w.heap.size w w2) := HB1.out.trans (hb.mono HB1.out.size)
  clear hb
  go_wp2_with fail
  refine (Add_any _ _ _ _ H2 _ (Lib.hid (hB.out.on HB2.out))).mono ?_
  rintro e w3 ⟨rfl, hb⟩
  have HB3 : Hid (Below w.heap.size w w3) := HB2.out.trans (hb.mono HB2.out.size)
  clear hb
  go_wp2_with fail
  refine (Date_any _ _ _ _ _ H3 _ (Lib.hid (hB.out.on HB3.out))).mono ?_
  rintro e w4 ⟨rfl, hb⟩
  have HB4 : Hid (Below w.heap.size w w4) := HB3.out.trans (hb.mono HB3.out.size)
  clear hb
  go_wp2_with fail
  refine (Month_any _ _ _ _ H4 _ (Lib.hid (hB.out.on HB4.out))).mono ?_
  rintro e w5 ⟨rfl, hb⟩
  have HB5 : Hid (Below w.heap.size w w5) := HB4.out.trans (hb.mono HB4.out.size)
  clear hb
  go_wp2_with fail
  refine (Add_any _ _ _ _ H5 _ (Lib.hid (hB.out.on HB5.out))).mono ?_
  rintro e w6 ⟨rfl, hb⟩
  have HB6 : Hid (Below w.heap.size w w6) := HB5.out.trans (hb.mono HB5.out.size)
  clear hb
  go_wp2_with fail
  refine (Add_any _ _ _ _ H6 _ (Lib.hid (hB.out.on HB6.out))).mono ?_
  rintro e w7 ⟨rfl, hb⟩
  have HB7 : Hid (Below w.heap.size w w7) := HB6.out.trans (hb.mono HB6.out.size)
  clear hb
  go_wp2_with fail
  refine (Add_any _ _ _ _ H7 _ (Lib.hid (hB.out.on HB7.out))).mono ?_
  rintro e w8 ⟨rfl, hb⟩
  have HB8 : Hid (Below w.heap.size w w8) := HB7.out.trans (hb.mono HB7.out.size)
  clear hb
  go_wp2_with fail
  go_ret
  exact ⟨by first | rfl | simp, HB8.out⟩
set_option maxHeartbeats 4000000 in
theorem adds_eq_no_lt (a b m n y mo dm x u v s : Int) (_m0 : -5000 ≤ m) (m1 : m ≤ 5000) (_n0 : -5000 ≤ n) (n1 : n ≤ 5000) (l : Int) (hy0 : 2000 ≤ y) (hy1 : y ≤ 2273) (hmo0 : 1 ≤ mo) (hmo1 : mo ≤ 12) (_hd0 : 1 ≤ dm) (_hd1 : dm ≤ 31) (hu0 : 2000 ≤ u) (hu1 : u ≤ 2273) (hv0 : 1 ≤ v) (hv1 : v ≤ 12) (hq2 : (u * 12 + v != y * 12 + mo + m) = false) (t o j : Int) (h28 : dm ≤ 28) (z : Int) (hba : b < a) (H1 : Hid (DateQ a y mo dm 0)) (H2 : Hid (AddQ a m x 0)) (H3 : Hid (DateQ x u v dm 0)) (H4 : Hid (MonQ x s l 0)) (H5 : Hid (AddQ x n t 3)) (H6 : Hid (AddQ a (m + n) o j)) (H7 : Hid (AddQ b m z 0)) (w : World) (hB : Hid (BefT w)) :
    Calls Tryd.prog 7 #[.int .i64 a, .int .i64 b, .int .i64 m, .int .i64 n] w (YesB w) := by
  have nf109 : decide (m < -5000) = false := decide_eq_false (by omega)
  have nf110 : decide (5000 < m) = false := decide_eq_false (by omega)
  have nf111 : decide (n < -5000) = false := decide_eq_false (by omega)
  have nf112 : decide (5000 < n) = false := decide_eq_false (by omega)
  go_enter Tryd.func7, Tryd.ntmps7
  go_wp2_with fail
  refine (sane_any w hB).mono ?_
  rintro e w1 ⟨rfl, hb⟩
  have HB1 := Lib.hid hb
  clear hb
  go_wp2_with fail
  refine (Date_any _ _ _ _ _ H1 _ (Lib.hid (hB.out.on HB1.out))).mono ?_
  rintro e w2 ⟨rfl, hb⟩
  have HB2 : Hid (Below w.heap.size w w2) := HB1.out.trans (hb.mono HB1.out.size)
  clear hb
  go_wp2_with fail
  refine (Add_any _ _ _ _ H2 _ (Lib.hid (hB.out.on HB2.out))).mono ?_
  rintro e w3 ⟨rfl, hb⟩
  have HB3 : Hid (Below w.heap.size w w3) := HB2.out.trans (hb.mono HB2.out.size)
  clear hb
  go_wp2_with fail
  refine (Date_any _ _ _ _ _ H3 _ (Lib.hid (hB.out.on HB3.out))).mono ?_
  rintro e w4 ⟨rfl, hb⟩
  have HB4 : Hid (Below w.heap.size w w4) := HB3.out.trans (hb.mono HB3.out.size)
  clear hb
  go_wp2_with fail
  refine (Month_any _ _ _ _ H4 _ (Lib.hid (hB.out.on HB4.out))).mono ?_
  rintro e w5 ⟨rfl, hb⟩
  have HB5 : Hid (Below w.heap.size w w5) := HB4.out.trans (hb.mono HB4.out.size)
  clear hb
  go_wp2_with fail
  refine (Add_any _ _ _ _ H5 _ (Lib.hid (hB.out.on HB5.out))).mono ?_
  rintro e w6 ⟨rfl, hb⟩
  have HB6 : Hid (Below w.heap.size w w6) := HB5.out.trans (hb.mono HB5.out.size)
  clear hb
  go_wp2_with fail
  refine (Add_any _ _ _ _ H6 _ (Lib.hid (hB.out.on HB6.out))).mono ?_
  rintro e w7 ⟨rfl, hb⟩
  have HB7 : Hid (Below w.heap.size w w7) := HB6.out.trans (hb.mono HB6.out.size)
  clear hb
  go_wp2_with fail
  refine (Add_any _ _ _ _ H7 _ (Lib.hid (hB.out.on HB7.out))).mono ?_
  rintro e w8 ⟨rfl, hb⟩
  have HB8 : Hid (Below w.heap.size w w8) := HB7.out.trans (hb.mono HB7.out.size)
  clear hb
  go_wp2_with fail
  go_ret
  exact ⟨by first | rfl | simp, HB8.out⟩
set_option maxHeartbeats 4000000 in
theorem adds_eq_big_lt (a b m n y mo dm x u v s : Int) (_m0 : -5000 ≤ m) (m1 : m ≤ 5000) (_n0 : -5000 ≤ n) (n1 : n ≤ 5000) (l : Int) (hy0 : 2000 ≤ y) (hy1 : y ≤ 2273) (hmo0 : 1 ≤ mo) (hmo1 : mo ≤ 12) (_hd0 : 1 ≤ dm) (_hd1 : dm ≤ 31) (hu0 : 2000 ≤ u) (hu1 : u ≤ 2273) (hv0 : 1 ≤ v) (hv1 : v ≤ 12) (hq2 : (u * 12 + v != y * 12 + mo + m) = false) (t i o j : Int) (h28 : 28 < dm) (z : Int) (hba : b < a) (H1 : Hid (DateQ a y mo dm 0)) (H2 : Hid (AddQ a m x 0)) (H3 : Hid (DateQ x u v dm 0)) (H4 : Hid (MonQ x s l 0)) (H5 : Hid (AddQ x n t i)) (H6 : Hid (AddQ a (m + n) o j)) (H7 : Hid (AddQ b m z 0)) (w : World) (hB : Hid (BefT w)) :
    Calls Tryd.prog 7 #[.int .i64 a, .int .i64 b, .int .i64 m, .int .i64 n] w (YesB w) := by
  have nf113 : decide (m < -5000) = false := decide_eq_false (by omega)
  have nf114 : decide (5000 < m) = false := decide_eq_false (by omega)
  have nf115 : decide (n < -5000) = false := decide_eq_false (by omega)
  have nf116 : decide (5000 < n) = false := decide_eq_false (by omega)
  have nf117 : decide (dm ≤ 28) = false := decide_eq_false (by omega)
  go_enter Tryd.func7, Tryd.ntmps7
  go_wp2_with fail
  refine (sane_any w hB).mono ?_
  rintro e w1 ⟨rfl, hb⟩
  have HB1 := Lib.hid hb
  clear hb
  go_wp2_with fail
  refine (Date_any _ _ _ _ _ H1 _ (Lib.hid (hB.out.on HB1.out))).mono ?_
  rintro e w2 ⟨rfl, hb⟩
  have HB2 : Hid (Below w.heap.size w w2) := HB1.out.trans (hb.mono HB1.out.size)
  clear hb
  go_wp2_with fail
  refine (Add_any _ _ _ _ H2 _ (Lib.hid (hB.out.on HB2.out))).mono ?_
  rintro e w3 ⟨rfl, hb⟩
  have HB3 : Hid (Below w.heap.size w w3) := HB2.out.trans (hb.mono HB2.out.size)
  clear hb
  go_wp2_with fail
  refine (Date_any _ _ _ _ _ H3 _ (Lib.hid (hB.out.on HB3.out))).mono ?_
  rintro e w4 ⟨rfl, hb⟩
  have HB4 : Hid (Below w.heap.size w w4) := HB3.out.trans (hb.mono HB3.out.size)
  clear hb
  go_wp2_with fail
  refine (Month_any _ _ _ _ H4 _ (Lib.hid (hB.out.on HB4.out))).mono ?_
  rintro e w5 ⟨rfl, hb⟩
  have HB5 : Hid (Below w.heap.size w w5) := HB4.out.trans (hb.mono HB4.out.size)
  clear hb
  go_wp2_with fail
  refine (Add_any _ _ _ _ H5 _ (Lib.hid (hB.out.on HB5.out))).mono ?_
  rintro e w6 ⟨rfl, hb⟩
  have HB6 : Hid (Below w.heap.size w w6) := HB5.out.trans (hb.mono HB5.out.size)
  clear hb
  go_wp2_with fail
  refine (Add_any _ _ _ _ H6 _ (Lib.hid (hB.out.on HB6.out))).mono ?_
  rintro e w7 ⟨rfl, hb⟩
  have HB7 : Hid (Below w.heap.size w w7) := HB6.out.trans (hb.mono HB6.out.size)
  clear hb
  go_wp2_with fail
  refine (Add_any _ _ _ _ H7 _ (Lib.hid (hB.out.on HB7.out))).mono ?_
  rintro e w8 ⟨rfl, hb⟩
  have HB8 : Hid (Below w.heap.size w w8) := HB7.out.trans (hb.mono HB7.out.size)
  clear hb
  go_wp2_with fail
  go_ret
  exact ⟨by first | rfl | simp, HB8.out⟩
set_option maxHeartbeats 4000000 in
theorem adds_cut_big_lt (a b m n y mo dm x u v s : Int) (_m0 : -5000 ≤ m) (m1 : m ≤ 5000) (_n0 : -5000 ≤ n) (n1 : n ≤ 5000) (wd : Int) (hw : wd < dm) (hy0 : 2000 ≤ y) (hy1 : y ≤ 2273) (hmo0 : 1 ≤ mo) (hmo1 : mo ≤ 12) (_hd0 : 1 ≤ dm) (_hd1 : dm ≤ 31) (hu0 : 2000 ≤ u) (hu1 : u ≤ 2273) (hv0 : 1 ≤ v) (hv1 : v ≤ 12) (hq2 : (u * 12 + v != y * 12 + mo + m) = false) (t i o j : Int) (h28 : 28 < dm) (z : Int) (hba : b < a) (H1 : Hid (DateQ a y mo dm 0)) (H2 : Hid (AddQ a m x 0)) (H3 : Hid (DateQ x u v wd 0)) (H4 : Hid (MonQ x s x 0)) (H5 : Hid (AddQ x n t i)) (H6 : Hid (AddQ a (m + n) o j)) (H7 : Hid (AddQ b m z 0)) (w : World) (hB : Hid (BefT w)) :
    Calls Tryd.prog 7 #[.int .i64 a, .int .i64 b, .int .i64 m, .int .i64 n] w (YesB w) := by
  have nf118 : decide (m < -5000) = false := decide_eq_false (by omega)
  have nf119 : decide (5000 < m) = false := decide_eq_false (by omega)
  have nf120 : decide (n < -5000) = false := decide_eq_false (by omega)
  have nf121 : decide (5000 < n) = false := decide_eq_false (by omega)
  have nf122 : decide (dm < wd) = false := decide_eq_false (by omega)
  have nw1 : (wd == dm) = false := by simp; omega
  have nw2 : (wd != dm) = true := by simp; omega
  have nf123 : decide (dm ≤ 28) = false := decide_eq_false (by omega)
  go_enter Tryd.func7, Tryd.ntmps7
  go_wp2_with fail
  refine (sane_any w hB).mono ?_
  rintro e w1 ⟨rfl, hb⟩
  have HB1 := Lib.hid hb
  clear hb
  go_wp2_with fail
  refine (Date_any _ _ _ _ _ H1 _ (Lib.hid (hB.out.on HB1.out))).mono ?_
  rintro e w2 ⟨rfl, hb⟩
  have HB2 : Hid (Below w.heap.size w w2) := HB1.out.trans (hb.mono HB1.out.size)
  clear hb
  go_wp2_with fail
  refine (Add_any _ _ _ _ H2 _ (Lib.hid (hB.out.on HB2.out))).mono ?_
  rintro e w3 ⟨rfl, hb⟩
  have HB3 : Hid (Below w.heap.size w w3) := HB2.out.trans (hb.mono HB2.out.size)
  clear hb
  go_wp2_with fail
  refine (Date_any _ _ _ _ _ H3 _ (Lib.hid (hB.out.on HB3.out))).mono ?_
  rintro e w4 ⟨rfl, hb⟩
  have HB4 : Hid (Below w.heap.size w w4) := HB3.out.trans (hb.mono HB3.out.size)
  clear hb
  go_wp2_with fail
  refine (Month_any _ _ _ _ H4 _ (Lib.hid (hB.out.on HB4.out))).mono ?_
  rintro e w5 ⟨rfl, hb⟩
  have HB5 : Hid (Below w.heap.size w w5) := HB4.out.trans (hb.mono HB4.out.size)
  clear hb
  go_wp2_with fail
  refine (Add_any _ _ _ _ H5 _ (Lib.hid (hB.out.on HB5.out))).mono ?_
  rintro e w6 ⟨rfl, hb⟩
  have HB6 : Hid (Below w.heap.size w w6) := HB5.out.trans (hb.mono HB5.out.size)
  clear hb
  go_wp2_with fail
  refine (Add_any _ _ _ _ H6 _ (Lib.hid (hB.out.on HB6.out))).mono ?_
  rintro e w7 ⟨rfl, hb⟩
  have HB7 : Hid (Below w.heap.size w w7) := HB6.out.trans (hb.mono HB6.out.size)
  clear hb
  go_wp2_with fail
  refine (Add_any _ _ _ _ H7 _ (Lib.hid (hB.out.on HB7.out))).mono ?_
  rintro e w8 ⟨rfl, hb⟩
  have HB8 : Hid (Below w.heap.size w w8) := HB7.out.trans (hb.mono HB7.out.size)
  clear hb
  go_wp2_with fail
  go_ret
  exact ⟨by first | rfl | simp, HB8.out⟩
set_option maxHeartbeats 4000000 in
theorem adds_eq_ok_ge (a b m n y mo dm x u v s : Int) (_m0 : -5000 ≤ m) (m1 : m ≤ 5000) (_n0 : -5000 ≤ n) (n1 : n ≤ 5000) (l : Int) (hy0 : 2000 ≤ y) (hy1 : y ≤ 2273) (hmo0 : 1 ≤ mo) (hmo1 : mo ≤ 12) (_hd0 : 1 ≤ dm) (_hd1 : dm ≤ 31) (hu0 : 2000 ≤ u) (hu1 : u ≤ 2273) (hv0 : 1 ≤ v) (hv1 : v ≤ 12) (hq2 : (u * 12 + v != y * 12 + mo + m) = false) (t : Int) (h28 : dm ≤ 28) (z : Int) (hba : a ≤ b) (hzx : x ≤ z) (H1 : Hid (DateQ a y mo dm 0)) (H2 : Hid (AddQ a m x 0)) (H3 : Hid (DateQ x u v dm 0)) (H4 : Hid (MonQ x s l 0)) (H5 : Hid (AddQ x n t 0)) (H6 : Hid (AddQ a (m + n) t 0)) (H7 : Hid (AddQ b m z 0)) (w : World) (hB : Hid (BefT w)) :
    Calls Tryd.prog 7 #[.int .i64 a, .int .i64 b, .int .i64 m, .int .i64 n] w (YesB w) := by
  have nf124 : decide (m < -5000) = false := decide_eq_false (by omega)
  have nf125 : decide (5000 < m) = false := decide_eq_false (by omega)
  have nf126 : decide (n < -5000) = false := decide_eq_false (by omega)
  have nf127 : decide (5000 < n) = false := decide_eq_false (by omega)
  have nf128 : decide (b < a) = false := decide_eq_false (by omega)
  go_enter Tryd.func7, Tryd.ntmps7
  go_wp2_with fail
  refine (sane_any w hB).mono ?_
  rintro e w1 ⟨rfl, hb⟩
  have HB1 := Lib.hid hb
  clear hb
  go_wp2_with fail
  refine (Date_any _ _ _ _ _ H1 _ (Lib.hid (hB.out.on HB1.out))).mono ?_
  rintro e w2 ⟨rfl, hb⟩
  have HB2 : Hid (Below w.heap.size w w2) := HB1.out.trans (hb.mono HB1.out.size)
  clear hb
  go_wp2_with fail
  refine (Add_any _ _ _ _ H2 _ (Lib.hid (hB.out.on HB2.out))).mono ?_
  rintro e w3 ⟨rfl, hb⟩
  have HB3 : Hid (Below w.heap.size w w3) := HB2.out.trans (hb.mono HB2.out.size)
  clear hb
  go_wp2_with fail
  refine (Date_any _ _ _ _ _ H3 _ (Lib.hid (hB.out.on HB3.out))).mono ?_
  rintro e w4 ⟨rfl, hb⟩
  have HB4 : Hid (Below w.heap.size w w4) := HB3.out.trans (hb.mono HB3.out.size)
  clear hb
  go_wp2_with fail
  refine (Month_any _ _ _ _ H4 _ (Lib.hid (hB.out.on HB4.out))).mono ?_
  rintro e w5 ⟨rfl, hb⟩
  have HB5 : Hid (Below w.heap.size w w5) := HB4.out.trans (hb.mono HB4.out.size)
  clear hb
  go_wp2_with fail
  refine (Add_any _ _ _ _ H5 _ (Lib.hid (hB.out.on HB5.out))).mono ?_
  rintro e w6 ⟨rfl, hb⟩
  have HB6 : Hid (Below w.heap.size w w6) := HB5.out.trans (hb.mono HB5.out.size)
  clear hb
  go_wp2_with fail
  refine (Add_any _ _ _ _ H6 _ (Lib.hid (hB.out.on HB6.out))).mono ?_
  rintro e w7 ⟨rfl, hb⟩
  have HB7 : Hid (Below w.heap.size w w7) := HB6.out.trans (hb.mono HB6.out.size)
  clear hb
  go_wp2_with fail
  refine (Add_any _ _ _ _ H7 _ (Lib.hid (hB.out.on HB7.out))).mono ?_
  rintro e w8 ⟨rfl, hb⟩
  have HB8 : Hid (Below w.heap.size w w8) := HB7.out.trans (hb.mono HB7.out.size)
  clear hb
  go_wp2_with fail
  go_ret
  exact ⟨by first | rfl | simp, HB8.out⟩
set_option maxHeartbeats 4000000 in
theorem adds_eq_no_ge (a b m n y mo dm x u v s : Int) (_m0 : -5000 ≤ m) (m1 : m ≤ 5000) (_n0 : -5000 ≤ n) (n1 : n ≤ 5000) (l : Int) (hy0 : 2000 ≤ y) (hy1 : y ≤ 2273) (hmo0 : 1 ≤ mo) (hmo1 : mo ≤ 12) (_hd0 : 1 ≤ dm) (_hd1 : dm ≤ 31) (hu0 : 2000 ≤ u) (hu1 : u ≤ 2273) (hv0 : 1 ≤ v) (hv1 : v ≤ 12) (hq2 : (u * 12 + v != y * 12 + mo + m) = false) (t o j : Int) (h28 : dm ≤ 28) (z : Int) (hba : a ≤ b) (hzx : x ≤ z) (H1 : Hid (DateQ a y mo dm 0)) (H2 : Hid (AddQ a m x 0)) (H3 : Hid (DateQ x u v dm 0)) (H4 : Hid (MonQ x s l 0)) (H5 : Hid (AddQ x n t 3)) (H6 : Hid (AddQ a (m + n) o j)) (H7 : Hid (AddQ b m z 0)) (w : World) (hB : Hid (BefT w)) :
    Calls Tryd.prog 7 #[.int .i64 a, .int .i64 b, .int .i64 m, .int .i64 n] w (YesB w) := by
  have nf129 : decide (m < -5000) = false := decide_eq_false (by omega)
  have nf130 : decide (5000 < m) = false := decide_eq_false (by omega)
  have nf131 : decide (n < -5000) = false := decide_eq_false (by omega)
  have nf132 : decide (5000 < n) = false := decide_eq_false (by omega)
  have nf133 : decide (b < a) = false := decide_eq_false (by omega)
  go_enter Tryd.func7, Tryd.ntmps7
  go_wp2_with fail
  refine (sane_any w hB).mono ?_
  rintro e w1 ⟨rfl, hb⟩
  have HB1 := Lib.hid hb
  clear hb
  go_wp2_with fail
  refine (Date_any _ _ _ _ _ H1 _ (Lib.hid (hB.out.on HB1.out))).mono ?_
  rintro e w2 ⟨rfl, hb⟩
  have HB2 : Hid (Below w.heap.size w w2) := HB1.out.trans (hb.mono HB1.out.size)
  clear hb
  go_wp2_with fail
  refine (Add_any _ _ _ _ H2 _ (Lib.hid (hB.out.on HB2.out))).mono ?_
  rintro e w3 ⟨rfl, hb⟩
  have HB3 : Hid (Below w.heap.size w w3) := HB2.out.trans (hb.mono HB2.out.size)
  clear hb
  go_wp2_with fail
  refine (Date_any _ _ _ _ _ H3 _ (Lib.hid (hB.out.on HB3.out))).mono ?_
  rintro e w4 ⟨rfl, hb⟩
  have HB4 : Hid (Below w.heap.size w w4) := HB3.out.trans (hb.mono HB3.out.size)
  clear hb
  go_wp2_with fail
  refine (Month_any _ _ _ _ H4 _ (Lib.hid (hB.out.on HB4.out))).mono ?_
  rintro e w5 ⟨rfl, hb⟩
  have HB5 : Hid (Below w.heap.size w w5) := HB4.out.trans (hb.mono HB4.out.size)
  clear hb
  go_wp2_with fail
  refine (Add_any _ _ _ _ H5 _ (Lib.hid (hB.out.on HB5.out))).mono ?_
  rintro e w6 ⟨rfl, hb⟩
  have HB6 : Hid (Below w.heap.size w w6) := HB5.out.trans (hb.mono HB5.out.size)
  clear hb
  go_wp2_with fail
  refine (Add_any _ _ _ _ H6 _ (Lib.hid (hB.out.on HB6.out))).mono ?_
  rintro e w7 ⟨rfl, hb⟩
  have HB7 : Hid (Below w.heap.size w w7) := HB6.out.trans (hb.mono HB6.out.size)
  clear hb
  go_wp2_with fail
  refine (Add_any _ _ _ _ H7 _ (Lib.hid (hB.out.on HB7.out))).mono ?_
  rintro e w8 ⟨rfl, hb⟩
  have HB8 : Hid (Below w.heap.size w w8) := HB7.out.trans (hb.mono HB7.out.size)
  clear hb
  go_wp2_with fail
  go_ret
  exact ⟨by first | rfl | simp, HB8.out⟩
set_option maxHeartbeats 4000000 in
theorem adds_eq_big_ge (a b m n y mo dm x u v s : Int) (_m0 : -5000 ≤ m) (m1 : m ≤ 5000) (_n0 : -5000 ≤ n) (n1 : n ≤ 5000) (l : Int) (hy0 : 2000 ≤ y) (hy1 : y ≤ 2273) (hmo0 : 1 ≤ mo) (hmo1 : mo ≤ 12) (_hd0 : 1 ≤ dm) (_hd1 : dm ≤ 31) (hu0 : 2000 ≤ u) (hu1 : u ≤ 2273) (hv0 : 1 ≤ v) (hv1 : v ≤ 12) (hq2 : (u * 12 + v != y * 12 + mo + m) = false) (t i o j : Int) (h28 : 28 < dm) (z : Int) (hba : a ≤ b) (hzx : x ≤ z) (H1 : Hid (DateQ a y mo dm 0)) (H2 : Hid (AddQ a m x 0)) (H3 : Hid (DateQ x u v dm 0)) (H4 : Hid (MonQ x s l 0)) (H5 : Hid (AddQ x n t i)) (H6 : Hid (AddQ a (m + n) o j)) (H7 : Hid (AddQ b m z 0)) (w : World) (hB : Hid (BefT w)) :
    Calls Tryd.prog 7 #[.int .i64 a, .int .i64 b, .int .i64 m, .int .i64 n] w (YesB w) := by
  have nf134 : decide (m < -5000) = false := decide_eq_false (by omega)
  have nf135 : decide (5000 < m) = false := decide_eq_false (by omega)
  have nf136 : decide (n < -5000) = false := decide_eq_false (by omega)
  have nf137 : decide (5000 < n) = false := decide_eq_false (by omega)
  have nf138 : decide (dm ≤ 28) = false := decide_eq_false (by omega)
  have nf139 : decide (b < a) = false := decide_eq_false (by omega)
  go_enter Tryd.func7, Tryd.ntmps7
  go_wp2_with fail
  refine (sane_any w hB).mono ?_
  rintro e w1 ⟨rfl, hb⟩
  have HB1 := Lib.hid hb
  clear hb
  go_wp2_with fail
  refine (Date_any _ _ _ _ _ H1 _ (Lib.hid (hB.out.on HB1.out))).mono ?_
  rintro e w2 ⟨rfl, hb⟩
  have HB2 : Hid (Below w.heap.size w w2) := HB1.out.trans (hb.mono HB1.out.size)
  clear hb
  go_wp2_with fail
  refine (Add_any _ _ _ _ H2 _ (Lib.hid (hB.out.on HB2.out))).mono ?_
  rintro e w3 ⟨rfl, hb⟩
  have HB3 : Hid (Below w.heap.size w w3) := HB2.out.trans (hb.mono HB2.out.size)
  clear hb
  go_wp2_with fail
  refine (Date_any _ _ _ _ _ H3 _ (Lib.hid (hB.out.on HB3.out))).mono ?_
  rintro e w4 ⟨rfl, hb⟩
  have HB4 : Hid (Below w.heap.size w w4) := HB3.out.trans (hb.mono HB3.out.size)
  clear hb
  go_wp2_with fail
  refine (Month_any _ _ _ _ H4 _ (Lib.hid (hB.out.on HB4.out))).mono ?_
  rintro e w5 ⟨rfl, hb⟩
  have HB5 : Hid (Below w.heap.size w w5) := HB4.out.trans (hb.mono HB4.out.size)
  clear hb
  go_wp2_with fail
  refine (Add_any _ _ _ _ H5 _ (Lib.hid (hB.out.on HB5.out))).mono ?_
  rintro e w6 ⟨rfl, hb⟩
  have HB6 : Hid (Below w.heap.size w w6) := HB5.out.trans (hb.mono HB5.out.size)
  clear hb
  go_wp2_with fail
  refine (Add_any _ _ _ _ H6 _ (Lib.hid (hB.out.on HB6.out))).mono ?_
  rintro e w7 ⟨rfl, hb⟩
  have HB7 : Hid (Below w.heap.size w w7) := HB6.out.trans (hb.mono HB6.out.size)
  clear hb
  go_wp2_with fail
  refine (Add_any _ _ _ _ H7 _ (Lib.hid (hB.out.on HB7.out))).mono ?_
  rintro e w8 ⟨rfl, hb⟩
  have HB8 : Hid (Below w.heap.size w w8) := HB7.out.trans (hb.mono HB7.out.size)
  clear hb
  go_wp2_with fail
  go_ret
  exact ⟨by first | rfl | simp, HB8.out⟩
set_option maxHeartbeats 4000000 in
theorem adds_cut_big_ge (a b m n y mo dm x u v s : Int) (_m0 : -5000 ≤ m) (m1 : m ≤ 5000) (_n0 : -5000 ≤ n) (n1 : n ≤ 5000) (wd : Int) (hw : wd < dm) (hy0 : 2000 ≤ y) (hy1 : y ≤ 2273) (hmo0 : 1 ≤ mo) (hmo1 : mo ≤ 12) (_hd0 : 1 ≤ dm) (_hd1 : dm ≤ 31) (hu0 : 2000 ≤ u) (hu1 : u ≤ 2273) (hv0 : 1 ≤ v) (hv1 : v ≤ 12) (hq2 : (u * 12 + v != y * 12 + mo + m) = false) (t i o j : Int) (h28 : 28 < dm) (z : Int) (hba : a ≤ b) (hzx : x ≤ z) (H1 : Hid (DateQ a y mo dm 0)) (H2 : Hid (AddQ a m x 0)) (H3 : Hid (DateQ x u v wd 0)) (H4 : Hid (MonQ x s x 0)) (H5 : Hid (AddQ x n t i)) (H6 : Hid (AddQ a (m + n) o j)) (H7 : Hid (AddQ b m z 0)) (w : World) (hB : Hid (BefT w)) :
    Calls Tryd.prog 7 #[.int .i64 a, .int .i64 b, .int .i64 m, .int .i64 n] w (YesB w) := by
  have nf140 : decide (m < -5000) = false := decide_eq_false (by omega)
  have nf141 : decide (5000 < m) = false := decide_eq_false (by omega)
  have nf142 : decide (n < -5000) = false := decide_eq_false (by omega)
  have nf143 : decide (5000 < n) = false := decide_eq_false (by omega)
  have nf144 : decide (dm < wd) = false := decide_eq_false (by omega)
  have nw1 : (wd == dm) = false := by simp; omega
  have nw2 : (wd != dm) = true := by simp; omega
  have nf145 : decide (dm ≤ 28) = false := decide_eq_false (by omega)
  have nf146 : decide (b < a) = false := decide_eq_false (by omega)
  go_enter Tryd.func7, Tryd.ntmps7
  go_wp2_with fail
  refine (sane_any w hB).mono ?_
  rintro e w1 ⟨rfl, hb⟩
  have HB1 := Lib.hid hb
  clear hb
  go_wp2_with fail
  refine (Date_any _ _ _ _ _ H1 _ (Lib.hid (hB.out.on HB1.out))).mono ?_
  rintro e w2 ⟨rfl, hb⟩
  have HB2 : Hid (Below w.heap.size w w2) := HB1.out.trans (hb.mono HB1.out.size)
  clear hb
  go_wp2_with fail
  refine (Add_any _ _ _ _ H2 _ (Lib.hid (hB.out.on HB2.out))).mono ?_
  rintro e w3 ⟨rfl, hb⟩
  have HB3 : Hid (Below w.heap.size w w3) := HB2.out.trans (hb.mono HB2.out.size)
  clear hb
  go_wp2_with fail
  refine (Date_any _ _ _ _ _ H3 _ (Lib.hid (hB.out.on HB3.out))).mono ?_
  rintro e w4 ⟨rfl, hb⟩
  have HB4 : Hid (Below w.heap.size w w4) := HB3.out.trans (hb.mono HB3.out.size)
  clear hb
  go_wp2_with fail
  refine (Month_any _ _ _ _ H4 _ (Lib.hid (hB.out.on HB4.out))).mono ?_
  rintro e w5 ⟨rfl, hb⟩
  have HB5 : Hid (Below w.heap.size w w5) := HB4.out.trans (hb.mono HB4.out.size)
  clear hb
  go_wp2_with fail
  refine (Add_any _ _ _ _ H5 _ (Lib.hid (hB.out.on HB5.out))).mono ?_
  rintro e w6 ⟨rfl, hb⟩
  have HB6 : Hid (Below w.heap.size w w6) := HB5.out.trans (hb.mono HB5.out.size)
  clear hb
  go_wp2_with fail
  refine (Add_any _ _ _ _ H6 _ (Lib.hid (hB.out.on HB6.out))).mono ?_
  rintro e w7 ⟨rfl, hb⟩
  have HB7 : Hid (Below w.heap.size w w7) := HB6.out.trans (hb.mono HB6.out.size)
  clear hb
  go_wp2_with fail
  refine (Add_any _ _ _ _ H7 _ (Lib.hid (hB.out.on HB7.out))).mono ?_
  rintro e w8 ⟨rfl, hb⟩
  have HB8 : Hid (Below w.heap.size w w8) := HB7.out.trans (hb.mono HB7.out.size)
  clear hb
  go_wp2_with fail
  go_ret
  exact ⟨by first | rfl | simp, HB8.out⟩
theorem add_shape {d mm r m' : Nat} {y mo dm u v wd k : Int} (h : DateP d mm y mo dm) (A : AddP d mm r m' k) (h2 : DateP r m' u v wd) :
    (u * 12 + v = y * 12 + mo + k) ∧ (wd = dm ∨ (wd < dm ∧ (r : Int) = lastP m' ∧ 28 < dm)) := by
  have a := h.bd
  have b := h2.bd
  have h8 := steps_all (n := m') (by omega)
  have h9 : szP m' = stP (m' + 1) - stP m' := rfl
  have e := A.eq
  have t := A.to
  have l := A.rle
  have e1 := h.edm
  have e2 := h2.edm
  refine ⟨by omega, ?_⟩
  unfold lastP
  omega
theorem add_twice {d mm r m' r2 m2 : Nat} {y mo dm k n : Int} (h : DateP d mm y mo dm) (h28 : dm ≤ 28) (A : AddP d mm r m' k) (B : AddP r m' r2 m2 n) : AddP d mm r2 m2 (k + n) := by
  have a := h.bd
  have h8 := steps_all (n := m') (by have := A.rm.le; omega)
  have h9 : szP m' = stP (m' + 1) - stP m' := rfl
  have e := A.eq
  have e2 := B.eq
  have e1 := h.edm
  have t := A.to
  have t2 := B.to
  refine ⟨h.mon, h.le, by omega, B.rm, B.rle, ?_⟩
  rw [e2, show r - stP m' = d - stP mm by omega]
theorem add_mono {d mm r m' db mb z m3 : Nat} {k : Int} (A : AddP d mm r m' k) (B : AddP db mb z m3 k) (hdb : d ≤ db) : r ≤ z := by
  have h := mon_mono A.mon B.mon hdb
  have t := A.to
  have t2 := B.to
  by_cases e : mm = mb
  · subst e
    obtain rfl : m' = m3 := by omega
    rw [A.eq, B.eq]
    omega
  · have := stP_up (a := m' + 1) (b := m3) (by omega) (by have := B.rm.le; omega)
    have := A.rm.hi
    have := B.rm.lo
    omega
theorem adds_walk (a b m n : Int) (w : World) (hB : Hid (BefT w)) :
    Calls Tryd.prog 7 #[.int .i64 a, .int .i64 b, .int .i64 m, .int .i64 n] w (YesB w) := by
  by_cases c0 : m < -5000
  · exact adds_out0 a b m n c0 w hB
  by_cases c1 : 5000 < m
  · exact adds_out1 a b m n (by omega) c1 w hB
  by_cases c2 : n < -5000
  · exact adds_out2 a b m n (by omega) (by omega) c2 w hB
  by_cases c3 : 5000 < n
  · exact adds_out3 a b m n (by omega) (by omega) (by omega) c3 w hB
  have m0 : -5000 ≤ m := by omega
  have m1 : m ≤ 5000 := by omega
  have n0 : -5000 ≤ n := by omega
  have n1 : n ≤ 5000 := by omega
  rcases day_or a with ha | ⟨da, rfl, hda⟩
  · exact adds_noday a b m n m0 m1 n0 n1 (Lib.hid (.inr ⟨ha, rfl, rfl, rfl, rfl⟩)) (Lib.hid (.inr ⟨.inl ha, rfl, rfl⟩)) w hB
  · obtain ⟨mm, y, mo, dm, hP⟩ := date_ex hda
    have HA : DateQ (da : Int) y mo dm 0 := .inl ⟨da, mm, rfl, hP, rfl⟩
    obtain ⟨x, f, HX⟩ := addQ_ex (da : Int) m
    rcases HX with ⟨d', m1', r, m', hd', A, rfl, rfl⟩ | ⟨hx, rfl, rfl⟩
    · obtain rfl : d' = da := by omega
      obtain rfl := mon_eq A.mon hP.mon
      have HX : AddQ (d' : Int) m (r : Int) 0 := .inl ⟨d', m1', r, m', rfl, A, rfl, rfl⟩
      obtain ⟨m'', u, v, wd, hR⟩ := date_ex A.rle
      obtain rfl := mon_eq hR.mon A.rm
      have HU : DateQ (r : Int) u v wd 0 := .inl ⟨r, m'', rfl, hR, rfl⟩
      have HM : MonQ (r : Int) (stP m'' : Int) (lastP m'') 0 := .inl ⟨r, m'', rfl, A.rle, A.rm, rfl, rfl, rfl⟩
      obtain ⟨hq, hw⟩ := add_shape hP A hR
      have hq2 : (u * 12 + v != y * 12 + mo + m) = false := by rw [hq]; simp
      have b1 := hP.bd
      have b2 := hR.bd
      obtain ⟨t, i, H5⟩ := addQ_ex (r : Int) n
      obtain ⟨o, j, H6⟩ := addQ_ex (d' : Int) (m + n)
      obtain ⟨z, k, H7⟩ := addQ_ex b m
      have K : (z = 0 ∧ k = 3) ∨ (k = 0 ∧ b < (d' : Int)) ∨ (k = 0 ∧ (d' : Int) ≤ b ∧ (r : Int) ≤ z) := by
        rcases H7 with ⟨db, mb, z', m3, rfl, B, rfl, rfl⟩ | ⟨_, h1, h2⟩
        · by_cases c : (db : Int) < (d' : Int)
          · exact .inr (.inl ⟨rfl, c⟩)
          · exact .inr (.inr ⟨rfl, by omega, by have := add_mono A B (by omega); omega⟩)
        · exact .inl ⟨h1, h2⟩
      have y0 : 2000 ≤ y := by omega
      have y1 : y ≤ 2273 := by omega
      have mo0 : 1 ≤ mo := by omega
      have mo1 : mo ≤ 12 := by omega
      have d0 : 1 ≤ dm := by omega
      have d1 : dm ≤ 31 := by omega
      have u0 : 2000 ≤ u := by omega
      have u1 : u ≤ 2273 := by omega
      have v0 : 1 ≤ v := by omega
      have v1 : v ≤ 12 := by omega
      rcases hw with rfl | ⟨hw, hl, hbig⟩
      · by_cases h28 : wd ≤ 28
        · rcases H5 with ⟨r', m4, r2, m2, hr', B, rfl, rfl⟩ | ⟨h5, rfl, rfl⟩
          · obtain rfl : r' = r := by omega
            obtain rfl := mon_eq B.mon A.rm
            have B2 := add_twice hP h28 A B
            have H5 : AddQ (r' : Int) n (r2 : Int) 0 := .inl ⟨r', m4, r2, m2, rfl, B, rfl, rfl⟩
            have H6 : AddQ (d' : Int) (m + n) (r2 : Int) 0 := .inl ⟨d', m1', r2, m2, rfl, B2, rfl, rfl⟩
            rcases K with ⟨rfl, rfl⟩ | ⟨rfl, c⟩ | ⟨rfl, c, c2⟩
            · exact adds_eq_ok_no _ _ _ _ _ _ _ _ _ _ _ m0 m1 n0 n1 _ y0 y1 mo0 mo1 d0 d1 u0 u1 v0 v1 hq2 _ h28 _ (Lib.hid HA) (Lib.hid HX) (Lib.hid HU) (Lib.hid HM) (Lib.hid H5) (Lib.hid H6) (Lib.hid H7) w hB
            · exact adds_eq_ok_lt _ _ _ _ _ _ _ _ _ _ _ m0 m1 n0 n1 _ y0 y1 mo0 mo1 d0 d1 u0 u1 v0 v1 hq2 _ h28 _ c (Lib.hid HA) (Lib.hid HX) (Lib.hid HU) (Lib.hid HM) (Lib.hid H5) (Lib.hid H6) (Lib.hid H7) w hB
            · exact adds_eq_ok_ge _ _ _ _ _ _ _ _ _ _ _ m0 m1 n0 n1 _ y0 y1 mo0 mo1 d0 d1 u0 u1 v0 v1 hq2 _ h28 _ c c2 (Lib.hid HA) (Lib.hid HX) (Lib.hid HU) (Lib.hid HM) (Lib.hid H5) (Lib.hid H6) (Lib.hid H7) w hB
          · have H5 : AddQ (r : Int) n 0 3 := .inr ⟨h5, rfl, rfl⟩
            rcases K with ⟨rfl, rfl⟩ | ⟨rfl, c⟩ | ⟨rfl, c, c2⟩
            · exact adds_eq_no_no _ _ _ _ _ _ _ _ _ _ _ m0 m1 n0 n1 _ y0 y1 mo0 mo1 d0 d1 u0 u1 v0 v1 hq2 _ _ _ h28 _ (Lib.hid HA) (Lib.hid HX) (Lib.hid HU) (Lib.hid HM) (Lib.hid H5) (Lib.hid H6) (Lib.hid H7) w hB
            · exact adds_eq_no_lt _ _ _ _ _ _ _ _ _ _ _ m0 m1 n0 n1 _ y0 y1 mo0 mo1 d0 d1 u0 u1 v0 v1 hq2 _ _ _ h28 _ c (Lib.hid HA) (Lib.hid HX) (Lib.hid HU) (Lib.hid HM) (Lib.hid H5) (Lib.hid H6) (Lib.hid H7) w hB
            · exact adds_eq_no_ge _ _ _ _ _ _ _ _ _ _ _ m0 m1 n0 n1 _ y0 y1 mo0 mo1 d0 d1 u0 u1 v0 v1 hq2 _ _ _ h28 _ c c2 (Lib.hid HA) (Lib.hid HX) (Lib.hid HU) (Lib.hid HM) (Lib.hid H5) (Lib.hid H6) (Lib.hid H7) w hB
        · have h28 : 28 < wd := by omega
          rcases K with ⟨rfl, rfl⟩ | ⟨rfl, c⟩ | ⟨rfl, c, c2⟩
          · exact adds_eq_big_no _ _ _ _ _ _ _ _ _ _ _ m0 m1 n0 n1 _ y0 y1 mo0 mo1 d0 d1 u0 u1 v0 v1 hq2 _ _ _ _ h28 _ (Lib.hid HA) (Lib.hid HX) (Lib.hid HU) (Lib.hid HM) (Lib.hid H5) (Lib.hid H6) (Lib.hid H7) w hB
          · exact adds_eq_big_lt _ _ _ _ _ _ _ _ _ _ _ m0 m1 n0 n1 _ y0 y1 mo0 mo1 d0 d1 u0 u1 v0 v1 hq2 _ _ _ _ h28 _ c (Lib.hid HA) (Lib.hid HX) (Lib.hid HU) (Lib.hid HM) (Lib.hid H5) (Lib.hid H6) (Lib.hid H7) w hB
          · exact adds_eq_big_ge _ _ _ _ _ _ _ _ _ _ _ m0 m1 n0 n1 _ y0 y1 mo0 mo1 d0 d1 u0 u1 v0 v1 hq2 _ _ _ _ h28 _ c c2 (Lib.hid HA) (Lib.hid HX) (Lib.hid HU) (Lib.hid HM) (Lib.hid H5) (Lib.hid H6) (Lib.hid H7) w hB
      · rw [← hl] at HM
        rcases K with ⟨rfl, rfl⟩ | ⟨rfl, c⟩ | ⟨rfl, c, c2⟩
        · exact adds_cut_big_no _ _ _ _ _ _ _ _ _ _ _ m0 m1 n0 n1 _ hw y0 y1 mo0 mo1 d0 d1 u0 u1 v0 v1 hq2 _ _ _ _ hbig _ (Lib.hid HA) (Lib.hid HX) (Lib.hid HU) (Lib.hid HM) (Lib.hid H5) (Lib.hid H6) (Lib.hid H7) w hB
        · exact adds_cut_big_lt _ _ _ _ _ _ _ _ _ _ _ m0 m1 n0 n1 _ hw y0 y1 mo0 mo1 d0 d1 u0 u1 v0 v1 hq2 _ _ _ _ hbig _ c (Lib.hid HA) (Lib.hid HX) (Lib.hid HU) (Lib.hid HM) (Lib.hid H5) (Lib.hid H6) (Lib.hid H7) w hB
        · exact adds_cut_big_ge _ _ _ _ _ _ _ _ _ _ _ m0 m1 n0 n1 _ hw y0 y1 mo0 mo1 d0 d1 u0 u1 v0 v1 hq2 _ _ _ _ hbig _ c c2 (Lib.hid HA) (Lib.hid HX) (Lib.hid HU) (Lib.hid HM) (Lib.hid H5) (Lib.hid H6) (Lib.hid H7) w hB
    · exact adds_noadd _ _ _ _ _ _ _ m0 m1 n0 n1 (Lib.hid HA) (Lib.hid (.inr ⟨hx, rfl, rfl⟩)) w hB
end Go.Proofs.YtmaapbifkimdcaaDoor
