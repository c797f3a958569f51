/- CalendarMonths' walk. Conditions: the array 'before' is there as its text lays it. -/
import Derived.Test.YtmaapbifkimdcaaDoorKg
namespace Go.Proofs.YtmaapbifkimdcaaDoor
set_option maxRecDepth 20000
open Go.RowKit

set_option maxHeartbeats 4000000 in
theorem months_low (a b : Int) (ha : a < 0) (H1 : Hid (MonQ a 0 0 3)) (w : World) (hB : Hid (BefT w)) :
    Calls Tryd.prog 6 #[.int .i64 a, .int .i64 b] w (YesB w) := by
  go_enter Tryd.func6, Tryd.ntmps6
  go_wp2_with fail
  refine (sane_any w hB).mono ?_
  rintro e w1 ⟨rfl, hb⟩
  have HB1 := Lib.hid hb
  clear hb
  go_wp2_with fail
  refine (Month_any _ _ _ _ H1 _ (Lib.hid (hB.out.on HB1.out))).mono ?_
  rintro e w2 ⟨rfl, hb⟩
  have HB2 : Hid (Below w.heap.size w w2) := HB1.out.trans (hb.mono HB1.out.size)
  clear hb
  go_wp2_with fail
  go_ret
  exact ⟨by first | rfl | simp, HB2.out⟩
set_option maxHeartbeats 4000000 in
theorem months_high (a b : Int) (ha : 100000 < a) (H1 : Hid (MonQ a 0 0 3)) (w : World) (hB : Hid (BefT w)) :
    Calls Tryd.prog 6 #[.int .i64 a, .int .i64 b] w (YesB w) := by
  have nf11 : decide (a < 0) = false := decide_eq_false (by omega)
  go_enter Tryd.func6, Tryd.ntmps6
  go_wp2_with fail
  refine (sane_any w hB).mono ?_
  rintro e w1 ⟨rfl, hb⟩
  have HB1 := Lib.hid hb
  clear hb
  go_wp2_with fail
  refine (Month_any _ _ _ _ H1 _ (Lib.hid (hB.out.on HB1.out))).mono ?_
  rintro e w2 ⟨rfl, hb⟩
  have HB2 : Hid (Below w.heap.size w w2) := HB1.out.trans (hb.mono HB1.out.size)
  clear hb
  go_wp2_with fail
  go_ret
  exact ⟨by first | rfl | simp, HB2.out⟩
set_option maxHeartbeats 4000000 in
theorem months_mid_no (a b s l y mo : Int) (ha0 : s ≤ a) (ha1 : a ≤ l) (hs : 0 ≤ s) (hl : l < 100000) (h27 : 27 ≤ l - s) (h30 : l - s ≤ 30) (t : Int) (H1 : Hid (MonQ a s l 0)) (H2 : Hid (DateQ s y mo 1 0)) (H3 : Hid (MonQ (l + 1) (l + 1) t 0)) (H4 : Hid (MonQ b 0 0 3)) (w : World) (hB : Hid (BefT w)) :
    Calls Tryd.prog 6 #[.int .i64 a, .int .i64 b] w (YesB w) := by
  have nf12 : decide (a < 0) = false := decide_eq_false (by omega)
  have nf13 : decide (100000 < a) = false := decide_eq_false (by omega)
  have nf14 : decide (a < s) = false := decide_eq_false (by omega)
  have nf15 : decide (l < a) = false := decide_eq_false (by omega)
  have nf16 : decide (100000 < l) = false := decide_eq_false (by omega)
  have nf17 : decide (30 < l - s) = false := decide_eq_false (by omega)
  have nf18 : decide (l - s < 27) = false := decide_eq_false (by omega)
  go_enter Tryd.func6, Tryd.ntmps6
  go_wp2_with fail
  refine (sane_any w hB).mono ?_
  rintro e w1 ⟨rfl, hb⟩
  have HB1 := Lib.hid hb
  clear hb
  go_wp2_with fail
  refine (Month_any _ _ _ _ H1 _ (Lib.hid (hB.out.on HB1.out))).mono ?_
  rintro e w2 ⟨rfl, hb⟩
  have HB2 : Hid (Below w.heap.size w w2) := HB1.out.trans (hb.mono HB1.out.size)
  clear hb
  go_wp2_with fail
  refine (Date_any _ _ _ _ _ H2 _ (Lib.hid (hB.out.on HB2.out))).mono ?_
  rintro e w3 ⟨rfl, hb⟩
  have HB3 : Hid (Below w.heap.size w w3) := HB2.out.trans (hb.mono HB2.out.size)
  clear hb
  go_wp2_with fail
  refine (Month_any _ _ _ _ H3 _ (Lib.hid (hB.out.on HB3.out))).mono ?_
  rintro e w4 ⟨rfl, hb⟩
  have HB4 : Hid (Below w.heap.size w w4) := HB3.out.trans (hb.mono HB3.out.size)
  clear hb
  go_wp2_with fail
  refine (Month_any _ _ _ _ H4 _ (Lib.hid (hB.out.on HB4.out))).mono ?_
  rintro e w5 ⟨rfl, hb⟩
  have HB5 : Hid (Below w.heap.size w w5) := HB4.out.trans (hb.mono HB4.out.size)
  clear hb
  go_wp2_with fail
  go_ret
  exact ⟨by first | rfl | simp, HB5.out⟩
set_option maxHeartbeats 4000000 in
theorem months_mid_in (a b s l y mo : Int) (ha0 : s ≤ a) (ha1 : a ≤ l) (hs : 0 ≤ s) (hl : l < 100000) (h27 : 27 ≤ l - s) (h30 : l - s ≤ 30) (t : Int) (hb0 : s ≤ b) (hb1 : b ≤ l) (H1 : Hid (MonQ a s l 0)) (H2 : Hid (DateQ s y mo 1 0)) (H3 : Hid (MonQ (l + 1) (l + 1) t 0)) (H4 : Hid (MonQ b s l 0)) (w : World) (hB : Hid (BefT w)) :
    Calls Tryd.prog 6 #[.int .i64 a, .int .i64 b] w (YesB w) := by
  have nf19 : decide (a < 0) = false := decide_eq_false (by omega)
  have nf20 : decide (100000 < a) = false := decide_eq_false (by omega)
  have nf21 : decide (a < s) = false := decide_eq_false (by omega)
  have nf22 : decide (l < a) = false := decide_eq_false (by omega)
  have nf23 : decide (100000 < l) = false := decide_eq_false (by omega)
  have nf24 : decide (30 < l - s) = false := decide_eq_false (by omega)
  have nf25 : decide (l - s < 27) = false := decide_eq_false (by omega)
  go_enter Tryd.func6, Tryd.ntmps6
  go_wp2_with fail
  refine (sane_any w hB).mono ?_
  rintro e w1 ⟨rfl, hb⟩
  have HB1 := Lib.hid hb
  clear hb
  go_wp2_with fail
  refine (Month_any _ _ _ _ H1 _ (Lib.hid (hB.out.on HB1.out))).mono ?_
  rintro e w2 ⟨rfl, hb⟩
  have HB2 : Hid (Below w.heap.size w w2) := HB1.out.trans (hb.mono HB1.out.size)
  clear hb
  go_wp2_with fail
  refine (Date_any _ _ _ _ _ H2 _ (Lib.hid (hB.out.on HB2.out))).mono ?_
  rintro e w3 ⟨rfl, hb⟩
  have HB3 : Hid (Below w.heap.size w w3) := HB2.out.trans (hb.mono HB2.out.size)
  clear hb
  go_wp2_with fail
  refine (Month_any _ _ _ _ H3 _ (Lib.hid (hB.out.on HB3.out))).mono ?_
  rintro e w4 ⟨rfl, hb⟩
  have HB4 : Hid (Below w.heap.size w w4) := HB3.out.trans (hb.mono HB3.out.size)
  clear hb
  go_wp2_with fail
  refine (Month_any _ _ _ _ H4 _ (Lib.hid (hB.out.on HB4.out))).mono ?_
  rintro e w5 ⟨rfl, hb⟩
  have HB5 : Hid (Below w.heap.size w w5) := HB4.out.trans (hb.mono HB4.out.size)
  clear hb
  go_wp2_with fail
  go_ret
  exact ⟨by first | rfl | simp, HB5.out⟩
set_option maxHeartbeats 4000000 in
theorem months_mid_lo (a b s l y mo : Int) (ha0 : s ≤ a) (ha1 : a ≤ l) (hs : 0 ≤ s) (hl : l < 100000) (h27 : 27 ≤ l - s) (h30 : l - s ≤ 30) (t : Int) (fr to : Int) (hb : b < s) (hfr : fr ≤ l) (hto : to < s) (H1 : Hid (MonQ a s l 0)) (H2 : Hid (DateQ s y mo 1 0)) (H3 : Hid (MonQ (l + 1) (l + 1) t 0)) (H4 : Hid (MonQ b fr to 0)) (w : World) (hB : Hid (BefT w)) :
    Calls Tryd.prog 6 #[.int .i64 a, .int .i64 b] w (YesB w) := by
  have nf26 : decide (a < 0) = false := decide_eq_false (by omega)
  have nf27 : decide (100000 < a) = false := decide_eq_false (by omega)
  have nf28 : decide (a < s) = false := decide_eq_false (by omega)
  have nf29 : decide (l < a) = false := decide_eq_false (by omega)
  have nf30 : decide (100000 < l) = false := decide_eq_false (by omega)
  have nf31 : decide (30 < l - s) = false := decide_eq_false (by omega)
  have nf32 : decide (l - s < 27) = false := decide_eq_false (by omega)
  have nf33 : decide (s ≤ b) = false := decide_eq_false (by omega)
  have nf34 : decide (l < fr) = false := decide_eq_false (by omega)
  go_enter Tryd.func6, Tryd.ntmps6
  go_wp2_with fail
  refine (sane_any w hB).mono ?_
  rintro e w1 ⟨rfl, hb⟩
  have HB1 := Lib.hid hb
  clear hb
  go_wp2_with fail
  refine (Month_any _ _ _ _ H1 _ (Lib.hid (hB.out.on HB1.out))).mono ?_
  rintro e w2 ⟨rfl, hb⟩
  have HB2 : Hid (Below w.heap.size w w2) := HB1.out.trans (hb.mono HB1.out.size)
  clear hb
  go_wp2_with fail
  refine (Date_any _ _ _ _ _ H2 _ (Lib.hid (hB.out.on HB2.out))).mono ?_
  rintro e w3 ⟨rfl, hb⟩
  have HB3 : Hid (Below w.heap.size w w3) := HB2.out.trans (hb.mono HB2.out.size)
  clear hb
  go_wp2_with fail
  refine (Month_any _ _ _ _ H3 _ (Lib.hid (hB.out.on HB3.out))).mono ?_
  rintro e w4 ⟨rfl, hb⟩
  have HB4 : Hid (Below w.heap.size w w4) := HB3.out.trans (hb.mono HB3.out.size)
  clear hb
  go_wp2_with fail
  refine (Month_any _ _ _ _ H4 _ (Lib.hid (hB.out.on HB4.out))).mono ?_
  rintro e w5 ⟨rfl, hb⟩
  have HB5 : Hid (Below w.heap.size w w5) := HB4.out.trans (hb.mono HB4.out.size)
  clear hb
  go_wp2_with fail
  go_ret
  exact ⟨by first | rfl | simp, HB5.out⟩
set_option maxHeartbeats 4000000 in
theorem months_mid_hi (a b s l y mo : Int) (ha0 : s ≤ a) (ha1 : a ≤ l) (hs : 0 ≤ s) (hl : l < 100000) (h27 : 27 ≤ l - s) (h30 : l - s ≤ 30) (t : Int) (fr to : Int) (hb : l < b) (hfr : l < fr) (H1 : Hid (MonQ a s l 0)) (H2 : Hid (DateQ s y mo 1 0)) (H3 : Hid (MonQ (l + 1) (l + 1) t 0)) (H4 : Hid (MonQ b fr to 0)) (w : World) (hB : Hid (BefT w)) :
    Calls Tryd.prog 6 #[.int .i64 a, .int .i64 b] w (YesB w) := by
  have nf35 : decide (a < 0) = false := decide_eq_false (by omega)
  have nf36 : decide (100000 < a) = false := decide_eq_false (by omega)
  have nf37 : decide (a < s) = false := decide_eq_false (by omega)
  have nf38 : decide (l < a) = false := decide_eq_false (by omega)
  have nf39 : decide (100000 < l) = false := decide_eq_false (by omega)
  have nf40 : decide (30 < l - s) = false := decide_eq_false (by omega)
  have nf41 : decide (l - s < 27) = false := decide_eq_false (by omega)
  have hb9 : s ≤ b := by omega
  have nf42 : decide (b ≤ l) = false := decide_eq_false (by omega)
  go_enter Tryd.func6, Tryd.ntmps6
  go_wp2_with fail
  refine (sane_any w hB).mono ?_
  rintro e w1 ⟨rfl, hb⟩
  have HB1 := Lib.hid hb
  clear hb
  go_wp2_with fail
  refine (Month_any _ _ _ _ H1 _ (Lib.hid (hB.out.on HB1.out))).mono ?_
  rintro e w2 ⟨rfl, hb⟩
  have HB2 : Hid (Below w.heap.size w w2) := HB1.out.trans (hb.mono HB1.out.size)
  clear hb
  go_wp2_with fail
  refine (Date_any _ _ _ _ _ H2 _ (Lib.hid (hB.out.on HB2.out))).mono ?_
  rintro e w3 ⟨rfl, hb⟩
  have HB3 : Hid (Below w.heap.size w w3) := HB2.out.trans (hb.mono HB2.out.size)
  clear hb
  go_wp2_with fail
  refine (Month_any _ _ _ _ H3 _ (Lib.hid (hB.out.on HB3.out))).mono ?_
  rintro e w4 ⟨rfl, hb⟩
  have HB4 : Hid (Below w.heap.size w w4) := HB3.out.trans (hb.mono HB3.out.size)
  clear hb
  go_wp2_with fail
  refine (Month_any _ _ _ _ H4 _ (Lib.hid (hB.out.on HB4.out))).mono ?_
  rintro e w5 ⟨rfl, hb⟩
  have HB5 : Hid (Below w.heap.size w w5) := HB4.out.trans (hb.mono HB4.out.size)
  clear hb
  go_wp2_with fail
  go_ret
  exact ⟨by first | rfl | simp, HB5.out⟩
set_option maxHeartbeats 4000000 in
theorem months_top_no (a b y mo : Int) (ha0 : 99985 ≤ a) (ha1 : a ≤ 100000) (H1 : Hid (MonQ a 99985 100000 0)) (H2 : Hid (DateQ 99985 y mo 1 0)) (H4 : Hid (MonQ b 0 0 3)) (w : World) (hB : Hid (BefT w)) :
    Calls Tryd.prog 6 #[.int .i64 a, .int .i64 b] w (YesB w) := by
  have nf43 : decide (a < 0) = false := decide_eq_false (by omega)
  have nf44 : decide (100000 < a) = false := decide_eq_false (by omega)
  have nf45 : decide (a < 99985) = false := decide_eq_false (by omega)
  have nf46 : decide (100000 < a) = false := decide_eq_false (by omega)
  go_enter Tryd.func6, Tryd.ntmps6
  go_wp2_with fail
  refine (sane_any w hB).mono ?_
  rintro e w1 ⟨rfl, hb⟩
  have HB1 := Lib.hid hb
  clear hb
  go_wp2_with fail
  refine (Month_any _ _ _ _ H1 _ (Lib.hid (hB.out.on HB1.out))).mono ?_
  rintro e w2 ⟨rfl, hb⟩
  have HB2 : Hid (Below w.heap.size w w2) := HB1.out.trans (hb.mono HB1.out.size)
  clear hb
  go_wp2_with fail
  refine (Date_any _ _ _ _ _ H2 _ (Lib.hid (hB.out.on HB2.out))).mono ?_
  rintro e w3 ⟨rfl, hb⟩
  have HB3 : Hid (Below w.heap.size w w3) := HB2.out.trans (hb.mono HB2.out.size)
  clear hb
  go_wp2_with fail
  refine (Month_any _ _ _ _ H4 _ (Lib.hid (hB.out.on HB3.out))).mono ?_
  rintro e w4 ⟨rfl, hb⟩
  have HB4 : Hid (Below w.heap.size w w4) := HB3.out.trans (hb.mono HB3.out.size)
  clear hb
  go_wp2_with fail
  go_ret
  exact ⟨by first | rfl | simp, HB4.out⟩
set_option maxHeartbeats 4000000 in
theorem months_top_in (a b y mo : Int) (ha0 : 99985 ≤ a) (ha1 : a ≤ 100000) (hb0 : 99985 ≤ b) (hb1 : b ≤ 100000) (H1 : Hid (MonQ a 99985 100000 0)) (H2 : Hid (DateQ 99985 y mo 1 0)) (H4 : Hid (MonQ b 99985 100000 0)) (w : World) (hB : Hid (BefT w)) :
    Calls Tryd.prog 6 #[.int .i64 a, .int .i64 b] w (YesB w) := by
  have nf47 : decide (a < 0) = false := decide_eq_false (by omega)
  have nf48 : decide (100000 < a) = false := decide_eq_false (by omega)
  have nf49 : decide (a < 99985) = false := decide_eq_false (by omega)
  have nf50 : decide (100000 < a) = false := decide_eq_false (by omega)
  go_enter Tryd.func6, Tryd.ntmps6
  go_wp2_with fail
  refine (sane_any w hB).mono ?_
  rintro e w1 ⟨rfl, hb⟩
  have HB1 := Lib.hid hb
  clear hb
  go_wp2_with fail
  refine (Month_any _ _ _ _ H1 _ (Lib.hid (hB.out.on HB1.out))).mono ?_
  rintro e w2 ⟨rfl, hb⟩
  have HB2 : Hid (Below w.heap.size w w2) := HB1.out.trans (hb.mono HB1.out.size)
  clear hb
  go_wp2_with fail
  refine (Date_any _ _ _ _ _ H2 _ (Lib.hid (hB.out.on HB2.out))).mono ?_
  rintro e w3 ⟨rfl, hb⟩
  have HB3 : Hid (Below w.heap.size w w3) := HB2.out.trans (hb.mono HB2.out.size)
  clear hb
  go_wp2_with fail
  refine (Month_any _ _ _ _ H4 _ (Lib.hid (hB.out.on HB3.out))).mono ?_
  rintro e w4 ⟨rfl, hb⟩
  have HB4 : Hid (Below w.heap.size w w4) := HB3.out.trans (hb.mono HB3.out.size)
  clear hb
  go_wp2_with fail
  go_ret
  exact ⟨by first | rfl | simp, HB4.out⟩
set_option maxHeartbeats 4000000 in
theorem months_top_lo (a b y mo : Int) (ha0 : 99985 ≤ a) (ha1 : a ≤ 100000) (fr to : Int) (hb : b < 99985) (hfr : fr ≤ 100000) (hto : to < 99985) (H1 : Hid (MonQ a 99985 100000 0)) (H2 : Hid (DateQ 99985 y mo 1 0)) (H4 : Hid (MonQ b fr to 0)) (w : World) (hB : Hid (BefT w)) :
    Calls Tryd.prog 6 #[.int .i64 a, .int .i64 b] w (YesB w) := by
  have nf51 : decide (a < 0) = false := decide_eq_false (by omega)
  have nf52 : decide (100000 < a) = false := decide_eq_false (by omega)
  have nf53 : decide (a < 99985) = false := decide_eq_false (by omega)
  have nf54 : decide (100000 < a) = false := decide_eq_false (by omega)
  have nf55 : decide (99985 ≤ b) = false := decide_eq_false (by omega)
  have nf56 : decide (100000 < fr) = false := decide_eq_false (by omega)
  go_enter Tryd.func6, Tryd.ntmps6
  go_wp2_with fail
  refine (sane_any w hB).mono ?_
  rintro e w1 ⟨rfl, hb⟩
  have HB1 := Lib.hid hb
  clear hb
  go_wp2_with fail
  refine (Month_any _ _ _ _ H1 _ (Lib.hid (hB.out.on HB1.out))).mono ?_
  rintro e w2 ⟨rfl, hb⟩
  have HB2 : Hid (Below w.heap.size w w2) := HB1.out.trans (hb.mono HB1.out.size)
  clear hb
  go_wp2_with fail
  refine (Date_any _ _ _ _ _ H2 _ (Lib.hid (hB.out.on HB2.out))).mono ?_
  rintro e w3 ⟨rfl, hb⟩
  have HB3 : Hid (Below w.heap.size w w3) := HB2.out.trans (hb.mono HB2.out.size)
  clear hb
  go_wp2_with fail
  refine (Month_any _ _ _ _ H4 _ (Lib.hid (hB.out.on HB3.out))).mono ?_
  rintro e w4 ⟨rfl, hb⟩
  have HB4 : Hid (Below w.heap.size w w4) := HB3.out.trans (hb.mono HB3.out.size)
  clear hb
  go_wp2_with fail
  go_ret
  exact ⟨by first | rfl | simp, HB4.out⟩
set_option maxHeartbeats 4000000 in
theorem months_top_hi (a b y mo : Int) (ha0 : 99985 ≤ a) (ha1 : a ≤ 100000) (fr to : Int) (hb : 100000 < b) (hfr : 100000 < fr) (H1 : Hid (MonQ a 99985 100000 0)) (H2 : Hid (DateQ 99985 y mo 1 0)) (H4 : Hid (MonQ b fr to 0)) (w : World) (hB : Hid (BefT w)) :
    Calls Tryd.prog 6 #[.int .i64 a, .int .i64 b] w (YesB w) := by
  have nf57 : decide (a < 0) = false := decide_eq_false (by omega)
  have nf58 : decide (100000 < a) = false := decide_eq_false (by omega)
  have nf59 : decide (a < 99985) = false := decide_eq_false (by omega)
  have nf60 : decide (100000 < a) = false := decide_eq_false (by omega)
  have hb9 : 99985 ≤ b := by omega
  have nf61 : decide (b ≤ 100000) = false := decide_eq_false (by omega)
  go_enter Tryd.func6, Tryd.ntmps6
  go_wp2_with fail
  refine (sane_any w hB).mono ?_
  rintro e w1 ⟨rfl, hb⟩
  have HB1 := Lib.hid hb
  clear hb
  go_wp2_with fail
  refine (Month_any _ _ _ _ H1 _ (Lib.hid (hB.out.on HB1.out))).mono ?_
  rintro e w2 ⟨rfl, hb⟩
  have HB2 : Hid (Below w.heap.size w w2) := HB1.out.trans (hb.mono HB1.out.size)
  clear hb
  go_wp2_with fail
  refine (Date_any _ _ _ _ _ H2 _ (Lib.hid (hB.out.on HB2.out))).mono ?_
  rintro e w3 ⟨rfl, hb⟩
  have HB3 : Hid (Below w.heap.size w w3) := HB2.out.trans (hb.mono HB2.out.size)
  clear hb
  go_wp2_with fail
  refine (Month_any _ _ _ _ H4 _ (Lib.hid (hB.out.on HB3.out))).mono ?_
  rintro e w4 ⟨rfl, hb⟩
  have HB4 : Hid (Below w.heap.size w w4) := HB3.out.trans (hb.mono HB3.out.size)
  clear hb
  go_wp2_with fail
  go_ret
  exact ⟨by first | rfl | simp, HB4.out⟩
theorem last_mid {m : Nat} (h : m < 3285) : lastP m = (stP (m + 1) : Int) - 1 ∧ (stP (m + 1) : Int) ≤ 99985 := by
  have := stP_up (a := m + 1) (b := 3285) (by omega) (by omega)
  rw [st_last] at this
  unfold lastP
  omega
theorem last_top : lastP 3285 = 100000 := by decide +kernel
theorem last_le {m : Nat} (h : m ≤ 3285) : (stP m : Int) ≤ lastP m ∧ lastP m ≤ (stP (m + 1) : Int) - 1 ∧ lastP m ≤ 100000 := by
  have h8 := steps_all (n := m) (by omega)
  have h9 := stP_up (a := m) (b := 3285) (by omega) (by omega)
  rw [st_last] at h9
  unfold lastP
  omega
theorem dateQ_first {m : Nat} (h : m ≤ 3285) : ∃ y mo, DateQ (stP m : Int) y mo 1 0 := by
  have h8 := steps_all (n := m) (by omega)
  have h9 := stP_up (a := m) (b := 3285) (by omega) (by omega)
  rw [st_last] at h9
  exact ⟨_, _, .inl ⟨stP m, m, rfl, ⟨⟨Nat.le_refl _, by omega, h⟩, by omega, rfl, rfl, by omega⟩, rfl⟩⟩
theorem monQ_next {m : Nat} (h : m < 3285) : ∃ t, MonQ (stP (m + 1) : Int) (stP (m + 1) : Int) t 0 := by
  have h8 := steps_all (n := m + 1) (by omega)
  have := (last_mid h).2
  exact ⟨_, .inl ⟨stP (m + 1), m + 1, rfl, by omega, ⟨Nat.le_refl _, by omega, by omega⟩, rfl, rfl, rfl⟩⟩
theorem mon_lo {a b m k : Nat} (h : Mon a m) (h2 : Mon b k) (hb : (b : Int) < (stP m : Int)) : (stP k : Int) ≤ lastP m ∧ lastP k < (stP m : Int) := by
  have h3 : k < m := by
    rcases Nat.lt_or_ge k m with hlt | hge
    · exact hlt
    · have := stP_up (a := m) (b := k) hge (by have := h2.le; omega)
      have := h2.lo
      omega
  have h4 := stP_up (a := k + 1) (b := m) (by omega) (by have := h.le; omega)
  have h5 := last_le h.le
  have h6 := last_le h2.le
  omega
theorem mon_hi {a b m k : Nat} (h : Mon a m) (h2 : Mon b k) (hle : b ≤ 100000) (hb : lastP m < (b : Int)) : lastP m < (stP k : Int) := by
  have h0 : lastP m = (stP (m + 1) : Int) - 1 := by unfold lastP at hb ⊢; omega
  have h3 : m < k := by
    rcases Nat.lt_or_ge m k with hlt | hge
    · exact hlt
    · have := stP_up (a := k + 1) (b := m + 1) (by omega) (by have := h.le; omega)
      have := h2.hi
      omega
  have h4 := stP_up (a := m + 1) (b := k) (by omega) (by have := h2.le; omega)
  omega
theorem mon_in {a b m k : Nat} (h : Mon a m) (h2 : Mon b k) (h3 : (stP m : Int) ≤ (b : Int)) (h4 : (b : Int) ≤ lastP m) : k = m := by
  have := last_le h.le
  exact mon_eq h2 ⟨by omega, by omega, h.le⟩
theorem months_walk (a b : Int) (w : World) (hB : Hid (BefT w)) :
    Calls Tryd.prog 6 #[.int .i64 a, .int .i64 b] w (YesB w) := by
  rcases day_or a with ha | ⟨da, rfl, hda⟩
  · have HA : MonQ a 0 0 3 := .inr ⟨ha, rfl, rfl, rfl⟩
    rcases ha with ha | ha
    · exact months_low _ _ ha (Lib.hid HA) w hB
    · exact months_high _ _ ha (Lib.hid HA) w hB
  · obtain ⟨m, hm⟩ := mon_ex hda
    obtain ⟨y, mo, HD⟩ := dateQ_first hm.le
    have HA : MonQ (da : Int) (stP m : Int) (lastP m) 0 := .inl ⟨da, m, rfl, hda, hm, rfl, rfl, rfl⟩
    have hL := last_le hm.le
    have h0 := hm.lo
    have h1 : (da : Int) ≤ lastP m := by have := hm.hi; unfold lastP; omega
    by_cases ht : m < 3285
    · obtain ⟨t, HN⟩ := monQ_next ht
      have h2 := last_mid ht
      have h8 := steps_all (n := m) (by omega)
      rw [show (stP (m + 1) : Int) = lastP m + 1 by omega] at HN
      have hs : 0 ≤ (stP m : Int) := by omega
      rcases day_or b with hb | ⟨db, rfl, hdb⟩
      · exact months_mid_no _ _ _ _ _ _ (by omega) h1 hs (by omega) (by omega) (by omega) t (Lib.hid HA) (Lib.hid HD) (Lib.hid HN) (Lib.hid (.inr ⟨hb, rfl, rfl, rfl⟩)) w hB
      · obtain ⟨k, hk⟩ := mon_ex hdb
        have HB : MonQ (db : Int) (stP k : Int) (lastP k) 0 := .inl ⟨db, k, rfl, hdb, hk, rfl, rfl, rfl⟩
        by_cases c1 : (db : Int) < (stP m : Int)
        · have := mon_lo hm hk c1
          exact months_mid_lo _ _ _ _ _ _ (by omega) h1 hs (by omega) (by omega) (by omega) t _ _ c1 this.1 this.2 (Lib.hid HA) (Lib.hid HD) (Lib.hid HN) (Lib.hid HB) w hB
        · by_cases c2 : (db : Int) ≤ lastP m
          · obtain rfl := mon_in hm hk (by omega) c2
            exact months_mid_in _ _ _ _ _ _ (by omega) h1 hs (by omega) (by omega) (by omega) t (by omega) c2 (Lib.hid HA) (Lib.hid HD) (Lib.hid HN) (Lib.hid HB) w hB
          · have := mon_hi hm hk hdb (by omega)
            exact months_mid_hi _ _ _ _ _ _ (by omega) h1 hs (by omega) (by omega) (by omega) t _ _ (by omega) this (Lib.hid HA) (Lib.hid HD) (Lib.hid HN) (Lib.hid HB) w hB
    · obtain rfl : m = 3285 := by have := hm.le; omega
      rw [last_top] at HA h1 hL
      rw [st_last] at HA HD h0 hL
      rcases day_or b with hb | ⟨db, rfl, hdb⟩
      · exact months_top_no _ _ _ _ (by omega) h1 (Lib.hid HA) (Lib.hid HD) (Lib.hid (.inr ⟨hb, rfl, rfl, rfl⟩)) w hB
      · obtain ⟨k, hk⟩ := mon_ex hdb
        have HB : MonQ (db : Int) (stP k : Int) (lastP k) 0 := .inl ⟨db, k, rfl, hdb, hk, rfl, rfl, rfl⟩
        by_cases c1 : (db : Int) < 99985
        · have := mon_lo hm hk (by rw [st_last]; exact c1)
          rw [last_top, st_last] at this
          exact months_top_lo _ _ _ _ (by omega) h1 _ _ c1 this.1 this.2 (Lib.hid HA) (Lib.hid HD) (Lib.hid HB) w hB
        · obtain rfl := mon_in hm hk (by rw [st_last]; omega) (by rw [last_top]; omega)
          rw [last_top, st_last] at HB
          exact months_top_in _ _ _ _ (by omega) h1 (by omega) (by omega) (Lib.hid HA) (Lib.hid HD) (Lib.hid HB) w hB
end Go.Proofs.YtmaapbifkimdcaaDoor
