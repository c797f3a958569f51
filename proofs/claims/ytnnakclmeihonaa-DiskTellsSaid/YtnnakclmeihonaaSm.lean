/- small: it returns true; nothing older has turned. No condition. -/
import Derived.Test.YtnnakclmeihonaaDx
namespace Go.Proofs.Ytnnakclmeihonaa
open Go.RowKit Go.ChangeMaps

set_option maxRecDepth 8000 in
set_option maxHeartbeats 2000000 in
theorem small_any (w : World) : Calls Try.prog 8 #[] w fun e w' => e = .returned (.bool true) ∧ Below w.heap.size w w' := by
  have i0 : I64 0 := by unfold I64; omega
  have i1 : I64 1 := by unfold I64; omega
  have q1 := bStr_toList [97, 88, 89]
  have q2 := bStr_toList [98, 99]
  have q3 := bStr_toList [0, 0, 0, 0, 99, 100]
  go_enter Try.func8, Try.ntmps8
  go_wp2_with fail
  refine (x_new (Below.refl _ _)).mono ?_
  rintro e w1 ⟨b, o1, rfl, h1, -, -⟩
  have H1 := Lib.hid h1
  clear h1
  go_wp2_with fail
  refine (x_write H1.out (t := ⟨#[97, 98, 99]⟩) (by decide) (s' := m1) rfl e_a).mono ?_
  rintro e w2 ⟨o2, rfl, h2, -⟩
  have H2 := Lib.hid h2
  clear h2 H1
  go_wp2_with fail
  refine (x_sync H2.out (s' := m2) rfl e_b).mono ?_
  rintro e w3 ⟨o3, rfl, h3, -⟩
  have H3 := Lib.hid h3
  clear h3 H2
  go_wp2_with fail
  refine (x_write H3.out (t := ⟨#[88, 89]⟩) (by decide) (s' := m3) rfl e_c).mono ?_
  rintro e w4 ⟨o4, rfl, h4, -⟩
  have H4 := Lib.hid h4
  clear h4 H3
  go_wp2_with fail
  refine (x_copy H4.out).mono ?_
  rintro e w5 ⟨c, oc, rfl, hc, hb5, hn5⟩
  obtain ⟨h5, ap5⟩ := H4.out.past hb5 hn5
  have H5 := Lib.hid h5
  have C5 := Lib.hid hc
  have AP5 := Lib.hid ap5
  clear h5 hc ap5 hb5 hn5 H4
  go_wp2_with fail
  -- the first disk crashes, and is read
  refine (x_crash (H5.out.alloc (.cells #[.int .i64 1] 3)) (Nums.new H5.out [1] (by decide)) (s' := m4) rfl).mono ?_
  rintro e w6 ⟨o6, rfl, h6, t6⟩
  obtain ⟨q6, ap6⟩ := (C5.out.alloc (.cells #[.int .i64 1] 3)).other AP5.out h6 t6
  have H6 := Lib.hid h6
  have C6 := Lib.hid q6
  have AP6 := Lib.hid ap6
  clear h6 q6 ap6 t6 H5 C5 AP5
  go_wp2_with fail
  refine (x_down H6.out e_down).mono ?_
  rintro e w' ⟨rfl, rfl⟩
  go_wp2_with fail
  refine (x_read H6.out i0 e_r1).mono ?_
  rintro e w' ⟨rfl, rfl⟩
  go_wp2_with fail
  refine (x_start H6.out).mono ?_
  rintro e w7 ⟨o7, rfl, h7, t7⟩
  obtain ⟨q7, -⟩ := C6.out.other AP6.out h7 t7
  have H7 := Lib.hid (show Dx w w7 o7 b m5 from h7)
  have C7 := Lib.hid q7
  clear h7 q7 t7 H6 C6 AP6
  go_wp2_with fail
  refine (x_read H7.out i0 e_r2).mono ?_
  rintro e w' ⟨rfl, rfl⟩
  clear H7
  -- the copy
  go_wp2_with fail
  refine (x_crash (C7.out.alloc (.cells #[.int .i64 0] 3)) (Nums.new C7.out [0] (by decide)) (s' := c4) rfl).mono ?_
  rintro e w8 ⟨o8, rfl, h8, -⟩
  have C8 := Lib.hid h8
  clear h8 C7
  go_wp2_with fail
  refine (x_start C8.out).mono ?_
  rintro e w9 ⟨o9, rfl, h9, -⟩
  have C9 := Lib.hid (show Dx w w9 o9 c c5 from h9)
  clear h9 C8
  go_wp2_with fail
  refine (x_read C9.out i0 e_r3).mono ?_
  rintro e w' ⟨rfl, rfl⟩
  go_wp2_with fail
  refine (x_write C9.out (t := ⟨#[97, 98, 99, 100]⟩) (by decide) (s' := c6) rfl e_h).mono ?_
  rintro e w10 ⟨o10, rfl, h10, -⟩
  have C10 := Lib.hid h10
  clear h10 C9
  go_wp2_with fail
  refine (x_crash (C10.out.alloc (.cells #[.int .i64 0, .int .i64 1] 3)) (Nums.new C10.out [0, 1] (by decide)) (s' := c7) rfl).mono ?_
  rintro e w11 ⟨o11, rfl, h11, -⟩
  have C11 := Lib.hid h11
  clear h11 C10
  go_wp2_with fail
  refine (x_start C11.out).mono ?_
  rintro e w12 ⟨o12, rfl, h12, -⟩
  have C12 := Lib.hid (show Dx w w12 o12 c c8 from h12)
  clear h12 C11
  go_wp2_with fail
  refine (x_read C12.out i1 e_r4).mono ?_
  rintro e w' ⟨rfl, rfl⟩
  go_wp2_with fail
  refine (x_size C12.out i1 e_size).mono ?_
  rintro e w' ⟨rfl, rfl⟩
  go_wp2_with fail
  refine (x_write C12.out (t := ⟨#[]⟩) (by decide) (s' := c9) rfl e_w1).mono ?_
  rintro e w13 ⟨o13, rfl, h13, -⟩
  have C13 := Lib.hid h13
  clear h13 C12
  go_wp2_with fail
  refine (x_write C13.out (t := ⟨#[97]⟩) (by decide) (s' := _) rfl e_w2).mono ?_
  rintro e w14 ⟨o14, rfl, h14, -⟩
  have HE := Lib.hid h14.below
  clear h14 C13
  go_wp2_with fail
  go_ret
  exact ⟨rfl, HE.out⟩

end Go.Proofs.Ytnnakclmeihonaa
