/- The walk of the law BigOrder. Conditions: the arguments' memory, the tables of math/bits and strconv. -/
import Derived.Test.YtnadnobpejccpaaDoorD8
import Derived.Deep.DeepCutAuto
namespace Go.Proofs.YtnadnobpejccpaaDoor
set_option maxRecDepth 8000
open Go.RowKit
theorem ordZ_lo (x y : Int) : -1 ≤ ordZ x y := by unfold ordZ; split <;> (try split) <;> omega
theorem ordZ_hi (x y : Int) : ordZ x y ≤ 1 := by unfold ordZ; split <;> (try split) <;> omega
theorem ordZ_is {x y N : Int} (h : ordZ x y = N) : (N = -1 ∧ x < y) ∨ (N = 0 ∧ x = y) ∨ (N = 1 ∧ y < x) := by
  unfold ordZ at h
  split at h
  · omega
  · split at h <;> omega
theorem ordZ_to {x y N : Int} (h : (N = -1 ∧ x < y) ∨ (N = 0 ∧ x = y) ∨ (N = 1 ∧ y < x)) : ordZ x y = N := by
  have h2 := ordZ_is (rfl : ordZ x y = ordZ x y)
  omega
theorem ordZ_sign {x y N s : Int} (h : ordZ x y = N) (hs : (s = 1 ∧ 0 < x - y) ∨ (s = -1 ∧ x - y < 0) ∨ (s = 0 ∧ x - y = 0)) : N = s := by
  have := ordZ_is h
  omega
theorem ordZ_eq {x y N : Int} (h : ordZ x y = N) : decide (x = y) = (N == 0) := by
  have h2 := ordZ_is h
  by_cases e : x = y
  · rw [decide_eq_true e]
    have : N = 0 := by omega
    rw [this]
    rfl
  · rw [decide_eq_false e]
    symm
    rw [beq_eq_false_iff_ne]
    omega
theorem ordZ_swap {x y N : Int} (h : ordZ x y = N) : ordZ y x = -N := ordZ_to (by have := ordZ_is h; omega)
theorem ordZ_add {x y N : Int} (h : ordZ x y = N) (z : Int) : ordZ (x + z) (y + z) = N := ordZ_to (by have := ordZ_is h; omega)
theorem ordZ_mul {x y N s z : Int} (h : ordZ x y = N) (hs : (s = 1 ∧ 0 < z) ∨ (s = -1 ∧ z < 0) ∨ (s = 0 ∧ z = 0)) : ordZ (x * z) (y * z) = N * s := by
  apply ordZ_to
  have h2 := ordZ_is h
  rcases hs with ⟨rfl, hz⟩ | ⟨rfl, hz⟩ | ⟨rfl, rfl⟩
  · rcases h2 with ⟨rfl, h3⟩ | ⟨rfl, h3⟩ | ⟨rfl, h3⟩
    · exact .inl ⟨rfl, Int.mul_lt_mul_of_pos_right h3 hz⟩
    · exact .inr (.inl ⟨rfl, by rw [h3]⟩)
    · exact .inr (.inr ⟨rfl, Int.mul_lt_mul_of_pos_right h3 hz⟩)
  · rcases h2 with ⟨rfl, h3⟩ | ⟨rfl, h3⟩ | ⟨rfl, h3⟩
    · exact .inr (.inr ⟨rfl, Int.mul_lt_mul_of_neg_right h3 hz⟩)
    · exact .inr (.inl ⟨rfl, by rw [h3]⟩)
    · exact .inl ⟨rfl, Int.mul_lt_mul_of_neg_right h3 hz⟩
  · exact .inr (.inl ⟨by omega, by rw [Int.mul_zero, Int.mul_zero]⟩)
theorem ordZ_trans {x y z N : Int} (h : ordZ x y = N) (h1 : ¬ 0 < N) (h2 : ¬ 0 < ordZ y z) : ordZ x z ≤ 0 := by
  have a := ordZ_is h
  have b := ordZ_is (rfl : ordZ y z = ordZ y z)
  have c := ordZ_is (rfl : ordZ x z = ordZ x z)
  omega
set_option maxRecDepth 100000 in
set_option maxHeartbeats 4000000 in
theorem order_e0 (s1a : Int) (A1a : Option Addr) (n1a c1a : Nat) (l1a : List Int) (s2a : Int) (A2a : Option Addr) (n2a c2a : Nat) (l2a : List Int) (s3a : Int) (A3a : Option Addr) (n3a c3a : Nat) (l3a : List Int) (w : World) (ha1 : BigArg w ⟨s1a, A1a, n1a, c1a⟩ l1a) (ha2 : BigArg w ⟨s2a, A2a, n2a, c2a⟩ l2a) (ha3 : BigArg w ⟨s3a, A3a, n3a, c3a⟩ l3a) (hT : Tab w) (hZ : TabZ w)  (t0 : (25 : Int) < (n1a : Int)) :
    Calls Tryd.prog 4 #[.agg #[.int .i64 s1a, .slice A1a n1a c1a], .agg #[.int .i64 s2a, .slice A2a n2a c2a], .agg #[.int .i64 s3a, .slice A3a n3a c3a]] w fun e w' => e = .returned (.bool true) ∧ Below w.heap.size w w' := by
  have HR0 := Lib.hid t0
  clear t0
  have HT := Lib.hid hT
  have HZ := Lib.hid hZ
  have HA1 := Lib.hid ha1
  have HA2 := Lib.hid ha2
  have HA3 := Lib.hid ha3
  clear hT hZ ha1 ha2 ha3
  have K := Lib.hid (show BxA w _ [⟨s1a, A1a, n1a, c1a⟩, ⟨s2a, A2a, n2a, c2a⟩, ⟨s3a, A3a, n3a, c3a⟩] from ((((BxA.new w).box (by simp) ⟨s1a, A1a, n1a, c1a⟩).box (by simp) ⟨s2a, A2a, n2a, c2a⟩).box (by simp) ⟨s3a, A3a, n3a, c3a⟩))
  go_enter Tryd.func4, Tryd.ntmps4
  go_wp2_with fail
  refine (small_any _ (HT.out.on K.out.bl) (HZ.out.on K.out.bl)).mono ?_
  rintro e wa0 ⟨rfl, hb⟩
  have K0 := Lib.hid (K.out.call hb)
  clear hb K
  have zb := K0.out.bx 0 _ rfl
  have z0 := zb.c0
  have z1 := zb.c1
  clear zb
  simp only [Nat.add_zero] at z0 z1
  go_wp2_with fail
  refine (few_F _ HR0.out).mono ?_
  rintro e wa1 ⟨rfl, hb⟩
  have K1 := Lib.hid (K0.out.call hb)
  clear hb z0 z1 K0
  go_wp2_with fail
  go_ret
  exact ⟨rfl, K1.out.bl⟩
set_option maxRecDepth 100000 in
set_option maxHeartbeats 4000000 in
theorem order_e1 (s1a : Int) (A1a : Option Addr) (n1a c1a : Nat) (l1a : List Int) (s2a : Int) (A2a : Option Addr) (n2a c2a : Nat) (l2a : List Int) (s3a : Int) (A3a : Option Addr) (n3a c3a : Nat) (l3a : List Int) (w : World) (ha1 : BigArg w ⟨s1a, A1a, n1a, c1a⟩ l1a) (ha2 : BigArg w ⟨s2a, A2a, n2a, c2a⟩ l2a) (ha3 : BigArg w ⟨s3a, A3a, n3a, c3a⟩ l3a) (hT : Tab w) (hZ : TabZ w) (t0 : (n1a : Int) ≤ 25) (t1 : (25 : Int) < (n2a : Int)) :
    Calls Tryd.prog 4 #[.agg #[.int .i64 s1a, .slice A1a n1a c1a], .agg #[.int .i64 s2a, .slice A2a n2a c2a], .agg #[.int .i64 s3a, .slice A3a n3a c3a]] w fun e w' => e = .returned (.bool true) ∧ Below w.heap.size w w' := by
  have HR1 := Lib.hid t1
  clear t1
  have HT := Lib.hid hT
  have HZ := Lib.hid hZ
  have HA1 := Lib.hid ha1
  have HA2 := Lib.hid ha2
  have HA3 := Lib.hid ha3
  clear hT hZ ha1 ha2 ha3
  have K := Lib.hid (show BxA w _ [⟨s1a, A1a, n1a, c1a⟩, ⟨s2a, A2a, n2a, c2a⟩, ⟨s3a, A3a, n3a, c3a⟩] from ((((BxA.new w).box (by simp) ⟨s1a, A1a, n1a, c1a⟩).box (by simp) ⟨s2a, A2a, n2a, c2a⟩).box (by simp) ⟨s3a, A3a, n3a, c3a⟩))
  go_enter Tryd.func4, Tryd.ntmps4
  go_wp2_with fail
  refine (small_any _ (HT.out.on K.out.bl) (HZ.out.on K.out.bl)).mono ?_
  rintro e wa0 ⟨rfl, hb⟩
  have K0 := Lib.hid (K.out.call hb)
  clear hb K
  have zb := K0.out.bx 0 _ rfl
  have z0 := zb.c0
  have z1 := zb.c1
  clear zb
  simp only [Nat.add_zero] at z0 z1
  go_wp2_with fail
  refine (few_T _ t0).mono ?_
  rintro e wa1 ⟨rfl, hb⟩
  have K1 := Lib.hid (K0.out.call hb)
  clear hb z0 z1 K0
  have zb := K1.out.bx 1 _ rfl
  have z0 := zb.c0
  have z1 := zb.c1
  clear zb
  go_wp2_with fail
  refine (few_F _ HR1.out).mono ?_
  rintro e wa2 ⟨rfl, hb⟩
  have K2 := Lib.hid (K1.out.call hb)
  clear hb z0 z1 K1
  go_wp2_with fail
  go_ret
  exact ⟨rfl, K2.out.bl⟩
set_option maxRecDepth 100000 in
set_option maxHeartbeats 4000000 in
theorem order_e2 (s1a : Int) (A1a : Option Addr) (n1a c1a : Nat) (l1a : List Int) (s2a : Int) (A2a : Option Addr) (n2a c2a : Nat) (l2a : List Int) (s3a : Int) (A3a : Option Addr) (n3a c3a : Nat) (l3a : List Int) (w : World) (ha1 : BigArg w ⟨s1a, A1a, n1a, c1a⟩ l1a) (ha2 : BigArg w ⟨s2a, A2a, n2a, c2a⟩ l2a) (ha3 : BigArg w ⟨s3a, A3a, n3a, c3a⟩ l3a) (hT : Tab w) (hZ : TabZ w) (t0 : (n1a : Int) ≤ 25) (t1 : (n2a : Int) ≤ 25) (t2 : (25 : Int) < (n3a : Int)) :
    Calls Tryd.prog 4 #[.agg #[.int .i64 s1a, .slice A1a n1a c1a], .agg #[.int .i64 s2a, .slice A2a n2a c2a], .agg #[.int .i64 s3a, .slice A3a n3a c3a]] w fun e w' => e = .returned (.bool true) ∧ Below w.heap.size w w' := by
  have HR2 := Lib.hid t2
  clear t2
  have HT := Lib.hid hT
  have HZ := Lib.hid hZ
  have HA1 := Lib.hid ha1
  have HA2 := Lib.hid ha2
  have HA3 := Lib.hid ha3
  clear hT hZ ha1 ha2 ha3
  have K := Lib.hid (show BxA w _ [⟨s1a, A1a, n1a, c1a⟩, ⟨s2a, A2a, n2a, c2a⟩, ⟨s3a, A3a, n3a, c3a⟩] from ((((BxA.new w).box (by simp) ⟨s1a, A1a, n1a, c1a⟩).box (by simp) ⟨s2a, A2a, n2a, c2a⟩).box (by simp) ⟨s3a, A3a, n3a, c3a⟩))
  go_enter Tryd.func4, Tryd.ntmps4
  go_wp2_with fail
  refine (small_any _ (HT.out.on K.out.bl) (HZ.out.on K.out.bl)).mono ?_
  rintro e wa0 ⟨rfl, hb⟩
  have K0 := Lib.hid (K.out.call hb)
  clear hb K
  have zb := K0.out.bx 0 _ rfl
  have z0 := zb.c0
  have z1 := zb.c1
  clear zb
  simp only [Nat.add_zero] at z0 z1
  go_wp2_with fail
  refine (few_T _ t0).mono ?_
  rintro e wa1 ⟨rfl, hb⟩
  have K1 := Lib.hid (K0.out.call hb)
  clear hb z0 z1 K0
  have zb := K1.out.bx 1 _ rfl
  have z0 := zb.c0
  have z1 := zb.c1
  clear zb
  go_wp2_with fail
  refine (few_T _ t1).mono ?_
  rintro e wa2 ⟨rfl, hb⟩
  have K2 := Lib.hid (K1.out.call hb)
  clear hb z0 z1 K1
  have zb := K2.out.bx 2 _ rfl
  have z0 := zb.c0
  have z1 := zb.c1
  clear zb
  rw [show w.heap.size + 2 = w.heap.size + 1 + 1 from rfl] at z0 z1
  go_wp2_with fail
  refine (few_F _ HR2.out).mono ?_
  rintro e wa3 ⟨rfl, hb⟩
  have K3 := Lib.hid (K2.out.call hb)
  clear hb z0 z1 K2
  go_wp2_with fail
  go_ret
  exact ⟨rfl, K3.out.bl⟩
set_option maxRecDepth 100000 in
set_option maxHeartbeats 4000000 in
theorem order_e3 (s1a : Int) (A1a : Option Addr) (n1a c1a : Nat) (l1a : List Int) (s2a : Int) (A2a : Option Addr) (n2a c2a : Nat) (l2a : List Int) (s3a : Int) (A3a : Option Addr) (n3a c3a : Nat) (l3a : List Int) (w : World) (ha1 : BigArg w ⟨s1a, A1a, n1a, c1a⟩ l1a) (ha2 : BigArg w ⟨s2a, A2a, n2a, c2a⟩ l2a) (ha3 : BigArg w ⟨s3a, A3a, n3a, c3a⟩ l3a) (hT : Tab w) (hZ : TabZ w) (t0 : (n1a : Int) ≤ 25) (t1 : (n2a : Int) ≤ 25) (t2 : (n3a : Int) ≤ 25) (t3 : rightB s1a l1a = false) :
    Calls Tryd.prog 4 #[.agg #[.int .i64 s1a, .slice A1a n1a c1a], .agg #[.int .i64 s2a, .slice A2a n2a c2a], .agg #[.int .i64 s3a, .slice A3a n3a c3a]] w fun e w' => e = .returned (.bool true) ∧ Below w.heap.size w w' := by
  have HR3 := Lib.hid t3
  clear t3
  have HT := Lib.hid hT
  have HZ := Lib.hid hZ
  have HA1 := Lib.hid ha1
  have HA2 := Lib.hid ha2
  have HA3 := Lib.hid ha3
  clear hT hZ ha1 ha2 ha3
  have K := Lib.hid (show BxA w _ [⟨s1a, A1a, n1a, c1a⟩, ⟨s2a, A2a, n2a, c2a⟩, ⟨s3a, A3a, n3a, c3a⟩] from ((((BxA.new w).box (by simp) ⟨s1a, A1a, n1a, c1a⟩).box (by simp) ⟨s2a, A2a, n2a, c2a⟩).box (by simp) ⟨s3a, A3a, n3a, c3a⟩))
  go_enter Tryd.func4, Tryd.ntmps4
  go_wp2_with fail
  refine (small_any _ (HT.out.on K.out.bl) (HZ.out.on K.out.bl)).mono ?_
  rintro e wa0 ⟨rfl, hb⟩
  have K0 := Lib.hid (K.out.call hb)
  clear hb K
  have zb := K0.out.bx 0 _ rfl
  have z0 := zb.c0
  have z1 := zb.c1
  clear zb
  simp only [Nat.add_zero] at z0 z1
  go_wp2_with fail
  refine (few_T _ t0).mono ?_
  rintro e wa1 ⟨rfl, hb⟩
  have K1 := Lib.hid (K0.out.call hb)
  clear hb z0 z1 K0
  have zb := K1.out.bx 1 _ rfl
  have z0 := zb.c0
  have z1 := zb.c1
  clear zb
  go_wp2_with fail
  refine (few_T _ t1).mono ?_
  rintro e wa2 ⟨rfl, hb⟩
  have K2 := Lib.hid (K1.out.call hb)
  clear hb z0 z1 K1
  have zb := K2.out.bx 2 _ rfl
  have z0 := zb.c0
  have z1 := zb.c1
  clear zb
  rw [show w.heap.size + 2 = w.heap.size + 1 + 1 from rfl] at z0 z1
  go_wp2_with fail
  refine (few_T _ t2).mono ?_
  rintro e wa3 ⟨rfl, hb⟩
  have K3 := Lib.hid (K2.out.call hb)
  clear hb z0 z1 K2
  have zb := K3.out.bx 0 _ rfl
  have z0 := zb.c0
  have z1 := zb.c1
  clear zb
  simp only [Nat.add_zero] at z0 z1
  go_wp2_with fail
  refine (right_is HA1.out (by dsimp only; omega) K3.out.bl HR3.out).mono ?_
  rintro e wa4 ⟨rfl, hb⟩
  have K4 := Lib.hid (K3.out.call hb)
  clear hb z0 z1 K3
  go_wp2_with fail
  go_ret
  exact ⟨rfl, K4.out.bl⟩
set_option maxRecDepth 100000 in
set_option maxHeartbeats 4000000 in
theorem order_e4 (s1a : Int) (A1a : Option Addr) (n1a c1a : Nat) (l1a : List Int) (s2a : Int) (A2a : Option Addr) (n2a c2a : Nat) (l2a : List Int) (s3a : Int) (A3a : Option Addr) (n3a c3a : Nat) (l3a : List Int) (w : World) (ha1 : BigArg w ⟨s1a, A1a, n1a, c1a⟩ l1a) (ha2 : BigArg w ⟨s2a, A2a, n2a, c2a⟩ l2a) (ha3 : BigArg w ⟨s3a, A3a, n3a, c3a⟩ l3a) (hT : Tab w) (hZ : TabZ w) (t0 : (n1a : Int) ≤ 25) (t1 : (n2a : Int) ≤ 25) (t2 : (n3a : Int) ≤ 25) (t3 : rightB s1a l1a = true) (t4 : rightB s2a l2a = false) :
    Calls Tryd.prog 4 #[.agg #[.int .i64 s1a, .slice A1a n1a c1a], .agg #[.int .i64 s2a, .slice A2a n2a c2a], .agg #[.int .i64 s3a, .slice A3a n3a c3a]] w fun e w' => e = .returned (.bool true) ∧ Below w.heap.size w w' := by
  have HR3 := Lib.hid t3
  clear t3
  have HR4 := Lib.hid t4
  clear t4
  have HT := Lib.hid hT
  have HZ := Lib.hid hZ
  have HA1 := Lib.hid ha1
  have HA2 := Lib.hid ha2
  have HA3 := Lib.hid ha3
  clear hT hZ ha1 ha2 ha3
  have K := Lib.hid (show BxA w _ [⟨s1a, A1a, n1a, c1a⟩, ⟨s2a, A2a, n2a, c2a⟩, ⟨s3a, A3a, n3a, c3a⟩] from ((((BxA.new w).box (by simp) ⟨s1a, A1a, n1a, c1a⟩).box (by simp) ⟨s2a, A2a, n2a, c2a⟩).box (by simp) ⟨s3a, A3a, n3a, c3a⟩))
  go_enter Tryd.func4, Tryd.ntmps4
  go_wp2_with fail
  refine (small_any _ (HT.out.on K.out.bl) (HZ.out.on K.out.bl)).mono ?_
  rintro e wa0 ⟨rfl, hb⟩
  have K0 := Lib.hid (K.out.call hb)
  clear hb K
  have zb := K0.out.bx 0 _ rfl
  have z0 := zb.c0
  have z1 := zb.c1
  clear zb
  simp only [Nat.add_zero] at z0 z1
  go_wp2_with fail
  refine (few_T _ t0).mono ?_
  rintro e wa1 ⟨rfl, hb⟩
  have K1 := Lib.hid (K0.out.call hb)
  clear hb z0 z1 K0
  have zb := K1.out.bx 1 _ rfl
  have z0 := zb.c0
  have z1 := zb.c1
  clear zb
  go_wp2_with fail
  refine (few_T _ t1).mono ?_
  rintro e wa2 ⟨rfl, hb⟩
  have K2 := Lib.hid (K1.out.call hb)
  clear hb z0 z1 K1
  have zb := K2.out.bx 2 _ rfl
  have z0 := zb.c0
  have z1 := zb.c1
  clear zb
  rw [show w.heap.size + 2 = w.heap.size + 1 + 1 from rfl] at z0 z1
  go_wp2_with fail
  refine (few_T _ t2).mono ?_
  rintro e wa3 ⟨rfl, hb⟩
  have K3 := Lib.hid (K2.out.call hb)
  clear hb z0 z1 K2
  have zb := K3.out.bx 0 _ rfl
  have z0 := zb.c0
  have z1 := zb.c1
  clear zb
  simp only [Nat.add_zero] at z0 z1
  go_wp2_with fail
  refine (right_is HA1.out (by dsimp only; omega) K3.out.bl HR3.out).mono ?_
  rintro e wa4 ⟨rfl, hb⟩
  have K4 := Lib.hid (K3.out.call hb)
  clear hb z0 z1 K3
  have zb := K4.out.bx 1 _ rfl
  have z0 := zb.c0
  have z1 := zb.c1
  clear zb
  go_wp2_with fail
  refine (right_is HA2.out (by dsimp only; omega) K4.out.bl HR4.out).mono ?_
  rintro e wa5 ⟨rfl, hb⟩
  have K5 := Lib.hid (K4.out.call hb)
  clear hb z0 z1 K4
  go_wp2_with fail
  go_ret
  exact ⟨rfl, K5.out.bl⟩
set_option maxRecDepth 100000 in
set_option maxHeartbeats 4000000 in
theorem order_e5 (s1a : Int) (A1a : Option Addr) (n1a c1a : Nat) (l1a : List Int) (s2a : Int) (A2a : Option Addr) (n2a c2a : Nat) (l2a : List Int) (s3a : Int) (A3a : Option Addr) (n3a c3a : Nat) (l3a : List Int) (w : World) (ha1 : BigArg w ⟨s1a, A1a, n1a, c1a⟩ l1a) (ha2 : BigArg w ⟨s2a, A2a, n2a, c2a⟩ l2a) (ha3 : BigArg w ⟨s3a, A3a, n3a, c3a⟩ l3a) (hT : Tab w) (hZ : TabZ w) (t0 : (n1a : Int) ≤ 25) (t1 : (n2a : Int) ≤ 25) (t2 : (n3a : Int) ≤ 25) (t3 : rightB s1a l1a = true) (t4 : rightB s2a l2a = true) (t5 : rightB s3a l3a = false) :
    Calls Tryd.prog 4 #[.agg #[.int .i64 s1a, .slice A1a n1a c1a], .agg #[.int .i64 s2a, .slice A2a n2a c2a], .agg #[.int .i64 s3a, .slice A3a n3a c3a]] w fun e w' => e = .returned (.bool true) ∧ Below w.heap.size w w' := by
  have HR3 := Lib.hid t3
  clear t3
  have HR4 := Lib.hid t4
  clear t4
  have HR5 := Lib.hid t5
  clear t5
  have HT := Lib.hid hT
  have HZ := Lib.hid hZ
  have HA1 := Lib.hid ha1
  have HA2 := Lib.hid ha2
  have HA3 := Lib.hid ha3
  clear hT hZ ha1 ha2 ha3
  have K := Lib.hid (show BxA w _ [⟨s1a, A1a, n1a, c1a⟩, ⟨s2a, A2a, n2a, c2a⟩, ⟨s3a, A3a, n3a, c3a⟩] from ((((BxA.new w).box (by simp) ⟨s1a, A1a, n1a, c1a⟩).box (by simp) ⟨s2a, A2a, n2a, c2a⟩).box (by simp) ⟨s3a, A3a, n3a, c3a⟩))
  go_enter Tryd.func4, Tryd.ntmps4
  go_wp2_with fail
  refine (small_any _ (HT.out.on K.out.bl) (HZ.out.on K.out.bl)).mono ?_
  rintro e wa0 ⟨rfl, hb⟩
  have K0 := Lib.hid (K.out.call hb)
  clear hb K
  have zb := K0.out.bx 0 _ rfl
  have z0 := zb.c0
  have z1 := zb.c1
  clear zb
  simp only [Nat.add_zero] at z0 z1
  go_wp2_with fail
  refine (few_T _ t0).mono ?_
  rintro e wa1 ⟨rfl, hb⟩
  have K1 := Lib.hid (K0.out.call hb)
  clear hb z0 z1 K0
  have zb := K1.out.bx 1 _ rfl
  have z0 := zb.c0
  have z1 := zb.c1
  clear zb
  go_wp2_with fail
  refine (few_T _ t1).mono ?_
  rintro e wa2 ⟨rfl, hb⟩
  have K2 := Lib.hid (K1.out.call hb)
  clear hb z0 z1 K1
  have zb := K2.out.bx 2 _ rfl
  have z0 := zb.c0
  have z1 := zb.c1
  clear zb
  rw [show w.heap.size + 2 = w.heap.size + 1 + 1 from rfl] at z0 z1
  go_wp2_with fail
  refine (few_T _ t2).mono ?_
  rintro e wa3 ⟨rfl, hb⟩
  have K3 := Lib.hid (K2.out.call hb)
  clear hb z0 z1 K2
  have zb := K3.out.bx 0 _ rfl
  have z0 := zb.c0
  have z1 := zb.c1
  clear zb
  simp only [Nat.add_zero] at z0 z1
  go_wp2_with fail
  refine (right_is HA1.out (by dsimp only; omega) K3.out.bl HR3.out).mono ?_
  rintro e wa4 ⟨rfl, hb⟩
  have K4 := Lib.hid (K3.out.call hb)
  clear hb z0 z1 K3
  have zb := K4.out.bx 1 _ rfl
  have z0 := zb.c0
  have z1 := zb.c1
  clear zb
  go_wp2_with fail
  refine (right_is HA2.out (by dsimp only; omega) K4.out.bl HR4.out).mono ?_
  rintro e wa5 ⟨rfl, hb⟩
  have K5 := Lib.hid (K4.out.call hb)
  clear hb z0 z1 K4
  have zb := K5.out.bx 2 _ rfl
  have z0 := zb.c0
  have z1 := zb.c1
  clear zb
  rw [show w.heap.size + 2 = w.heap.size + 1 + 1 from rfl] at z0 z1
  go_wp2_with fail
  refine (right_is HA3.out (by dsimp only; omega) K5.out.bl HR5.out).mono ?_
  rintro e wa6 ⟨rfl, hb⟩
  have K6 := Lib.hid (K5.out.call hb)
  clear hb z0 z1 K5
  go_wp2_with fail
  go_ret
  exact ⟨rfl, K6.out.bl⟩
set_option maxRecDepth 100000 in
set_option maxHeartbeats 8000000 in
theorem order_main (s1a : Int) (A1a : Option Addr) (n1a c1a : Nat) (l1a : List Int) (s2a : Int) (A2a : Option Addr) (n2a c2a : Nat) (l2a : List Int) (s3a : Int) (A3a : Option Addr) (n3a c3a : Nat) (l3a : List Int) (w : World) (ha1 : BigArg w ⟨s1a, A1a, n1a, c1a⟩ l1a) (ha2 : BigArg w ⟨s2a, A2a, n2a, c2a⟩ l2a) (ha3 : BigArg w ⟨s3a, A3a, n3a, c3a⟩ l3a) (hT : Tab w) (hZ : TabZ w) (t0 : (n1a : Int) ≤ 25) (t1 : (n2a : Int) ≤ 25) (t2 : (n3a : Int) ≤ 25) (t3 : rightB s1a l1a = true) (t4 : rightB s2a l2a = true) (t5 : rightB s3a l3a = true) :
    Calls Tryd.prog 4 #[.agg #[.int .i64 s1a, .slice A1a n1a c1a], .agg #[.int .i64 s2a, .slice A2a n2a c2a], .agg #[.int .i64 s3a, .slice A3a n3a c3a]] w fun e w' => e = .returned (.bool true) ∧ Below w.heap.size w w' := by
  obtain ⟨x1, hx1⟩ := ha1.bg t3 (k := 25) (by dsimp only; omega)
  obtain ⟨x2, hx2⟩ := ha2.bg t4 (k := 25) (by dsimp only; omega)
  obtain ⟨x3, hx3⟩ := ha3.bg t5 (k := 25) (by dsimp only; omega)
  have HX1 := Lib.hid hx1
  have HX2 := Lib.hid hx2
  have HX3 := Lib.hid hx3
  clear hx1 hx2 hx3
  have HR3 := Lib.hid t3
  clear t3
  have HR4 := Lib.hid t4
  clear t4
  have HR5 := Lib.hid t5
  clear t5
  have HT := Lib.hid hT
  have HZ := Lib.hid hZ
  have HA1 := Lib.hid ha1
  have HA2 := Lib.hid ha2
  have HA3 := Lib.hid ha3
  clear hT hZ ha1 ha2 ha3
  have K := Lib.hid (show BxA w _ [⟨s1a, A1a, n1a, c1a⟩, ⟨s2a, A2a, n2a, c2a⟩, ⟨s3a, A3a, n3a, c3a⟩] from ((((BxA.new w).box (by simp) ⟨s1a, A1a, n1a, c1a⟩).box (by simp) ⟨s2a, A2a, n2a, c2a⟩).box (by simp) ⟨s3a, A3a, n3a, c3a⟩))
  go_enter Tryd.func4, Tryd.ntmps4
  go_wp2_with fail
  refine (small_any _ (HT.out.on K.out.bl) (HZ.out.on K.out.bl)).mono ?_
  rintro e wa0 ⟨rfl, hb⟩
  have K0 := Lib.hid (K.out.call hb)
  clear hb K
  have zb := K0.out.bx 0 _ rfl
  have z0 := zb.c0
  have z1 := zb.c1
  clear zb
  simp only [Nat.add_zero] at z0 z1
  go_wp2_with fail
  refine (few_T _ t0).mono ?_
  rintro e wa1 ⟨rfl, hb⟩
  have K1 := Lib.hid (K0.out.call hb)
  clear hb z0 z1 K0
  have zb := K1.out.bx 1 _ rfl
  have z0 := zb.c0
  have z1 := zb.c1
  clear zb
  go_wp2_with fail
  refine (few_T _ t1).mono ?_
  rintro e wa2 ⟨rfl, hb⟩
  have K2 := Lib.hid (K1.out.call hb)
  clear hb z0 z1 K1
  have zb := K2.out.bx 2 _ rfl
  have z0 := zb.c0
  have z1 := zb.c1
  clear zb
  rw [show w.heap.size + 2 = w.heap.size + 1 + 1 from rfl] at z0 z1
  go_wp2_with fail
  refine (few_T _ t2).mono ?_
  rintro e wa3 ⟨rfl, hb⟩
  have K3 := Lib.hid (K2.out.call hb)
  clear hb z0 z1 K2
  have zb := K3.out.bx 0 _ rfl
  have z0 := zb.c0
  have z1 := zb.c1
  clear zb
  simp only [Nat.add_zero] at z0 z1
  go_wp2_with fail
  refine (right_is HA1.out (by dsimp only; omega) K3.out.bl HR3.out).mono ?_
  rintro e wa4 ⟨rfl, hb⟩
  have K4 := Lib.hid (K3.out.call hb)
  clear hb z0 z1 K3
  have zb := K4.out.bx 1 _ rfl
  have z0 := zb.c0
  have z1 := zb.c1
  clear zb
  go_wp2_with fail
  refine (right_is HA2.out (by dsimp only; omega) K4.out.bl HR4.out).mono ?_
  rintro e wa5 ⟨rfl, hb⟩
  have K5 := Lib.hid (K4.out.call hb)
  clear hb z0 z1 K4
  have zb := K5.out.bx 2 _ rfl
  have z0 := zb.c0
  have z1 := zb.c1
  clear zb
  rw [show w.heap.size + 2 = w.heap.size + 1 + 1 from rfl] at z0 z1
  go_wp2_with fail
  refine (right_is HA3.out (by dsimp only; omega) K5.out.bl HR5.out).mono ?_
  rintro e wa6 ⟨rfl, hb⟩
  have K6 := Lib.hid (K5.out.call hb)
  clear hb z0 z1 K5
  have S0 := Lib.hid (K6.out.st3 HX1.out HX2.out HX3.out)
  clear K6 HX1 HA1 HX2 HA2 HX3 HA3 HT HZ HR3 HR4 HR5
  obtain ⟨N, hN⟩ : ∃ N, ordZ x1 x2 = N := ⟨_, rfl⟩
  have hN0 := ordZ_lo x1 x2
  have hN1 := ordZ_hi x1 x2
  rw [hN] at hN0 hN1
  have HN := Lib.hid hN
  clear hN
  have Fa := S0.out.bx _ (List.mem_of_getElem? (i := 0) rfl)
  dsimp only at Fa
  have za0 := Fa.1.c0
  have za1 := Fa.1.c1
  have Ga := Lib.hid Fa.2
  clear Fa
  have Fb := S0.out.bx _ (List.mem_of_getElem? (i := 1) rfl)
  dsimp only at Fb
  have zb0 := Fb.1.c0
  have zb1 := Fb.1.c1
  have Gb := Lib.hid Fb.2
  clear Fb
  have M := Lib.hid (compare_B Ga.out Gb.out (by decide) (by decide) c1a c2a HN.out)
  go_wp2_with fail
  refine M.out.mono ?_
  rintro e w0a ⟨rfl, hb⟩
  have S0a := Lib.hid (S0.out.call hb)
  clear hb M S0
  clear za0 za1 Ga zb0 zb1 Gb
  have Fa := S0a.out.bx _ (List.mem_of_getElem? (i := 0) rfl)
  dsimp only at Fa
  have za0 := Fa.1.c0
  have za1 := Fa.1.c1
  have Ga := Lib.hid Fa.2
  clear Fa
  have Fb := S0a.out.bx _ (List.mem_of_getElem? (i := 1) rfl)
  dsimp only at Fb
  have zb0 := Fb.1.c0
  have zb1 := Fb.1.c1
  have Gb := Lib.hid Fb.2
  clear Fb
  have M := Lib.hid (sub_F Ga.out Gb.out (by decide) (by decide) c1a c2a)
  go_wp2_with fail
  refine M.out.mono ?_
  rintro e w1 ⟨s1, A1, n1, c1, rfl, -, hg1, hf1, hb1⟩
  have S1 := Lib.hid (S0a.out.made hb1 hg1 hf1 c1)
  clear hg1 hf1 hb1 M S0a
  clear za0 za1 Ga zb0 zb1 Gb
  have Fd := S1.out.bx _ List.mem_cons_self
  dsimp only at Fd
  obtain rfl : N = s1 := ordZ_sign HN.out Fd.2.sign
  clear Fd
  have Fa := S1.out.bx _ (List.mem_of_getElem? (i := 1) rfl)
  dsimp only at Fa
  have za0 := Fa.1.c0
  have za1 := Fa.1.c1
  have Ga := Lib.hid Fa.2
  clear Fa
  have Fc := S1.out.bx _ (List.mem_of_getElem? (i := 3) rfl)
  dsimp only at Fc
  have zc0 := Fc.1.c0
  have zc1 := Fc.1.c1
  have Gc := Lib.hid Fc.2
  clear Fc
  have M := Lib.hid (add_F Ga.out Gc.out (by decide) (by decide) c1a c3a)
  go_wp2_with fail
  refine M.out.mono ?_
  rintro e w2 ⟨s2, A2, n2, c2, rfl, -, hg2, hf2, hb2⟩
  have S2 := Lib.hid (S1.out.made hb2 hg2 hf2 c2)
  clear hg2 hf2 hb2 M S1
  clear za0 za1 Ga zc0 zc1 Gc
  have Fb := S2.out.bx _ (List.mem_of_getElem? (i := 3) rfl)
  dsimp only at Fb
  have zb0 := Fb.1.c0
  have zb1 := Fb.1.c1
  have Gb := Lib.hid Fb.2
  clear Fb
  have Fc := S2.out.bx _ (List.mem_of_getElem? (i := 4) rfl)
  dsimp only at Fc
  have zc0 := Fc.1.c0
  have zc1 := Fc.1.c1
  have Gc := Lib.hid Fc.2
  clear Fc
  have M := Lib.hid (add_F Gb.out Gc.out (by decide) (by decide) c2a c3a)
  go_wp2_with fail
  refine M.out.mono ?_
  rintro e w3 ⟨s3, A3, n3, c3, rfl, -, hg3, hf3, hb3⟩
  have S3 := Lib.hid (S2.out.made hb3 hg3 hf3 c3)
  clear hg3 hf3 hb3 M S2
  clear zb0 zb1 Gb zc0 zc1 Gc
  have Fa := S3.out.bx _ (List.mem_of_getElem? (i := 3) rfl)
  dsimp only at Fa
  have za0 := Fa.1.c0
  have za1 := Fa.1.c1
  have Ga := Lib.hid Fa.2
  clear Fa
  have Fc := S3.out.bx _ (List.mem_of_getElem? (i := 5) rfl)
  dsimp only at Fc
  have zc0 := Fc.1.c0
  have zc1 := Fc.1.c1
  have Gc := Lib.hid Fc.2
  clear Fc
  have M := Lib.hid (mul_F Ga.out Gc.out (by decide) (by decide) c1a c3a)
  go_wp2_with fail
  refine M.out.mono ?_
  rintro e w4 ⟨s4, A4, n4, c4, rfl, -, hg4, hf4, hb4⟩
  have S4 := Lib.hid (S3.out.made hb4 hg4 hf4 c4)
  clear hg4 hf4 hb4 M S3
  clear za0 za1 Ga zc0 zc1 Gc
  have Fb := S4.out.bx _ (List.mem_of_getElem? (i := 5) rfl)
  dsimp only at Fb
  have zb0 := Fb.1.c0
  have zb1 := Fb.1.c1
  have Gb := Lib.hid Fb.2
  clear Fb
  have Fc := S4.out.bx _ (List.mem_of_getElem? (i := 6) rfl)
  dsimp only at Fc
  have zc0 := Fc.1.c0
  have zc1 := Fc.1.c1
  have Gc := Lib.hid Fc.2
  clear Fc
  have M := Lib.hid (mul_F Gb.out Gc.out (by decide) (by decide) c2a c3a)
  go_wp2_with fail
  refine M.out.mono ?_
  rintro e w5 ⟨s5, A5, n5, c5, rfl, -, hg5, hf5, hb5⟩
  have S5 := Lib.hid (S4.out.made hb5 hg5 hf5 c5)
  clear hg5 hf5 hb5 M S4
  clear zb0 zb1 Gb zc0 zc1 Gc
  go_upto_region 12 with (fail)
  generalize hwb : (w5.alloc (.cells #[.int .i64 s5, .slice A5 n5 c5] 24)) = wb at S5 ⊢
  clear hwb
  have Fa := S5.out.bx _ (List.mem_of_getElem? (i := 5) rfl)
  dsimp only at Fa
  have za0 := Fa.1.c0
  have za1 := Fa.1.c1
  have Ga := Lib.hid Fa.2
  clear Fa
  have Fb := S5.out.bx _ (List.mem_of_getElem? (i := 6) rfl)
  dsimp only at Fb
  have zb0 := Fb.1.c0
  have zb1 := Fb.1.c1
  have Gb := Lib.hid Fb.2
  clear Fb
  have Fc := S5.out.bx _ (List.mem_of_getElem? (i := 7) rfl)
  dsimp only at Fc
  have zc0 := Fc.1.c0
  have zc1 := Fc.1.c1
  have Gc := Lib.hid Fc.2
  clear Fc
  have Fd := S5.out.bx _ (List.mem_of_getElem? (i := 4) rfl)
  dsimp only at Fd
  have zd0 := Fd.1.c0
  have zd1 := Fd.1.c1
  have Gd := Lib.hid Fd.2
  clear Fd
  have Fx := S5.out.bx _ (List.mem_of_getElem? (i := 3) rfl)
  dsimp only at Fx
  have zx0 := Fx.1.c0
  have zx1 := Fx.1.c1
  have Gx := Lib.hid Fx.2
  clear Fx
  have Fy := S5.out.bx _ (List.mem_of_getElem? (i := 2) rfl)
  dsimp only at Fy
  have zy0 := Fy.1.c0
  have zy1 := Fy.1.c1
  have Gy := Lib.hid Fy.2
  clear Fy
  have Fp := S5.out.bx _ (List.mem_of_getElem? (i := 1) rfl)
  dsimp only at Fp
  have zp0 := Fp.1.c0
  have zp1 := Fp.1.c1
  have Gp := Lib.hid Fp.2
  clear Fp
  have Fq := S5.out.bx _ (List.mem_of_getElem? (i := 0) rfl)
  dsimp only at Fq
  have zq0 := Fq.1.c0
  have zq1 := Fq.1.c1
  have Gq := Lib.hid Fq.2
  clear Fq
  have HK : Hid (∀ wx, Below wb.heap.size wb wx → wx.cell? ⟨w.heap.size, 0, none⟩ = some (.int .i64 s1a) ∧ wx.cell? ⟨w.heap.size, 1, none⟩ = some (.slice A1a n1a c1a) ∧ wx.cell? ⟨w.heap.size + 1, 0, none⟩ = some (.int .i64 s2a) ∧ wx.cell? ⟨w.heap.size + 1, 1, none⟩ = some (.slice A2a n2a c2a) ∧ wx.cell? ⟨w.heap.size + 1 + 1, 0, none⟩ = some (.int .i64 s3a) ∧ wx.cell? ⟨w.heap.size + 1 + 1, 1, none⟩ = some (.slice A3a n3a c3a) ∧ wx.cell? ⟨w1.heap.size, 0, none⟩ = some (.int .i64 N) ∧ wx.cell? ⟨w2.heap.size, 0, none⟩ = some (.int .i64 s2) ∧ wx.cell? ⟨w2.heap.size, 1, none⟩ = some (.slice A2 n2 c2) ∧ wx.cell? ⟨w3.heap.size, 0, none⟩ = some (.int .i64 s3) ∧ wx.cell? ⟨w3.heap.size, 1, none⟩ = some (.slice A3 n3 c3) ∧ wx.cell? ⟨w4.heap.size, 0, none⟩ = some (.int .i64 s4) ∧ wx.cell? ⟨w4.heap.size, 1, none⟩ = some (.slice A4 n4 c4) ∧ wx.cell? ⟨w5.heap.size, 0, none⟩ = some (.int .i64 s5) ∧ wx.cell? ⟨w5.heap.size, 1, none⟩ = some (.slice A5 n5 c5)) := fun wx hb =>
    ⟨(hb.cell (p := ⟨w.heap.size, 0, none⟩) (World.block_lt_of_cell? _ _ za0)).trans za0, (hb.cell (p := ⟨w.heap.size, 1, none⟩) (World.block_lt_of_cell? _ _ za1)).trans za1, (hb.cell (p := ⟨w.heap.size + 1, 0, none⟩) (World.block_lt_of_cell? _ _ zb0)).trans zb0, (hb.cell (p := ⟨w.heap.size + 1, 1, none⟩) (World.block_lt_of_cell? _ _ zb1)).trans zb1, (hb.cell (p := ⟨w.heap.size + 1 + 1, 0, none⟩) (World.block_lt_of_cell? _ _ zc0)).trans zc0, (hb.cell (p := ⟨w.heap.size + 1 + 1, 1, none⟩) (World.block_lt_of_cell? _ _ zc1)).trans zc1, (hb.cell (p := ⟨w1.heap.size, 0, none⟩) (World.block_lt_of_cell? _ _ zd0)).trans zd0, (hb.cell (p := ⟨w2.heap.size, 0, none⟩) (World.block_lt_of_cell? _ _ zx0)).trans zx0, (hb.cell (p := ⟨w2.heap.size, 1, none⟩) (World.block_lt_of_cell? _ _ zx1)).trans zx1, (hb.cell (p := ⟨w3.heap.size, 0, none⟩) (World.block_lt_of_cell? _ _ zy0)).trans zy0, (hb.cell (p := ⟨w3.heap.size, 1, none⟩) (World.block_lt_of_cell? _ _ zy1)).trans zy1, (hb.cell (p := ⟨w4.heap.size, 0, none⟩) (World.block_lt_of_cell? _ _ zp0)).trans zp0, (hb.cell (p := ⟨w4.heap.size, 1, none⟩) (World.block_lt_of_cell? _ _ zp1)).trans zp1, (hb.cell (p := ⟨w5.heap.size, 0, none⟩) (World.block_lt_of_cell? _ _ zq0)).trans zq0, (hb.cell (p := ⟨w5.heap.size, 1, none⟩) (World.block_lt_of_cell? _ _ zq1)).trans zq1⟩
  clear zd1
  have HS : Hid (∀ wx, Below wb.heap.size wb wx → Calls Tryd.prog 18 #[.agg #[.int .i64 s1a, .slice A1a n1a c1a], .agg #[.int .i64 s2a, .slice A2a n2a c2a]] wx fun e w' => e = .returned (.bool (N == 0)) ∧ Below wb.heap.size wb w') := fun wx hb =>
    (same_B (Ga.out.past hb) (Gb.out.past hb) (by decide) (by decide) _ _ (ordZ_eq HN.out)).mono fun _ _ h => ⟨h.1, hb.trans (h.2.mono hb.size)⟩
  have HC1 : Hid (∀ wx, Below wb.heap.size wb wx → Calls Tryd.prog 17 #[.agg #[.int .i64 s2a, .slice A2a n2a c2a], .agg #[.int .i64 s1a, .slice A1a n1a c1a]] wx fun e w' => e = .returned (.int .i64 (-N)) ∧ Below wb.heap.size wb w') := fun wx hb =>
    (compare_B (Gb.out.past hb) (Ga.out.past hb) (by decide) (by decide) _ _ (ordZ_swap HN.out)).mono fun _ _ h => ⟨h.1, hb.trans (h.2.mono hb.size)⟩
  have HC2 : Hid (∀ wx, Below wb.heap.size wb wx → Calls Tryd.prog 17 #[.agg #[.int .i64 s2, .slice A2 n2 c2], .agg #[.int .i64 s3, .slice A3 n3 c3]] wx fun e w' => e = .returned (.int .i64 N) ∧ Below wb.heap.size wb w') := fun wx hb =>
    (compare_B (Gx.out.past hb) (Gy.out.past hb) (by decide) (by decide) _ _ (ordZ_add HN.out x3)).mono fun _ _ h => ⟨h.1, hb.trans (h.2.mono hb.size)⟩
  have HC3 : Hid (∀ wx, Below wb.heap.size wb wx → Calls Tryd.prog 17 #[.agg #[.int .i64 s4, .slice A4 n4 c4], .agg #[.int .i64 s5, .slice A5 n5 c5]] wx fun e w' => e = .returned (.int .i64 (N * s3a)) ∧ Below wb.heap.size wb w') := fun wx hb =>
    (compare_B (Gp.out.past hb) (Gq.out.past hb) (by decide) (by decide) _ _ (ordZ_mul HN.out Gc.out.sign)).mono fun _ _ h => ⟨h.1, hb.trans (h.2.mono hb.size)⟩
  have HC4 : Hid (∀ wx, Below wb.heap.size wb wx → Calls Tryd.prog 17 #[.agg #[.int .i64 s2a, .slice A2a n2a c2a], .agg #[.int .i64 s3a, .slice A3a n3a c3a]] wx fun e w' => e = .returned (.int .i64 (ordZ x2 x3)) ∧ Below wb.heap.size wb w') := fun wx hb =>
    (compare_B (Gb.out.past hb) (Gc.out.past hb) (by decide) (by decide) _ _ rfl).mono fun _ _ h => ⟨h.1, hb.trans (h.2.mono hb.size)⟩
  have HC5 : Hid (∀ wx, Below wb.heap.size wb wx → Calls Tryd.prog 17 #[.agg #[.int .i64 s1a, .slice A1a n1a c1a], .agg #[.int .i64 s3a, .slice A3a n3a c3a]] wx fun e w' => e = .returned (.int .i64 (ordZ x1 x3)) ∧ Below wb.heap.size wb w') := fun wx hb =>
    (compare_B (Ga.out.past hb) (Gc.out.past hb) (by decide) (by decide) _ _ rfl).mono fun _ _ h => ⟨h.1, hb.trans (h.2.mono hb.size)⟩
  have hsc := Gc.out.sign
  have hw1 : IntKind.i64.wrap (-N) = -N := IntWalk.i64_in _ (by omega)
  have hw2 : IntKind.i64.wrap (N * s3a) = N * s3a := IntWalk.i64_in _ (by rcases hsc with ⟨e, -⟩ | ⟨e, -⟩ | ⟨e, -⟩ <;> rw [e] <;> omega)
  have hfin : N ≤ 0 → ordZ x2 x3 ≤ 0 → ordZ x1 x3 ≤ 0 := fun a b => ordZ_trans HN.out (by omega) (by omega)
  have HF := Lib.hid hfin
  have BD : Hid (Below wb.heap.size wb wb.drew) := (Below.refl _ _).drew
  have HBL := Lib.hid S5.out.bl
  clear hsc hfin S5 HN Ga Gb Gc Gd Gx Gy Gp Gq
  go_region_held3 (fun w' => w'.cell? ⟨w.heap.size, 0, none⟩ = some (.int .i64 s1a) ∧ w'.cell? ⟨w.heap.size, 1, none⟩ = some (.slice A1a n1a c1a) ∧ w'.cell? ⟨w.heap.size + 1, 0, none⟩ = some (.int .i64 s2a) ∧ w'.cell? ⟨w.heap.size + 1, 1, none⟩ = some (.slice A2a n2a c2a) ∧ w'.cell? ⟨w.heap.size + 1 + 1, 0, none⟩ = some (.int .i64 s3a) ∧ w'.cell? ⟨w.heap.size + 1 + 1, 1, none⟩ = some (.slice A3a n3a c3a) ∧ w'.cell? ⟨w1.heap.size, 0, none⟩ = some (.int .i64 N) ∧ w'.cell? ⟨w2.heap.size, 0, none⟩ = some (.int .i64 s2) ∧ w'.cell? ⟨w2.heap.size, 1, none⟩ = some (.slice A2 n2 c2) ∧ w'.cell? ⟨w3.heap.size, 0, none⟩ = some (.int .i64 s3) ∧ w'.cell? ⟨w3.heap.size, 1, none⟩ = some (.slice A3 n3 c3) ∧ w'.cell? ⟨w4.heap.size, 0, none⟩ = some (.int .i64 s4) ∧ w'.cell? ⟨w4.heap.size, 1, none⟩ = some (.slice A4 n4 c4) ∧ w'.cell? ⟨w5.heap.size, 0, none⟩ = some (.int .i64 s5) ∧ w'.cell? ⟨w5.heap.size, 1, none⟩ = some (.slice A5 n5 c5))
    (first | exact ⟨i0, i1, i2, i3, i4, i5, i6, i7, i8, i9, i10, i11, i12, i13, i14⟩ | exact ⟨g0, g1, g2, g3, g4, g5, g6, g7, g8, g9, g10, g11, g12, g13, g14⟩ | exact ⟨f0, f1, f2, f3, f4, f5, f6, f7, f8, f9, f10, f11, f12, f13, f14⟩ | exact ⟨e0, e1, e2, e3, e4, e5, e6, e7, e8, e9, e10, e11, e12, e13, e14⟩ | exact ⟨za0, za1, zb0, zb1, zc0, zc1, zd0, zx0, zx1, zy0, zy1, zp0, zp1, zq0, zq1⟩)
    (first | (go_at_call 18; with_reducible refine (HS.out _ BD.out).mono ?_; rintro e w2 ⟨rfl, hb2⟩; have B1 := Lib.hid hb2; obtain ⟨e0, e1, e2, e3, e4, e5, e6, e7, e8, e9, e10, e11, e12, e13, e14⟩ := HK.out _ hb2; clear hb2) | (go_at_call 17; with_reducible refine (HC1.out _ B1.out).mono ?_; rintro e w2 ⟨rfl, hb2⟩; have B2 := Lib.hid hb2; obtain ⟨f0, f1, f2, f3, f4, f5, f6, f7, f8, f9, f10, f11, f12, f13, f14⟩ := HK.out _ hb2; clear hb2) | (go_at_call 17; with_reducible refine (HC1.out _ B1.out.drew).mono ?_; rintro e w2 ⟨rfl, hb2⟩; have B2 := Lib.hid hb2; obtain ⟨f0, f1, f2, f3, f4, f5, f6, f7, f8, f9, f10, f11, f12, f13, f14⟩ := HK.out _ hb2; clear hb2) | (go_at_call 17; with_reducible refine (HC2.out _ B2.out).mono ?_; rintro e w2 ⟨rfl, hb2⟩; have B3 := Lib.hid hb2; obtain ⟨g0, g1, g2, g3, g4, g5, g6, g7, g8, g9, g10, g11, g12, g13, g14⟩ := HK.out _ hb2; clear hb2) | (go_at_call 17; with_reducible refine (HC2.out _ B2.out.drew).mono ?_; rintro e w2 ⟨rfl, hb2⟩; have B3 := Lib.hid hb2; obtain ⟨g0, g1, g2, g3, g4, g5, g6, g7, g8, g9, g10, g11, g12, g13, g14⟩ := HK.out _ hb2; clear hb2) | (go_at_call 17; with_reducible refine (HC3.out _ B3.out).mono ?_; rintro e w2 ⟨rfl, hb2⟩; have B4 := Lib.hid hb2; obtain ⟨i0, i1, i2, i3, i4, i5, i6, i7, i8, i9, i10, i11, i12, i13, i14⟩ := HK.out _ hb2; clear hb2) | (go_at_call 17; with_reducible refine (HC3.out _ B3.out.drew).mono ?_; rintro e w2 ⟨rfl, hb2⟩; have B4 := Lib.hid hb2; obtain ⟨i0, i1, i2, i3, i4, i5, i6, i7, i8, i9, i10, i11, i12, i13, i14⟩ := HK.out _ hb2; clear hb2))
  all_goals
    have B5 := Lib.hid (HBL.out.trans (B4.out.mono HBL.out.size))
    by_cases h1 : 0 < N
    · go_wp2_with fail
      go_ret
      exact ⟨rfl, B5.out⟩
    · by_cases h2 : 0 < ordZ x2 x3
      · have hR := Lib.hid (HC4.out _ B4.out)
        go_wp2_with fail
        refine hR.out.mono ?_
        rintro e w6 ⟨rfl, hb6⟩
        go_wp2_with fail
        go_ret
        exact ⟨rfl, HBL.out.trans (hb6.mono HBL.out.size)⟩
      · have h3 := HF.out (by omega) (by omega)
        have hR := Lib.hid (HC4.out _ B4.out)
        go_wp2_with fail
        refine hR.out.mono ?_
        rintro e w6 ⟨rfl, hb6⟩
        have hR2 := Lib.hid (HC5.out _ hb6)
        obtain ⟨j0, j1, j2, j3, j4, j5, j6, j7, j8, j9, j10, j11, j12, j13, j14⟩ := HK.out _ hb6
        clear hb6
        go_wp2_with fail
        refine hR2.out.mono ?_
        rintro e w7 ⟨rfl, hb7⟩
        go_wp2_with fail
        go_ret
        exact ⟨rfl, HBL.out.trans (hb7.mono HBL.out.size)⟩
theorem order_walk (s1a : Int) (A1a : Option Addr) (n1a c1a : Nat) (l1a : List Int) (s2a : Int) (A2a : Option Addr) (n2a c2a : Nat) (l2a : List Int) (s3a : Int) (A3a : Option Addr) (n3a c3a : Nat) (l3a : List Int) (w : World) (ha1 : BigArg w ⟨s1a, A1a, n1a, c1a⟩ l1a) (ha2 : BigArg w ⟨s2a, A2a, n2a, c2a⟩ l2a) (ha3 : BigArg w ⟨s3a, A3a, n3a, c3a⟩ l3a) (hT : Tab w) (hZ : TabZ w) :
    Calls Tryd.prog 4 #[.agg #[.int .i64 s1a, .slice A1a n1a c1a], .agg #[.int .i64 s2a, .slice A2a n2a c2a], .agg #[.int .i64 s3a, .slice A3a n3a c3a]] w fun e w' => e = .returned (.bool true) ∧ Below w.heap.size w w' := by
  by_cases t0 : (n1a : Int) ≤ 25
  case neg => exact order_e0 s1a A1a n1a c1a l1a s2a A2a n2a c2a l2a s3a A3a n3a c3a l3a w ha1 ha2 ha3 hT hZ  (Int.not_le.1 t0)
  by_cases t1 : (n2a : Int) ≤ 25
  case neg => exact order_e1 s1a A1a n1a c1a l1a s2a A2a n2a c2a l2a s3a A3a n3a c3a l3a w ha1 ha2 ha3 hT hZ t0 (Int.not_le.1 t1)
  by_cases t2 : (n3a : Int) ≤ 25
  case neg => exact order_e2 s1a A1a n1a c1a l1a s2a A2a n2a c2a l2a s3a A3a n3a c3a l3a w ha1 ha2 ha3 hT hZ t0 t1 (Int.not_le.1 t2)
  cases t3 : rightB s1a l1a
  case false => exact order_e3 s1a A1a n1a c1a l1a s2a A2a n2a c2a l2a s3a A3a n3a c3a l3a w ha1 ha2 ha3 hT hZ t0 t1 t2 t3
  cases t4 : rightB s2a l2a
  case false => exact order_e4 s1a A1a n1a c1a l1a s2a A2a n2a c2a l2a s3a A3a n3a c3a l3a w ha1 ha2 ha3 hT hZ t0 t1 t2 t3 t4
  cases t5 : rightB s3a l3a
  case false => exact order_e5 s1a A1a n1a c1a l1a s2a A2a n2a c2a l2a s3a A3a n3a c3a l3a w ha1 ha2 ha3 hT hZ t0 t1 t2 t3 t4 t5
  exact order_main s1a A1a n1a c1a l1a s2a A2a n2a c2a l2a s3a A3a n3a c3a l3a w ha1 ha2 ha3 hT hZ t0 t1 t2 t3 t4 t5
end Go.Proofs.YtnadnobpejccpaaDoor
