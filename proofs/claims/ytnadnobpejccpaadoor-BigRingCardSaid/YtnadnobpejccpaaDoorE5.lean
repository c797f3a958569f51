/- The walk of the law BigRing. Conditions: the arguments' memory, the tables of math/bits and strconv. -/
import Derived.Test.YtnadnobpejccpaaDoorD8
import Derived.Deep.DeepCutAuto
namespace Go.Proofs.YtnadnobpejccpaaDoor
set_option maxRecDepth 8000
open Go.RowKit
set_option maxRecDepth 100000 in
set_option maxHeartbeats 4000000 in
theorem ring_e0 (s1a : Int) (A1a : Option Addr) (n1a c1a : Nat) (l1a : List Int) (s2a : Int) (A2a : Option Addr) (n2a c2a : Nat) (l2a : List Int) (s3a : Int) (A3a : Option Addr) (n3a c3a : Nat) (l3a : List Int) (w : World) (ha1 : BigArg w ⟨s1a, A1a, n1a, c1a⟩ l1a) (ha2 : BigArg w ⟨s2a, A2a, n2a, c2a⟩ l2a) (ha3 : BigArg w ⟨s3a, A3a, n3a, c3a⟩ l3a) (hT : Tab w) (hZ : TabZ w)  (t0 : (25 : Int) < (n1a : Int)) :
    Calls Tryd.prog 3 #[.agg #[.int .i64 s1a, .slice A1a n1a c1a], .agg #[.int .i64 s2a, .slice A2a n2a c2a], .agg #[.int .i64 s3a, .slice A3a n3a c3a]] w fun e w' => e = .returned (.bool true) ∧ Below w.heap.size w w' := by
  have HR0 := Lib.hid t0
  clear t0
  have HT := Lib.hid hT
  have HZ := Lib.hid hZ
  have HA1 := Lib.hid ha1
  have HA2 := Lib.hid ha2
  have HA3 := Lib.hid ha3
  clear hT hZ ha1 ha2 ha3
  have K := Lib.hid (show BxA w _ [⟨s1a, A1a, n1a, c1a⟩, ⟨s2a, A2a, n2a, c2a⟩, ⟨s3a, A3a, n3a, c3a⟩] from ((((BxA.new w).box (by simp) ⟨s1a, A1a, n1a, c1a⟩).box (by simp) ⟨s2a, A2a, n2a, c2a⟩).box (by simp) ⟨s3a, A3a, n3a, c3a⟩))
  go_enter Tryd.func3, Tryd.ntmps3
  go_wp2_with fail
  refine (small_any _ (HT.out.on K.out.bl) (HZ.out.on K.out.bl)).mono ?_
  rintro e wa0 ⟨rfl, hb⟩
  have K0 := Lib.hid (K.out.call hb)
  clear hb K
  have zb := K0.out.bx 0 _ rfl
  have z0 := zb.c0
  have z1 := zb.c1
  clear zb
  simp only [Nat.add_zero] at z0 z1
  go_wp2_with fail
  refine (few_F _ HR0.out).mono ?_
  rintro e wa1 ⟨rfl, hb⟩
  have K1 := Lib.hid (K0.out.call hb)
  clear hb z0 z1 K0
  go_wp2_with fail
  go_ret
  exact ⟨rfl, K1.out.bl⟩
set_option maxRecDepth 100000 in
set_option maxHeartbeats 4000000 in
theorem ring_e1 (s1a : Int) (A1a : Option Addr) (n1a c1a : Nat) (l1a : List Int) (s2a : Int) (A2a : Option Addr) (n2a c2a : Nat) (l2a : List Int) (s3a : Int) (A3a : Option Addr) (n3a c3a : Nat) (l3a : List Int) (w : World) (ha1 : BigArg w ⟨s1a, A1a, n1a, c1a⟩ l1a) (ha2 : BigArg w ⟨s2a, A2a, n2a, c2a⟩ l2a) (ha3 : BigArg w ⟨s3a, A3a, n3a, c3a⟩ l3a) (hT : Tab w) (hZ : TabZ w) (t0 : (n1a : Int) ≤ 25) (t1 : (25 : Int) < (n2a : Int)) :
    Calls Tryd.prog 3 #[.agg #[.int .i64 s1a, .slice A1a n1a c1a], .agg #[.int .i64 s2a, .slice A2a n2a c2a], .agg #[.int .i64 s3a, .slice A3a n3a c3a]] w fun e w' => e = .returned (.bool true) ∧ Below w.heap.size w w' := by
  have HR1 := Lib.hid t1
  clear t1
  have HT := Lib.hid hT
  have HZ := Lib.hid hZ
  have HA1 := Lib.hid ha1
  have HA2 := Lib.hid ha2
  have HA3 := Lib.hid ha3
  clear hT hZ ha1 ha2 ha3
  have K := Lib.hid (show BxA w _ [⟨s1a, A1a, n1a, c1a⟩, ⟨s2a, A2a, n2a, c2a⟩, ⟨s3a, A3a, n3a, c3a⟩] from ((((BxA.new w).box (by simp) ⟨s1a, A1a, n1a, c1a⟩).box (by simp) ⟨s2a, A2a, n2a, c2a⟩).box (by simp) ⟨s3a, A3a, n3a, c3a⟩))
  go_enter Tryd.func3, Tryd.ntmps3
  go_wp2_with fail
  refine (small_any _ (HT.out.on K.out.bl) (HZ.out.on K.out.bl)).mono ?_
  rintro e wa0 ⟨rfl, hb⟩
  have K0 := Lib.hid (K.out.call hb)
  clear hb K
  have zb := K0.out.bx 0 _ rfl
  have z0 := zb.c0
  have z1 := zb.c1
  clear zb
  simp only [Nat.add_zero] at z0 z1
  go_wp2_with fail
  refine (few_T _ t0).mono ?_
  rintro e wa1 ⟨rfl, hb⟩
  have K1 := Lib.hid (K0.out.call hb)
  clear hb z0 z1 K0
  have zb := K1.out.bx 1 _ rfl
  have z0 := zb.c0
  have z1 := zb.c1
  clear zb
  go_wp2_with fail
  refine (few_F _ HR1.out).mono ?_
  rintro e wa2 ⟨rfl, hb⟩
  have K2 := Lib.hid (K1.out.call hb)
  clear hb z0 z1 K1
  go_wp2_with fail
  go_ret
  exact ⟨rfl, K2.out.bl⟩
set_option maxRecDepth 100000 in
set_option maxHeartbeats 4000000 in
theorem ring_e2 (s1a : Int) (A1a : Option Addr) (n1a c1a : Nat) (l1a : List Int) (s2a : Int) (A2a : Option Addr) (n2a c2a : Nat) (l2a : List Int) (s3a : Int) (A3a : Option Addr) (n3a c3a : Nat) (l3a : List Int) (w : World) (ha1 : BigArg w ⟨s1a, A1a, n1a, c1a⟩ l1a) (ha2 : BigArg w ⟨s2a, A2a, n2a, c2a⟩ l2a) (ha3 : BigArg w ⟨s3a, A3a, n3a, c3a⟩ l3a) (hT : Tab w) (hZ : TabZ w) (t0 : (n1a : Int) ≤ 25) (t1 : (n2a : Int) ≤ 25) (t2 : (25 : Int) < (n3a : Int)) :
    Calls Tryd.prog 3 #[.agg #[.int .i64 s1a, .slice A1a n1a c1a], .agg #[.int .i64 s2a, .slice A2a n2a c2a], .agg #[.int .i64 s3a, .slice A3a n3a c3a]] w fun e w' => e = .returned (.bool true) ∧ Below w.heap.size w w' := by
  have HR2 := Lib.hid t2
  clear t2
  have HT := Lib.hid hT
  have HZ := Lib.hid hZ
  have HA1 := Lib.hid ha1
  have HA2 := Lib.hid ha2
  have HA3 := Lib.hid ha3
  clear hT hZ ha1 ha2 ha3
  have K := Lib.hid (show BxA w _ [⟨s1a, A1a, n1a, c1a⟩, ⟨s2a, A2a, n2a, c2a⟩, ⟨s3a, A3a, n3a, c3a⟩] from ((((BxA.new w).box (by simp) ⟨s1a, A1a, n1a, c1a⟩).box (by simp) ⟨s2a, A2a, n2a, c2a⟩).box (by simp) ⟨s3a, A3a, n3a, c3a⟩))
  go_enter Tryd.func3, Tryd.ntmps3
  go_wp2_with fail
  refine (small_any _ (HT.out.on K.out.bl) (HZ.out.on K.out.bl)).mono ?_
  rintro e wa0 ⟨rfl, hb⟩
  have K0 := Lib.hid (K.out.call hb)
  clear hb K
  have zb := K0.out.bx 0 _ rfl
  have z0 := zb.c0
  have z1 := zb.c1
  clear zb
  simp only [Nat.add_zero] at z0 z1
  go_wp2_with fail
  refine (few_T _ t0).mono ?_
  rintro e wa1 ⟨rfl, hb⟩
  have K1 := Lib.hid (K0.out.call hb)
  clear hb z0 z1 K0
  have zb := K1.out.bx 1 _ rfl
  have z0 := zb.c0
  have z1 := zb.c1
  clear zb
  go_wp2_with fail
  refine (few_T _ t1).mono ?_
  rintro e wa2 ⟨rfl, hb⟩
  have K2 := Lib.hid (K1.out.call hb)
  clear hb z0 z1 K1
  have zb := K2.out.bx 2 _ rfl
  have z0 := zb.c0
  have z1 := zb.c1
  clear zb
  rw [show w.heap.size + 2 = w.heap.size + 1 + 1 from rfl] at z0 z1
  go_wp2_with fail
  refine (few_F _ HR2.out).mono ?_
  rintro e wa3 ⟨rfl, hb⟩
  have K3 := Lib.hid (K2.out.call hb)
  clear hb z0 z1 K2
  go_wp2_with fail
  go_ret
  exact ⟨rfl, K3.out.bl⟩
set_option maxRecDepth 100000 in
set_option maxHeartbeats 4000000 in
theorem ring_e3 (s1a : Int) (A1a : Option Addr) (n1a c1a : Nat) (l1a : List Int) (s2a : Int) (A2a : Option Addr) (n2a c2a : Nat) (l2a : List Int) (s3a : Int) (A3a : Option Addr) (n3a c3a : Nat) (l3a : List Int) (w : World) (ha1 : BigArg w ⟨s1a, A1a, n1a, c1a⟩ l1a) (ha2 : BigArg w ⟨s2a, A2a, n2a, c2a⟩ l2a) (ha3 : BigArg w ⟨s3a, A3a, n3a, c3a⟩ l3a) (hT : Tab w) (hZ : TabZ w) (t0 : (n1a : Int) ≤ 25) (t1 : (n2a : Int) ≤ 25) (t2 : (n3a : Int) ≤ 25) (t3 : rightB s1a l1a = false) :
    Calls Tryd.prog 3 #[.agg #[.int .i64 s1a, .slice A1a n1a c1a], .agg #[.int .i64 s2a, .slice A2a n2a c2a], .agg #[.int .i64 s3a, .slice A3a n3a c3a]] w fun e w' => e = .returned (.bool true) ∧ Below w.heap.size w w' := by
  have HR3 := Lib.hid t3
  clear t3
  have HT := Lib.hid hT
  have HZ := Lib.hid hZ
  have HA1 := Lib.hid ha1
  have HA2 := Lib.hid ha2
  have HA3 := Lib.hid ha3
  clear hT hZ ha1 ha2 ha3
  have K := Lib.hid (show BxA w _ [⟨s1a, A1a, n1a, c1a⟩, ⟨s2a, A2a, n2a, c2a⟩, ⟨s3a, A3a, n3a, c3a⟩] from ((((BxA.new w).box (by simp) ⟨s1a, A1a, n1a, c1a⟩).box (by simp) ⟨s2a, A2a, n2a, c2a⟩).box (by simp) ⟨s3a, A3a, n3a, c3a⟩))
  go_enter Tryd.func3, Tryd.ntmps3
  go_wp2_with fail
  refine (small_any _ (HT.out.on K.out.bl) (HZ.out.on K.out.bl)).mono ?_
  rintro e wa0 ⟨rfl, hb⟩
  have K0 := Lib.hid (K.out.call hb)
  clear hb K
  have zb := K0.out.bx 0 _ rfl
  have z0 := zb.c0
  have z1 := zb.c1
  clear zb
  simp only [Nat.add_zero] at z0 z1
  go_wp2_with fail
  refine (few_T _ t0).mono ?_
  rintro e wa1 ⟨rfl, hb⟩
  have K1 := Lib.hid (K0.out.call hb)
  clear hb z0 z1 K0
  have zb := K1.out.bx 1 _ rfl
  have z0 := zb.c0
  have z1 := zb.c1
  clear zb
  go_wp2_with fail
  refine (few_T _ t1).mono ?_
  rintro e wa2 ⟨rfl, hb⟩
  have K2 := Lib.hid (K1.out.call hb)
  clear hb z0 z1 K1
  have zb := K2.out.bx 2 _ rfl
  have z0 := zb.c0
  have z1 := zb.c1
  clear zb
  rw [show w.heap.size + 2 = w.heap.size + 1 + 1 from rfl] at z0 z1
  go_wp2_with fail
  refine (few_T _ t2).mono ?_
  rintro e wa3 ⟨rfl, hb⟩
  have K3 := Lib.hid (K2.out.call hb)
  clear hb z0 z1 K2
  have zb := K3.out.bx 0 _ rfl
  have z0 := zb.c0
  have z1 := zb.c1
  clear zb
  simp only [Nat.add_zero] at z0 z1
  go_wp2_with fail
  refine (right_is HA1.out (by dsimp only; omega) K3.out.bl HR3.out).mono ?_
  rintro e wa4 ⟨rfl, hb⟩
  have K4 := Lib.hid (K3.out.call hb)
  clear hb z0 z1 K3
  go_wp2_with fail
  go_ret
  exact ⟨rfl, K4.out.bl⟩
set_option maxRecDepth 100000 in
set_option maxHeartbeats 4000000 in
theorem ring_e4 (s1a : Int) (A1a : Option Addr) (n1a c1a : Nat) (l1a : List Int) (s2a : Int) (A2a : Option Addr) (n2a c2a : Nat) (l2a : List Int) (s3a : Int) (A3a : Option Addr) (n3a c3a : Nat) (l3a : List Int) (w : World) (ha1 : BigArg w ⟨s1a, A1a, n1a, c1a⟩ l1a) (ha2 : BigArg w ⟨s2a, A2a, n2a, c2a⟩ l2a) (ha3 : BigArg w ⟨s3a, A3a, n3a, c3a⟩ l3a) (hT : Tab w) (hZ : TabZ w) (t0 : (n1a : Int) ≤ 25) (t1 : (n2a : Int) ≤ 25) (t2 : (n3a : Int) ≤ 25) (t3 : rightB s1a l1a = true) (t4 : rightB s2a l2a = false) :
    Calls Tryd.prog 3 #[.agg #[.int .i64 s1a, .slice A1a n1a c1a], .agg #[.int .i64 s2a, .slice A2a n2a c2a], .agg #[.int .i64 s3a, .slice A3a n3a c3a]] w fun e w' => e = .returned (.bool true) ∧ Below w.heap.size w w' := by
  have HR3 := Lib.hid t3
  clear t3
  have HR4 := Lib.hid t4
  clear t4
  have HT := Lib.hid hT
  have HZ := Lib.hid hZ
  have HA1 := Lib.hid ha1
  have HA2 := Lib.hid ha2
  have HA3 := Lib.hid ha3
  clear hT hZ ha1 ha2 ha3
  have K := Lib.hid (show BxA w _ [⟨s1a, A1a, n1a, c1a⟩, ⟨s2a, A2a, n2a, c2a⟩, ⟨s3a, A3a, n3a, c3a⟩] from ((((BxA.new w).box (by simp) ⟨s1a, A1a, n1a, c1a⟩).box (by simp) ⟨s2a, A2a, n2a, c2a⟩).box (by simp) ⟨s3a, A3a, n3a, c3a⟩))
  go_enter Tryd.func3, Tryd.ntmps3
  go_wp2_with fail
  refine (small_any _ (HT.out.on K.out.bl) (HZ.out.on K.out.bl)).mono ?_
  rintro e wa0 ⟨rfl, hb⟩
  have K0 := Lib.hid (K.out.call hb)
  clear hb K
  have zb := K0.out.bx 0 _ rfl
  have z0 := zb.c0
  have z1 := zb.c1
  clear zb
  simp only [Nat.add_zero] at z0 z1
  go_wp2_with fail
  refine (few_T _ t0).mono ?_
  rintro e wa1 ⟨rfl, hb⟩
  have K1 := Lib.hid (K0.out.call hb)
  clear hb z0 z1 K0
  have zb := K1.out.bx 1 _ rfl
  have z0 := zb.c0
  have z1 := zb.c1
  clear zb
  go_wp2_with fail
  refine (few_T _ t1).mono ?_
  rintro e wa2 ⟨rfl, hb⟩
  have K2 := Lib.hid (K1.out.call hb)
  clear hb z0 z1 K1
  have zb := K2.out.bx 2 _ rfl
  have z0 := zb.c0
  have z1 := zb.c1
  clear zb
  rw [show w.heap.size + 2 = w.heap.size + 1 + 1 from rfl] at z0 z1
  go_wp2_with fail
  refine (few_T _ t2).mono ?_
  rintro e wa3 ⟨rfl, hb⟩
  have K3 := Lib.hid (K2.out.call hb)
  clear hb z0 z1 K2
  have zb := K3.out.bx 0 _ rfl
  have z0 := zb.c0
  have z1 := zb.c1
  clear zb
  simp only [Nat.add_zero] at z0 z1
  go_wp2_with fail
  refine (right_is HA1.out (by dsimp only; omega) K3.out.bl HR3.out).mono ?_
  rintro e wa4 ⟨rfl, hb⟩
  have K4 := Lib.hid (K3.out.call hb)
  clear hb z0 z1 K3
  have zb := K4.out.bx 1 _ rfl
  have z0 := zb.c0
  have z1 := zb.c1
  clear zb
  go_wp2_with fail
  refine (right_is HA2.out (by dsimp only; omega) K4.out.bl HR4.out).mono ?_
  rintro e wa5 ⟨rfl, hb⟩
  have K5 := Lib.hid (K4.out.call hb)
  clear hb z0 z1 K4
  go_wp2_with fail
  go_ret
  exact ⟨rfl, K5.out.bl⟩
set_option maxRecDepth 100000 in
set_option maxHeartbeats 4000000 in
theorem ring_e5 (s1a : Int) (A1a : Option Addr) (n1a c1a : Nat) (l1a : List Int) (s2a : Int) (A2a : Option Addr) (n2a c2a : Nat) (l2a : List Int) (s3a : Int) (A3a : Option Addr) (n3a c3a : Nat) (l3a : List Int) (w : World) (ha1 : BigArg w ⟨s1a, A1a, n1a, c1a⟩ l1a) (ha2 : BigArg w ⟨s2a, A2a, n2a, c2a⟩ l2a) (ha3 : BigArg w ⟨s3a, A3a, n3a, c3a⟩ l3a) (hT : Tab w) (hZ : TabZ w) (t0 : (n1a : Int) ≤ 25) (t1 : (n2a : Int) ≤ 25) (t2 : (n3a : Int) ≤ 25) (t3 : rightB s1a l1a = true) (t4 : rightB s2a l2a = true) (t5 : rightB s3a l3a = false) :
    Calls Tryd.prog 3 #[.agg #[.int .i64 s1a, .slice A1a n1a c1a], .agg #[.int .i64 s2a, .slice A2a n2a c2a], .agg #[.int .i64 s3a, .slice A3a n3a c3a]] w fun e w' => e = .returned (.bool true) ∧ Below w.heap.size w w' := by
  have HR3 := Lib.hid t3
  clear t3
  have HR4 := Lib.hid t4
  clear t4
  have HR5 := Lib.hid t5
  clear t5
  have HT := Lib.hid hT
  have HZ := Lib.hid hZ
  have HA1 := Lib.hid ha1
  have HA2 := Lib.hid ha2
  have HA3 := Lib.hid ha3
  clear hT hZ ha1 ha2 ha3
  have K := Lib.hid (show BxA w _ [⟨s1a, A1a, n1a, c1a⟩, ⟨s2a, A2a, n2a, c2a⟩, ⟨s3a, A3a, n3a, c3a⟩] from ((((BxA.new w).box (by simp) ⟨s1a, A1a, n1a, c1a⟩).box (by simp) ⟨s2a, A2a, n2a, c2a⟩).box (by simp) ⟨s3a, A3a, n3a, c3a⟩))
  go_enter Tryd.func3, Tryd.ntmps3
  go_wp2_with fail
  refine (small_any _ (HT.out.on K.out.bl) (HZ.out.on K.out.bl)).mono ?_
  rintro e wa0 ⟨rfl, hb⟩
  have K0 := Lib.hid (K.out.call hb)
  clear hb K
  have zb := K0.out.bx 0 _ rfl
  have z0 := zb.c0
  have z1 := zb.c1
  clear zb
  simp only [Nat.add_zero] at z0 z1
  go_wp2_with fail
  refine (few_T _ t0).mono ?_
  rintro e wa1 ⟨rfl, hb⟩
  have K1 := Lib.hid (K0.out.call hb)
  clear hb z0 z1 K0
  have zb := K1.out.bx 1 _ rfl
  have z0 := zb.c0
  have z1 := zb.c1
  clear zb
  go_wp2_with fail
  refine (few_T _ t1).mono ?_
  rintro e wa2 ⟨rfl, hb⟩
  have K2 := Lib.hid (K1.out.call hb)
  clear hb z0 z1 K1
  have zb := K2.out.bx 2 _ rfl
  have z0 := zb.c0
  have z1 := zb.c1
  clear zb
  rw [show w.heap.size + 2 = w.heap.size + 1 + 1 from rfl] at z0 z1
  go_wp2_with fail
  refine (few_T _ t2).mono ?_
  rintro e wa3 ⟨rfl, hb⟩
  have K3 := Lib.hid (K2.out.call hb)
  clear hb z0 z1 K2
  have zb := K3.out.bx 0 _ rfl
  have z0 := zb.c0
  have z1 := zb.c1
  clear zb
  simp only [Nat.add_zero] at z0 z1
  go_wp2_with fail
  refine (right_is HA1.out (by dsimp only; omega) K3.out.bl HR3.out).mono ?_
  rintro e wa4 ⟨rfl, hb⟩
  have K4 := Lib.hid (K3.out.call hb)
  clear hb z0 z1 K3
  have zb := K4.out.bx 1 _ rfl
  have z0 := zb.c0
  have z1 := zb.c1
  clear zb
  go_wp2_with fail
  refine (right_is HA2.out (by dsimp only; omega) K4.out.bl HR4.out).mono ?_
  rintro e wa5 ⟨rfl, hb⟩
  have K5 := Lib.hid (K4.out.call hb)
  clear hb z0 z1 K4
  have zb := K5.out.bx 2 _ rfl
  have z0 := zb.c0
  have z1 := zb.c1
  clear zb
  rw [show w.heap.size + 2 = w.heap.size + 1 + 1 from rfl] at z0 z1
  go_wp2_with fail
  refine (right_is HA3.out (by dsimp only; omega) K5.out.bl HR5.out).mono ?_
  rintro e wa6 ⟨rfl, hb⟩
  have K6 := Lib.hid (K5.out.call hb)
  clear hb z0 z1 K5
  go_wp2_with fail
  go_ret
  exact ⟨rfl, K6.out.bl⟩
set_option maxRecDepth 100000 in
set_option maxHeartbeats 8000000 in
theorem ring_main (s1a : Int) (A1a : Option Addr) (n1a c1a : Nat) (l1a : List Int) (s2a : Int) (A2a : Option Addr) (n2a c2a : Nat) (l2a : List Int) (s3a : Int) (A3a : Option Addr) (n3a c3a : Nat) (l3a : List Int) (w : World) (ha1 : BigArg w ⟨s1a, A1a, n1a, c1a⟩ l1a) (ha2 : BigArg w ⟨s2a, A2a, n2a, c2a⟩ l2a) (ha3 : BigArg w ⟨s3a, A3a, n3a, c3a⟩ l3a) (hT : Tab w) (hZ : TabZ w) (t0 : (n1a : Int) ≤ 25) (t1 : (n2a : Int) ≤ 25) (t2 : (n3a : Int) ≤ 25) (t3 : rightB s1a l1a = true) (t4 : rightB s2a l2a = true) (t5 : rightB s3a l3a = true) :
    Calls Tryd.prog 3 #[.agg #[.int .i64 s1a, .slice A1a n1a c1a], .agg #[.int .i64 s2a, .slice A2a n2a c2a], .agg #[.int .i64 s3a, .slice A3a n3a c3a]] w fun e w' => e = .returned (.bool true) ∧ Below w.heap.size w w' := by
  obtain ⟨x1, hx1⟩ := ha1.bg t3 (k := 25) (by dsimp only; omega)
  obtain ⟨x2, hx2⟩ := ha2.bg t4 (k := 25) (by dsimp only; omega)
  obtain ⟨x3, hx3⟩ := ha3.bg t5 (k := 25) (by dsimp only; omega)
  have HX1 := Lib.hid hx1
  have HX2 := Lib.hid hx2
  have HX3 := Lib.hid hx3
  clear hx1 hx2 hx3
  have HR3 := Lib.hid t3
  clear t3
  have HR4 := Lib.hid t4
  clear t4
  have HR5 := Lib.hid t5
  clear t5
  have HT := Lib.hid hT
  have HZ := Lib.hid hZ
  have HA1 := Lib.hid ha1
  have HA2 := Lib.hid ha2
  have HA3 := Lib.hid ha3
  clear hT hZ ha1 ha2 ha3
  have K := Lib.hid (show BxA w _ [⟨s1a, A1a, n1a, c1a⟩, ⟨s2a, A2a, n2a, c2a⟩, ⟨s3a, A3a, n3a, c3a⟩] from ((((BxA.new w).box (by simp) ⟨s1a, A1a, n1a, c1a⟩).box (by simp) ⟨s2a, A2a, n2a, c2a⟩).box (by simp) ⟨s3a, A3a, n3a, c3a⟩))
  go_enter Tryd.func3, Tryd.ntmps3
  go_wp2_with fail
  refine (small_any _ (HT.out.on K.out.bl) (HZ.out.on K.out.bl)).mono ?_
  rintro e wa0 ⟨rfl, hb⟩
  have K0 := Lib.hid (K.out.call hb)
  clear hb K
  have zb := K0.out.bx 0 _ rfl
  have z0 := zb.c0
  have z1 := zb.c1
  clear zb
  simp only [Nat.add_zero] at z0 z1
  go_wp2_with fail
  refine (few_T _ t0).mono ?_
  rintro e wa1 ⟨rfl, hb⟩
  have K1 := Lib.hid (K0.out.call hb)
  clear hb z0 z1 K0
  have zb := K1.out.bx 1 _ rfl
  have z0 := zb.c0
  have z1 := zb.c1
  clear zb
  go_wp2_with fail
  refine (few_T _ t1).mono ?_
  rintro e wa2 ⟨rfl, hb⟩
  have K2 := Lib.hid (K1.out.call hb)
  clear hb z0 z1 K1
  have zb := K2.out.bx 2 _ rfl
  have z0 := zb.c0
  have z1 := zb.c1
  clear zb
  rw [show w.heap.size + 2 = w.heap.size + 1 + 1 from rfl] at z0 z1
  go_wp2_with fail
  refine (few_T _ t2).mono ?_
  rintro e wa3 ⟨rfl, hb⟩
  have K3 := Lib.hid (K2.out.call hb)
  clear hb z0 z1 K2
  have zb := K3.out.bx 0 _ rfl
  have z0 := zb.c0
  have z1 := zb.c1
  clear zb
  simp only [Nat.add_zero] at z0 z1
  go_wp2_with fail
  refine (right_is HA1.out (by dsimp only; omega) K3.out.bl HR3.out).mono ?_
  rintro e wa4 ⟨rfl, hb⟩
  have K4 := Lib.hid (K3.out.call hb)
  clear hb z0 z1 K3
  have zb := K4.out.bx 1 _ rfl
  have z0 := zb.c0
  have z1 := zb.c1
  clear zb
  go_wp2_with fail
  refine (right_is HA2.out (by dsimp only; omega) K4.out.bl HR4.out).mono ?_
  rintro e wa5 ⟨rfl, hb⟩
  have K5 := Lib.hid (K4.out.call hb)
  clear hb z0 z1 K4
  have zb := K5.out.bx 2 _ rfl
  have z0 := zb.c0
  have z1 := zb.c1
  clear zb
  rw [show w.heap.size + 2 = w.heap.size + 1 + 1 from rfl] at z0 z1
  go_wp2_with fail
  refine (right_is HA3.out (by dsimp only; omega) K5.out.bl HR5.out).mono ?_
  rintro e wa6 ⟨rfl, hb⟩
  have K6 := Lib.hid (K5.out.call hb)
  clear hb z0 z1 K5
  have S0 := Lib.hid (K6.out.st3 HX1.out HX2.out HX3.out)
  clear K6 HX1 HA1 HX2 HA2 HX3 HA3 HT HZ HR3 HR4 HR5
  have Fa := S0.out.bx _ (List.mem_of_getElem? (i := 0) rfl)
  dsimp only at Fa
  have za0 := Fa.1.c0
  have za1 := Fa.1.c1
  have Ga := Lib.hid Fa.2
  clear Fa
  have Fb := S0.out.bx _ (List.mem_of_getElem? (i := 1) rfl)
  dsimp only at Fb
  have zb0 := Fb.1.c0
  have zb1 := Fb.1.c1
  have Gb := Lib.hid Fb.2
  clear Fb
  have M := Lib.hid (add_F Ga.out Gb.out (by decide) (by decide) c1a c2a)
  go_wp2_with fail
  refine M.out.mono ?_
  rintro e w1 ⟨s1, A1, n1, c1, rfl, -, hg1, hf1, hb1⟩
  have S1 := Lib.hid (S0.out.made hb1 hg1 hf1 c1)
  clear hg1 hf1 hb1 M S0
  clear za0 za1 Ga zb0 zb1 Gb
  have Fb := S1.out.bx _ (List.mem_of_getElem? (i := 2) rfl)
  dsimp only at Fb
  have zb0 := Fb.1.c0
  have zb1 := Fb.1.c1
  have Gb := Lib.hid Fb.2
  clear Fb
  have Fa := S1.out.bx _ (List.mem_of_getElem? (i := 1) rfl)
  dsimp only at Fa
  have za0 := Fa.1.c0
  have za1 := Fa.1.c1
  have Ga := Lib.hid Fa.2
  clear Fa
  have M := Lib.hid (add_F Gb.out Ga.out (by decide) (by decide) c2a c1a)
  go_wp2_with fail
  refine M.out.mono ?_
  rintro e w2 ⟨s2, A2, n2, c2, rfl, -, hg2, hf2, hb2⟩
  have S2 := Lib.hid (S1.out.made hb2 hg2 hf2 c2)
  clear hg2 hf2 hb2 M S1
  clear zb0 zb1 Gb za0 za1 Ga
  have Fb := S2.out.bx _ (List.mem_of_getElem? (i := 3) rfl)
  dsimp only at Fb
  have zb0 := Fb.1.c0
  have zb1 := Fb.1.c1
  have Gb := Lib.hid Fb.2
  clear Fb
  have Fc := S2.out.bx _ (List.mem_of_getElem? (i := 4) rfl)
  dsimp only at Fc
  have zc0 := Fc.1.c0
  have zc1 := Fc.1.c1
  have Gc := Lib.hid Fc.2
  clear Fc
  have M := Lib.hid (add_F Gb.out Gc.out (by decide) (by decide) c2a c3a)
  go_wp2_with fail
  refine M.out.mono ?_
  rintro e w3 ⟨s3, A3, n3, c3, rfl, -, hg3, hf3, hb3⟩
  have S3 := Lib.hid (S2.out.made hb3 hg3 hf3 c3)
  clear hg3 hf3 hb3 M S2
  clear zb0 zb1 Gb zc0 zc1 Gc
  have Fab := S3.out.bx _ (List.mem_of_getElem? (i := 2) rfl)
  dsimp only at Fab
  have zab0 := Fab.1.c0
  have zab1 := Fab.1.c1
  have Gab := Lib.hid Fab.2
  clear Fab
  have Fc := S3.out.bx _ (List.mem_of_getElem? (i := 5) rfl)
  dsimp only at Fc
  have zc0 := Fc.1.c0
  have zc1 := Fc.1.c1
  have Gc := Lib.hid Fc.2
  clear Fc
  have M := Lib.hid (add_F Gab.out Gc.out (by decide) (by decide) c1 c3a)
  go_wp2_with fail
  refine M.out.mono ?_
  rintro e w4 ⟨s4, A4, n4, c4, rfl, -, hg4, hf4, hb4⟩
  have S4 := Lib.hid (S3.out.made hb4 hg4 hf4 c4)
  clear hg4 hf4 hb4 M S3
  clear zab0 zab1 Gab zc0 zc1 Gc
  have Fa := S4.out.bx _ (List.mem_of_getElem? (i := 4) rfl)
  dsimp only at Fa
  have za0 := Fa.1.c0
  have za1 := Fa.1.c1
  have Ga := Lib.hid Fa.2
  clear Fa
  have Fbc := S4.out.bx _ (List.mem_of_getElem? (i := 1) rfl)
  dsimp only at Fbc
  have zbc0 := Fbc.1.c0
  have zbc1 := Fbc.1.c1
  have Gbc := Lib.hid Fbc.2
  clear Fbc
  have M := Lib.hid (add_F Ga.out Gbc.out (by decide) (by decide) c1a c3)
  go_wp2_with fail
  refine M.out.mono ?_
  rintro e w5 ⟨s5, A5, n5, c5, rfl, -, hg5, hf5, hb5⟩
  have S5 := Lib.hid (S4.out.made hb5 hg5 hf5 c5)
  clear hg5 hf5 hb5 M S4
  clear za0 za1 Ga zbc0 zbc1 Gbc
  have Fab := S5.out.bx _ (List.mem_of_getElem? (i := 4) rfl)
  dsimp only at Fab
  have zab0 := Fab.1.c0
  have zab1 := Fab.1.c1
  have Gab := Lib.hid Fab.2
  clear Fab
  have Fba := S5.out.bx _ (List.mem_of_getElem? (i := 3) rfl)
  dsimp only at Fba
  have zba0 := Fba.1.c0
  have zba1 := Fba.1.c1
  have Gba := Lib.hid Fba.2
  clear Fba
  have M := Lib.hid (refSame_B Gab.out Gba.out (by decide) (by decide) c1 c2 (r := true) (decide_eq_true (by first | omega | grind)))
  go_wp2_with fail
  refine M.out.mono ?_
  rintro e w6 ⟨rfl, hb6⟩
  have S6 := Lib.hid (S5.out.call hb6)
  clear hb6 M S5
  clear zab0 zab1 Gab zba0 zba1 Gba
  have Fleft := S6.out.bx _ (List.mem_of_getElem? (i := 1) rfl)
  dsimp only at Fleft
  have zleft0 := Fleft.1.c0
  have zleft1 := Fleft.1.c1
  have Gleft := Lib.hid Fleft.2
  clear Fleft
  have Fright := S6.out.bx _ (List.mem_of_getElem? (i := 0) rfl)
  dsimp only at Fright
  have zright0 := Fright.1.c0
  have zright1 := Fright.1.c1
  have Gright := Lib.hid Fright.2
  clear Fright
  have M := Lib.hid (refSame_B Gleft.out Gright.out (by decide) (by decide) c4 c5 (r := true) (decide_eq_true (by first | omega | grind)))
  go_wp2_with fail
  refine M.out.mono ?_
  rintro e w7 ⟨rfl, hb7⟩
  have S7 := Lib.hid (S6.out.call hb7)
  clear hb7 M S6
  clear zleft0 zleft1 Gleft zright0 zright1 Gright
  have Fa := S7.out.bx _ (List.mem_of_getElem? (i := 5) rfl)
  dsimp only at Fa
  have za0 := Fa.1.c0
  have za1 := Fa.1.c1
  have Ga := Lib.hid Fa.2
  clear Fa
  have Fb := S7.out.bx _ (List.mem_of_getElem? (i := 6) rfl)
  dsimp only at Fb
  have zb0 := Fb.1.c0
  have zb1 := Fb.1.c1
  have Gb := Lib.hid Fb.2
  clear Fb
  have M := Lib.hid (mul_F Ga.out Gb.out (by decide) (by decide) c1a c2a)
  go_wp2_with fail
  refine M.out.mono ?_
  rintro e w8 ⟨s8, A8, n8, c8, rfl, -, hg8, hf8, hb8⟩
  have S8 := Lib.hid (S7.out.made hb8 hg8 hf8 c8)
  clear hg8 hf8 hb8 M S7
  clear za0 za1 Ga zb0 zb1 Gb
  have Fb := S8.out.bx _ (List.mem_of_getElem? (i := 7) rfl)
  dsimp only at Fb
  have zb0 := Fb.1.c0
  have zb1 := Fb.1.c1
  have Gb := Lib.hid Fb.2
  clear Fb
  have Fa := S8.out.bx _ (List.mem_of_getElem? (i := 6) rfl)
  dsimp only at Fa
  have za0 := Fa.1.c0
  have za1 := Fa.1.c1
  have Ga := Lib.hid Fa.2
  clear Fa
  have M := Lib.hid (mul_F Gb.out Ga.out (by decide) (by decide) c2a c1a)
  go_wp2_with fail
  refine M.out.mono ?_
  rintro e w9 ⟨s9, A9, n9, c9, rfl, -, hg9, hf9, hb9⟩
  have S9 := Lib.hid (S8.out.made hb9 hg9 hf9 c9)
  clear hg9 hf9 hb9 M S8
  clear zb0 zb1 Gb za0 za1 Ga
  have Fb := S9.out.bx _ (List.mem_of_getElem? (i := 8) rfl)
  dsimp only at Fb
  have zb0 := Fb.1.c0
  have zb1 := Fb.1.c1
  have Gb := Lib.hid Fb.2
  clear Fb
  have Fc := S9.out.bx _ (List.mem_of_getElem? (i := 9) rfl)
  dsimp only at Fc
  have zc0 := Fc.1.c0
  have zc1 := Fc.1.c1
  have Gc := Lib.hid Fc.2
  clear Fc
  have M := Lib.hid (mul_F Gb.out Gc.out (by decide) (by decide) c2a c3a)
  go_wp2_with fail
  refine M.out.mono ?_
  rintro e w10 ⟨s10, A10, n10, c10, rfl, -, hg10, hf10, hb10⟩
  have S10 := Lib.hid (S9.out.made hb10 hg10 hf10 c10)
  clear hg10 hf10 hb10 M S9
  clear zb0 zb1 Gb zc0 zc1 Gc
  have Fp := S10.out.bx _ (List.mem_of_getElem? (i := 2) rfl)
  dsimp only at Fp
  have zp0 := Fp.1.c0
  have zp1 := Fp.1.c1
  have Gp := Lib.hid Fp.2
  clear Fp
  have Fc := S10.out.bx _ (List.mem_of_getElem? (i := 10) rfl)
  dsimp only at Fc
  have zc0 := Fc.1.c0
  have zc1 := Fc.1.c1
  have Gc := Lib.hid Fc.2
  clear Fc
  have M := Lib.hid (mul_F Gp.out Gc.out (by decide) (by decide) c8 c3a)
  go_wp2_with fail
  refine M.out.mono ?_
  rintro e w11 ⟨s11, A11, n11, c11, rfl, -, hg11, hf11, hb11⟩
  have S11 := Lib.hid (S10.out.put hb11 hg11 hf11 c11 (i := 4) rfl)
  simp only [List.set_cons_zero, List.set_cons_succ] at S11
  have hzz11 := hb11.size
  clear hzz11
  have cz0 := (S10.out.call hb11).bx _ (List.mem_of_getElem? (i := 4) rfl)
  dsimp only at cz0
  have cz1 := cz0.1.c0
  have cz2 := cz0.1.c1
  have cz3 := cz0.1.frozen 0
  have cz4 := cz0.1.frozen 1
  clear cz0
  clear hg11 hf11 hb11 M S10
  clear zp0 zp1 Gp zc0 zc1 Gc
  have Fa := S11.out.bx _ (List.mem_of_getElem? (i := 8) rfl)
  dsimp only at Fa
  have za0 := Fa.1.c0
  have za1 := Fa.1.c1
  have Ga := Lib.hid Fa.2
  clear Fa
  have Fr := S11.out.bx _ (List.mem_of_getElem? (i := 0) rfl)
  dsimp only at Fr
  have zr0 := Fr.1.c0
  have zr1 := Fr.1.c1
  have Gr := Lib.hid Fr.2
  clear Fr
  have M := Lib.hid (mul_F Ga.out Gr.out (by decide) (by decide) c1a c10)
  go_wp2_with fail
  clear cz1 cz2 cz3 cz4
  refine M.out.mono ?_
  rintro e w12 ⟨s12, A12, n12, c12, rfl, -, hg12, hf12, hb12⟩
  have S12 := Lib.hid (S11.out.put hb12 hg12 hf12 c12 (i := 3) rfl)
  simp only [List.set_cons_zero, List.set_cons_succ] at S12
  have hzz12 := hb12.size
  clear hzz12
  have cz0 := (S11.out.call hb12).bx _ (List.mem_of_getElem? (i := 3) rfl)
  dsimp only at cz0
  have cz1 := cz0.1.c0
  have cz2 := cz0.1.c1
  have cz3 := cz0.1.frozen 0
  have cz4 := cz0.1.frozen 1
  clear cz0
  clear hg12 hf12 hb12 M S11
  clear za0 za1 Ga zr0 zr1 Gr
  have Fp := S12.out.bx _ (List.mem_of_getElem? (i := 2) rfl)
  dsimp only at Fp
  have zp0 := Fp.1.c0
  have zp1 := Fp.1.c1
  have Gp := Lib.hid Fp.2
  clear Fp
  have Fq := S12.out.bx _ (List.mem_of_getElem? (i := 1) rfl)
  dsimp only at Fq
  have zq0 := Fq.1.c0
  have zq1 := Fq.1.c1
  have Gq := Lib.hid Fq.2
  clear Fq
  have M := Lib.hid (refSame_B Gp.out Gq.out (by decide) (by decide) c8 c9 (r := true) (decide_eq_true (by first | omega | grind)))
  go_wp2_with fail
  clear cz1 cz2 cz3 cz4
  refine M.out.mono ?_
  rintro e w13 ⟨rfl, hb13⟩
  have S13 := Lib.hid (S12.out.call hb13)
  clear hb13 M S12
  clear zp0 zp1 Gp zq0 zq1 Gq
  have Fleft2 := S13.out.bx _ (List.mem_of_getElem? (i := 4) rfl)
  dsimp only at Fleft2
  have zleft20 := Fleft2.1.c0
  have zleft21 := Fleft2.1.c1
  have Gleft2 := Lib.hid Fleft2.2
  clear Fleft2
  have Fright2 := S13.out.bx _ (List.mem_of_getElem? (i := 3) rfl)
  dsimp only at Fright2
  have zright20 := Fright2.1.c0
  have zright21 := Fright2.1.c1
  have Gright2 := Lib.hid Fright2.2
  clear Fright2
  have M := Lib.hid (refSame_B Gleft2.out Gright2.out (by decide) (by decide) c11 c12 (r := true) (decide_eq_true (by first | omega | grind)))
  go_wp2_with fail
  refine M.out.mono ?_
  rintro e w14 ⟨rfl, hb14⟩
  have S14 := Lib.hid (S13.out.call hb14)
  clear hb14 M S13
  clear zleft20 zleft21 Gleft2 zright20 zright21 Gright2
  have Fa := S14.out.bx _ (List.mem_of_getElem? (i := 8) rfl)
  dsimp only at Fa
  have za0 := Fa.1.c0
  have za1 := Fa.1.c1
  have Ga := Lib.hid Fa.2
  clear Fa
  have Fbc := S14.out.bx _ (List.mem_of_getElem? (i := 5) rfl)
  dsimp only at Fbc
  have zbc0 := Fbc.1.c0
  have zbc1 := Fbc.1.c1
  have Gbc := Lib.hid Fbc.2
  clear Fbc
  have M := Lib.hid (mul_F Ga.out Gbc.out (by decide) (by decide) c1a c3)
  go_wp2_with fail
  refine M.out.mono ?_
  rintro e w15 ⟨s15, A15, n15, c15, rfl, -, hg15, hf15, hb15⟩
  have S15 := Lib.hid (S14.out.made hb15 hg15 hf15 c15)
  clear hg15 hf15 hb15 M S14
  clear za0 za1 Ga zbc0 zbc1 Gbc
  have Fa := S15.out.bx _ (List.mem_of_getElem? (i := 9) rfl)
  dsimp only at Fa
  have za0 := Fa.1.c0
  have za1 := Fa.1.c1
  have Ga := Lib.hid Fa.2
  clear Fa
  have Fc := S15.out.bx _ (List.mem_of_getElem? (i := 11) rfl)
  dsimp only at Fc
  have zc0 := Fc.1.c0
  have zc1 := Fc.1.c1
  have Gc := Lib.hid Fc.2
  clear Fc
  have M := Lib.hid (mul_F Ga.out Gc.out (by decide) (by decide) c1a c3a)
  go_wp2_with fail
  refine M.out.mono ?_
  rintro e w16 ⟨s16, A16, n16, c16, rfl, -, hg16, hf16, hb16⟩
  have S16 := Lib.hid (S15.out.made hb16 hg16 hf16 c16)
  clear hg16 hf16 hb16 M S15
  clear za0 za1 Ga zc0 zc1 Gc
  have Fp := S16.out.bx _ (List.mem_of_getElem? (i := 4) rfl)
  dsimp only at Fp
  have zp0 := Fp.1.c0
  have zp1 := Fp.1.c1
  have Gp := Lib.hid Fp.2
  clear Fp
  have Ft := S16.out.bx _ (List.mem_of_getElem? (i := 0) rfl)
  dsimp only at Ft
  have zt0 := Ft.1.c0
  have zt1 := Ft.1.c1
  have Gt := Lib.hid Ft.2
  clear Ft
  have M := Lib.hid (add_F Gp.out Gt.out (by decide) (by decide) c8 c16)
  go_wp2_with fail
  refine M.out.mono ?_
  rintro e w17 ⟨s17, A17, n17, c17, rfl, -, hg17, hf17, hb17⟩
  have S17 := Lib.hid (S16.out.made hb17 hg17 hf17 c17)
  clear hg17 hf17 hb17 M S16
  clear zp0 zp1 Gp zt0 zt1 Gt
  have Fa := S17.out.bx _ (List.mem_of_getElem? (i := 11) rfl)
  dsimp only at Fa
  have za0 := Fa.1.c0
  have za1 := Fa.1.c1
  have Ga := Lib.hid Fa.2
  clear Fa
  have Fb := S17.out.bx _ (List.mem_of_getElem? (i := 12) rfl)
  dsimp only at Fb
  have zb0 := Fb.1.c0
  have zb1 := Fb.1.c1
  have Gb := Lib.hid Fb.2
  clear Fb
  have M := Lib.hid (sub_F Ga.out Gb.out (by decide) (by decide) c1a c2a)
  go_wp2_with fail
  refine M.out.mono ?_
  rintro e w18 ⟨s18, A18, n18, c18, rfl, -, hg18, hf18, hb18⟩
  have S18 := Lib.hid (S17.out.made hb18 hg18 hf18 c18)
  clear hg18 hf18 hb18 M S17
  clear za0 za1 Ga zb0 zb1 Gb
  have Fd := S18.out.bx _ (List.mem_of_getElem? (i := 0) rfl)
  dsimp only at Fd
  have zd0 := Fd.1.c0
  have zd1 := Fd.1.c1
  have Gd := Lib.hid Fd.2
  clear Fd
  have Fb := S18.out.bx _ (List.mem_of_getElem? (i := 13) rfl)
  dsimp only at Fb
  have zb0 := Fb.1.c0
  have zb1 := Fb.1.c1
  have Gb := Lib.hid Fb.2
  clear Fb
  have M := Lib.hid (add_F Gd.out Gb.out (by decide) (by decide) c18 c2a)
  go_wp2_with fail
  refine M.out.mono ?_
  rintro e w19 ⟨s19, A19, n19, c19, rfl, -, hg19, hf19, hb19⟩
  have S19 := Lib.hid (S18.out.made hb19 hg19 hf19 c19)
  clear hg19 hf19 hb19 M S18
  clear zd0 zd1 Gd zb0 zb1 Gb
  have Fs := S19.out.bx _ (List.mem_of_getElem? (i := 4) rfl)
  dsimp only at Fs
  have zs0 := Fs.1.c0
  have zs1 := Fs.1.c1
  have Gs := Lib.hid Fs.2
  clear Fs
  have Fu := S19.out.bx _ (List.mem_of_getElem? (i := 2) rfl)
  dsimp only at Fu
  have zu0 := Fu.1.c0
  have zu1 := Fu.1.c1
  have Gu := Lib.hid Fu.2
  clear Fu
  have M := Lib.hid (refSame_B Gs.out Gu.out (by decide) (by decide) c15 c17 (r := true) (decide_eq_true (by first | omega | grind)))
  go_wp2_with fail
  refine M.out.mono ?_
  rintro e w20 ⟨rfl, hb20⟩
  have S20 := Lib.hid (S19.out.call hb20)
  clear hb20 M S19
  clear zs0 zs1 Gs zu0 zu1 Gu
  have Fback := S20.out.bx _ (List.mem_of_getElem? (i := 0) rfl)
  dsimp only at Fback
  have zback0 := Fback.1.c0
  have zback1 := Fback.1.c1
  have Gback := Lib.hid Fback.2
  clear Fback
  have Fa := S20.out.bx _ (List.mem_of_getElem? (i := 13) rfl)
  dsimp only at Fa
  have za0 := Fa.1.c0
  have za1 := Fa.1.c1
  have Ga := Lib.hid Fa.2
  clear Fa
  have M := Lib.hid (refSame_B Gback.out Ga.out (by decide) (by decide) c19 c1a (r := true) (decide_eq_true (by first | omega | grind)))
  go_wp2_with fail
  refine M.out.mono ?_
  rintro e w21 ⟨rfl, hb21⟩
  have S21 := Lib.hid (S20.out.call hb21)
  clear hb21 M S20
  clear zback0 zback1 Gback za0 za1 Ga
  go_upto_region 25 with (fail)
  have Fa := S21.out.bx _ (List.mem_of_getElem? (i := 13) rfl)
  dsimp only at Fa
  have za0 := Fa.1.c0
  have za1 := Fa.1.c1
  have Ga := Lib.hid Fa.2
  clear Fa
  obtain ⟨L22, HL22⟩ : ∃ L : List BoxR, Hid (L = [⟨w19.heap.size, ((25 + 25 + 1) + 25 + 1), ((x1 - x2) + x2), s19, A19, n19, c19⟩, ⟨w18.heap.size, (25 + 25 + 1), (x1 - x2), s18, A18, n18, c18⟩, ⟨w17.heap.size, ((25 + 25) + (25 + 25) + 1), ((x1 * x2) + (x1 * x3)), s17, A17, n17, c17⟩, ⟨w16.heap.size, (25 + 25), (x1 * x3), s16, A16, n16, c16⟩, ⟨w15.heap.size, (25 + (25 + 25 + 1)), (x1 * (x2 + x3)), s15, A15, n15, c15⟩, ⟨w10.heap.size, (25 + 25), (x2 * x3), s10, A10, n10, c10⟩, ⟨w9.heap.size, (25 + 25), (x2 * x1), s9, A9, n9, c9⟩, ⟨w8.heap.size, (25 + 25), (x1 * x2), s8, A8, n8, c8⟩, ⟨w5.heap.size, (25 + (25 + 25)), (x1 * (x2 * x3)), s12, A12, n12, c12⟩, ⟨w4.heap.size, ((25 + 25) + 25), ((x1 * x2) * x3), s11, A11, n11, c11⟩, ⟨w3.heap.size, (25 + 25 + 1), (x2 + x3), s3, A3, n3, c3⟩, ⟨w2.heap.size, (25 + 25 + 1), (x2 + x1), s2, A2, n2, c2⟩, ⟨w1.heap.size, (25 + 25 + 1), (x1 + x2), s1, A1, n1, c1⟩, ⟨w.heap.size, 25, x1, s1a, A1a, n1a, c1a⟩, ⟨w.heap.size + 1, 25, x2, s2a, A2a, n2a, c2a⟩, ⟨w.heap.size + 1 + 1, 25, x3, s3a, A3a, n3a, c3a⟩]) := ⟨_, rfl⟩
  rw [← HL22.out] at S21
  have hlt : w.heap.size < w21.heap.size := World.block_lt_of_cell? _ _ za0
  have HO := Lib.hid (fun wx => of_F 0 wx (by decide) (by decide))
  go_cut [26, 9] from 239 (fun sp sq wc => sq = .int .i64 0 ∧ ∃ b s A n c, sp = .pointer (some ⟨b, 0, none⟩) ∧ Hid (StR w wc (⟨b, (25 + 4 + 1), (x1 + 0), s, A, n, c⟩ :: L22)))
  case first =>
    have SD := Lib.hid (S21.out.call (Below.refl _ _).drew)
    have SN : Hid (StR w (w21.drew.alloc (.cells #[.int .i64 0, .slice none 0 0] 24)) (⟨w21.heap.size, 4, 0, 0, none, 0, 0⟩ :: L22)) := SD.out.made (Below.refl _ _) (Bg.nil _ 4) (fun h => absurd h (by omega)) 0
    go_region_held3 (fun w' => w'.cell? ⟨w.heap.size, 0, none⟩ = some (.int .i64 s1a) ∧ w'.cell? ⟨w.heap.size, 1, none⟩ = some (.slice A1a n1a c1a))
      (first | exact ⟨y0, y1⟩ | exact ⟨alc y0, alc y1⟩ | exact ⟨u0, u1⟩ | exact ⟨alc u0, alc u1⟩ | exact ⟨za0, za1⟩ | exact ⟨alc za0, alc za1⟩ | exact ⟨stc y0 (by have := B0.out.size; dsimp only; omega), stc y1 (by have := B0.out.size; dsimp only; omega)⟩ | exact ⟨stc (stc y0 (by have := B0.out.size; dsimp only; omega)) (by have := B0.out.size; dsimp only; omega), stc (stc y1 (by have := B0.out.size; dsimp only; omega)) (by have := B0.out.size; dsimp only; omega)⟩)
      (first | (go_at_call 16; (with_reducible refine (HO.out _).mono ?_); (rintro e wo ⟨so, Ao, no, co, rfl, -, ho, fo, bo⟩; (first | (have SO := Lib.hid (SD.out.call bo); have B0 := Lib.hid ((Below.refl w21.heap.size w21).drew.trans bo)) | (have SO2 := Lib.hid (SN.out.call bo); have B0 := Lib.hid (((Below.refl w21.heap.size w21).drew.alloc (Nat.le_refl _) _).trans (bo.mono (by simp))))); have u0 := (B0.out.cell (p := ⟨w.heap.size, 0, none⟩) hlt).trans za0; have u1 := (B0.out.cell (p := ⟨w.heap.size, 1, none⟩) hlt).trans za1; have HOg := Lib.hid ho; clear ho fo bo)) | (go_at_call 12; (first | ((with_reducible refine (add_F (Ga.out.past B0.out) HOg.out (by decide) (by decide) _ _).mono ?_); rintro e w2 ⟨s2, A2, n2, c2, rfl, -, h2, f2, b2⟩; have B2 := Lib.hid (B0.out.trans (b2.mono B0.out.size))) | ((with_reducible refine (add_F (Ga.out.past (B0.out.alloc B0.out.size _)) (HOg.out.past ((Below.refl _ _).alloc (Nat.le_refl _) _)) (by decide) (by decide) _ _).mono ?_); rintro e w2 ⟨s2, A2, n2, c2, rfl, -, h2, f2, b2⟩; have B2 := Lib.hid ((B0.out.alloc B0.out.size _).trans (b2.mono (Nat.le_trans B0.out.size (by simp)))))); have y0 := (B2.out.cell (p := ⟨w.heap.size, 0, none⟩) hlt).trans za0; have y1 := (B2.out.cell (p := ⟨w.heap.size, 1, none⟩) hlt).trans za1; (first | (have PP := Lib.hid (SO2.out.put b2 h2 f2 c2 (i := 0) rfl); have QQ := (SO2.out.call b2).bx _ List.mem_cons_self; have q0 := QQ.1.c0; have q1 := QQ.1.c1; have q2 := QQ.1.frozen 0; have q3 := QQ.1.frozen 1; clear QQ) | (have PP := Lib.hid ((SO.out.made (Below.refl _ _) (Bg.nil _ 4) (fun h => absurd h (by omega)) 0).put b2 h2 f2 c2 (i := 0) rfl); have QQ := ((SO.out.made (Below.refl _ _) (Bg.nil _ 4) (fun h => absurd h (by omega)) 0).call b2).bx _ List.mem_cons_self; have q0 := QQ.1.c0; have q1 := QQ.1.c1; have q2 := QQ.1.frozen 0; have q3 := QQ.1.frozen 1; clear QQ) | (have PP := Lib.hid (SO.out.made b2 h2 f2 c2))); clear h2 f2 b2))
    all_goals
      go_wp2_with fail
      go_meet
      exact ⟨rfl, _, _, _, _, _, rfl, PP⟩
  obtain ⟨rfl, b22, s22, A22, n22, c22, rfl, S22⟩ := hcut
  rw [HL22.out] at S22
  clear S21 hlt HO za0 za1 Ga HL22
  go_upto_region 26 with (fail)
  have Fa := S22.out.bx _ (List.mem_of_getElem? (i := 14) rfl)
  dsimp only at Fa
  have za0 := Fa.1.c0
  have za1 := Fa.1.c1
  have Ga := Lib.hid Fa.2
  clear Fa
  obtain ⟨L23, HL23⟩ : ∃ L : List BoxR, Hid (L = [⟨b22, (25 + 4 + 1), (x1 + 0), s22, A22, n22, c22⟩, ⟨w19.heap.size, ((25 + 25 + 1) + 25 + 1), ((x1 - x2) + x2), s19, A19, n19, c19⟩, ⟨w18.heap.size, (25 + 25 + 1), (x1 - x2), s18, A18, n18, c18⟩, ⟨w17.heap.size, ((25 + 25) + (25 + 25) + 1), ((x1 * x2) + (x1 * x3)), s17, A17, n17, c17⟩, ⟨w16.heap.size, (25 + 25), (x1 * x3), s16, A16, n16, c16⟩, ⟨w15.heap.size, (25 + (25 + 25 + 1)), (x1 * (x2 + x3)), s15, A15, n15, c15⟩, ⟨w10.heap.size, (25 + 25), (x2 * x3), s10, A10, n10, c10⟩, ⟨w9.heap.size, (25 + 25), (x2 * x1), s9, A9, n9, c9⟩, ⟨w8.heap.size, (25 + 25), (x1 * x2), s8, A8, n8, c8⟩, ⟨w5.heap.size, (25 + (25 + 25)), (x1 * (x2 * x3)), s12, A12, n12, c12⟩, ⟨w4.heap.size, ((25 + 25) + 25), ((x1 * x2) * x3), s11, A11, n11, c11⟩, ⟨w3.heap.size, (25 + 25 + 1), (x2 + x3), s3, A3, n3, c3⟩, ⟨w2.heap.size, (25 + 25 + 1), (x2 + x1), s2, A2, n2, c2⟩, ⟨w1.heap.size, (25 + 25 + 1), (x1 + x2), s1, A1, n1, c1⟩, ⟨w.heap.size, 25, x1, s1a, A1a, n1a, c1a⟩, ⟨w.heap.size + 1, 25, x2, s2a, A2a, n2a, c2a⟩, ⟨w.heap.size + 1 + 1, 25, x3, s3a, A3a, n3a, c3a⟩]) := ⟨_, rfl⟩
  rw [← HL23.out] at S22
  have hlt : w.heap.size < wc.heap.size := World.block_lt_of_cell? _ _ za0
  have HO := Lib.hid (fun wx => of_F 1 wx (by decide) (by decide))
  go_cut [27, 11] from 245 (fun sp sq wc => sq = .int .i64 0 ∧ ∃ b s A n c, sp = .pointer (some ⟨b, 0, none⟩) ∧ Hid (StR w wc (⟨b, (25 + 4), (x1 * 1), s, A, n, c⟩ :: L23)))
  case first =>
    have SD := Lib.hid (S22.out.call (Below.refl _ _).drew)
    have SN : Hid (StR w (wc.drew.alloc (.cells #[.int .i64 0, .slice none 0 0] 24)) (⟨wc.heap.size, 4, 0, 0, none, 0, 0⟩ :: L23)) := SD.out.made (Below.refl _ _) (Bg.nil _ 4) (fun h => absurd h (by omega)) 0
    go_region_held3 (fun w' => w'.cell? ⟨w.heap.size, 0, none⟩ = some (.int .i64 s1a) ∧ w'.cell? ⟨w.heap.size, 1, none⟩ = some (.slice A1a n1a c1a))
      (first | exact ⟨y0, y1⟩ | exact ⟨alc y0, alc y1⟩ | exact ⟨u0, u1⟩ | exact ⟨alc u0, alc u1⟩ | exact ⟨za0, za1⟩ | exact ⟨alc za0, alc za1⟩ | exact ⟨stc y0 (by have := B0.out.size; dsimp only; omega), stc y1 (by have := B0.out.size; dsimp only; omega)⟩ | exact ⟨stc (stc y0 (by have := B0.out.size; dsimp only; omega)) (by have := B0.out.size; dsimp only; omega), stc (stc y1 (by have := B0.out.size; dsimp only; omega)) (by have := B0.out.size; dsimp only; omega)⟩)
      (first | (go_at_call 16; (with_reducible refine (HO.out _).mono ?_); (rintro e wo ⟨so, Ao, no, co, rfl, -, ho, fo, bo⟩; (first | (have SO := Lib.hid (SD.out.call bo); have B0 := Lib.hid ((Below.refl wc.heap.size wc).drew.trans bo)) | (have SO2 := Lib.hid (SN.out.call bo); have B0 := Lib.hid (((Below.refl wc.heap.size wc).drew.alloc (Nat.le_refl _) _).trans (bo.mono (by simp))))); have u0 := (B0.out.cell (p := ⟨w.heap.size, 0, none⟩) hlt).trans za0; have u1 := (B0.out.cell (p := ⟨w.heap.size, 1, none⟩) hlt).trans za1; have HOg := Lib.hid ho; clear ho fo bo)) | (go_at_call 14; (first | ((with_reducible refine (mul_F (Ga.out.past B0.out) HOg.out (by decide) (by decide) _ _).mono ?_); rintro e w2 ⟨s2, A2, n2, c2, rfl, -, h2, f2, b2⟩; have B2 := Lib.hid (B0.out.trans (b2.mono B0.out.size))) | ((with_reducible refine (mul_F (Ga.out.past (B0.out.alloc B0.out.size _)) (HOg.out.past ((Below.refl _ _).alloc (Nat.le_refl _) _)) (by decide) (by decide) _ _).mono ?_); rintro e w2 ⟨s2, A2, n2, c2, rfl, -, h2, f2, b2⟩; have B2 := Lib.hid ((B0.out.alloc B0.out.size _).trans (b2.mono (Nat.le_trans B0.out.size (by simp)))))); have y0 := (B2.out.cell (p := ⟨w.heap.size, 0, none⟩) hlt).trans za0; have y1 := (B2.out.cell (p := ⟨w.heap.size, 1, none⟩) hlt).trans za1; (first | (have PP := Lib.hid (SO2.out.put b2 h2 f2 c2 (i := 0) rfl); have QQ := (SO2.out.call b2).bx _ List.mem_cons_self; have q0 := QQ.1.c0; have q1 := QQ.1.c1; have q2 := QQ.1.frozen 0; have q3 := QQ.1.frozen 1; clear QQ) | (have PP := Lib.hid ((SO.out.made (Below.refl _ _) (Bg.nil _ 4) (fun h => absurd h (by omega)) 0).put b2 h2 f2 c2 (i := 0) rfl); have QQ := ((SO.out.made (Below.refl _ _) (Bg.nil _ 4) (fun h => absurd h (by omega)) 0).call b2).bx _ List.mem_cons_self; have q0 := QQ.1.c0; have q1 := QQ.1.c1; have q2 := QQ.1.frozen 0; have q3 := QQ.1.frozen 1; clear QQ) | (have PP := Lib.hid (SO.out.made b2 h2 f2 c2))); clear h2 f2 b2))
    all_goals
      go_wp2_with fail
      go_meet
      exact ⟨rfl, _, _, _, _, _, rfl, PP⟩
  obtain ⟨rfl, b23, s23, A23, n23, c23, rfl, S23⟩ := hcut
  rw [HL23.out] at S23
  clear S22 hlt HO za0 za1 Ga HL23
  go_upto_region 27 with (fail)
  have Fa := S23.out.bx _ (List.mem_of_getElem? (i := 15) rfl)
  dsimp only at Fa
  have za0 := Fa.1.c0
  have za1 := Fa.1.c1
  have Ga := Lib.hid Fa.2
  clear Fa
  obtain ⟨L24, HL24⟩ : ∃ L : List BoxR, Hid (L = [⟨b23, (25 + 4), (x1 * 1), s23, A23, n23, c23⟩, ⟨b22, (25 + 4 + 1), (x1 + 0), s22, A22, n22, c22⟩, ⟨w19.heap.size, ((25 + 25 + 1) + 25 + 1), ((x1 - x2) + x2), s19, A19, n19, c19⟩, ⟨w18.heap.size, (25 + 25 + 1), (x1 - x2), s18, A18, n18, c18⟩, ⟨w17.heap.size, ((25 + 25) + (25 + 25) + 1), ((x1 * x2) + (x1 * x3)), s17, A17, n17, c17⟩, ⟨w16.heap.size, (25 + 25), (x1 * x3), s16, A16, n16, c16⟩, ⟨w15.heap.size, (25 + (25 + 25 + 1)), (x1 * (x2 + x3)), s15, A15, n15, c15⟩, ⟨w10.heap.size, (25 + 25), (x2 * x3), s10, A10, n10, c10⟩, ⟨w9.heap.size, (25 + 25), (x2 * x1), s9, A9, n9, c9⟩, ⟨w8.heap.size, (25 + 25), (x1 * x2), s8, A8, n8, c8⟩, ⟨w5.heap.size, (25 + (25 + 25)), (x1 * (x2 * x3)), s12, A12, n12, c12⟩, ⟨w4.heap.size, ((25 + 25) + 25), ((x1 * x2) * x3), s11, A11, n11, c11⟩, ⟨w3.heap.size, (25 + 25 + 1), (x2 + x3), s3, A3, n3, c3⟩, ⟨w2.heap.size, (25 + 25 + 1), (x2 + x1), s2, A2, n2, c2⟩, ⟨w1.heap.size, (25 + 25 + 1), (x1 + x2), s1, A1, n1, c1⟩, ⟨w.heap.size, 25, x1, s1a, A1a, n1a, c1a⟩, ⟨w.heap.size + 1, 25, x2, s2a, A2a, n2a, c2a⟩, ⟨w.heap.size + 1 + 1, 25, x3, s3a, A3a, n3a, c3a⟩]) := ⟨_, rfl⟩
  rw [← HL24.out] at S23
  have hlt : w.heap.size < wc.heap.size := World.block_lt_of_cell? _ _ za0
  have HO := Lib.hid (fun wx => of_F 0 wx (by decide) (by decide))
  go_cut [28, 13] from 251 (fun sp sq wc => sq = .int .i64 0 ∧ ∃ b s A n c, sp = .pointer (some ⟨b, 0, none⟩) ∧ Hid (StR w wc (⟨b, (25 + 4), (x1 * 0), s, A, n, c⟩ :: L24)))
  case first =>
    have SD := Lib.hid (S23.out.call (Below.refl _ _).drew)
    have SN : Hid (StR w (wc.drew.alloc (.cells #[.int .i64 0, .slice none 0 0] 24)) (⟨wc.heap.size, 4, 0, 0, none, 0, 0⟩ :: L24)) := SD.out.made (Below.refl _ _) (Bg.nil _ 4) (fun h => absurd h (by omega)) 0
    go_region_held3 (fun w' => w'.cell? ⟨w.heap.size, 0, none⟩ = some (.int .i64 s1a) ∧ w'.cell? ⟨w.heap.size, 1, none⟩ = some (.slice A1a n1a c1a))
      (first | exact ⟨y0, y1⟩ | exact ⟨alc y0, alc y1⟩ | exact ⟨u0, u1⟩ | exact ⟨alc u0, alc u1⟩ | exact ⟨za0, za1⟩ | exact ⟨alc za0, alc za1⟩ | exact ⟨stc y0 (by have := B0.out.size; dsimp only; omega), stc y1 (by have := B0.out.size; dsimp only; omega)⟩ | exact ⟨stc (stc y0 (by have := B0.out.size; dsimp only; omega)) (by have := B0.out.size; dsimp only; omega), stc (stc y1 (by have := B0.out.size; dsimp only; omega)) (by have := B0.out.size; dsimp only; omega)⟩)
      (first | (go_at_call 16; (with_reducible refine (HO.out _).mono ?_); (rintro e wo ⟨so, Ao, no, co, rfl, -, ho, fo, bo⟩; (first | (have SO := Lib.hid (SD.out.call bo); have B0 := Lib.hid ((Below.refl wc.heap.size wc).drew.trans bo)) | (have SO2 := Lib.hid (SN.out.call bo); have B0 := Lib.hid (((Below.refl wc.heap.size wc).drew.alloc (Nat.le_refl _) _).trans (bo.mono (by simp))))); have u0 := (B0.out.cell (p := ⟨w.heap.size, 0, none⟩) hlt).trans za0; have u1 := (B0.out.cell (p := ⟨w.heap.size, 1, none⟩) hlt).trans za1; have HOg := Lib.hid ho; clear ho fo bo)) | (go_at_call 14; (first | ((with_reducible refine (mul_F (Ga.out.past B0.out) HOg.out (by decide) (by decide) _ _).mono ?_); rintro e w2 ⟨s2, A2, n2, c2, rfl, -, h2, f2, b2⟩; have B2 := Lib.hid (B0.out.trans (b2.mono B0.out.size))) | ((with_reducible refine (mul_F (Ga.out.past (B0.out.alloc B0.out.size _)) (HOg.out.past ((Below.refl _ _).alloc (Nat.le_refl _) _)) (by decide) (by decide) _ _).mono ?_); rintro e w2 ⟨s2, A2, n2, c2, rfl, -, h2, f2, b2⟩; have B2 := Lib.hid ((B0.out.alloc B0.out.size _).trans (b2.mono (Nat.le_trans B0.out.size (by simp)))))); have y0 := (B2.out.cell (p := ⟨w.heap.size, 0, none⟩) hlt).trans za0; have y1 := (B2.out.cell (p := ⟨w.heap.size, 1, none⟩) hlt).trans za1; (first | (have PP := Lib.hid (SO2.out.put b2 h2 f2 c2 (i := 0) rfl); have QQ := (SO2.out.call b2).bx _ List.mem_cons_self; have q0 := QQ.1.c0; have q1 := QQ.1.c1; have q2 := QQ.1.frozen 0; have q3 := QQ.1.frozen 1; clear QQ) | (have PP := Lib.hid ((SO.out.made (Below.refl _ _) (Bg.nil _ 4) (fun h => absurd h (by omega)) 0).put b2 h2 f2 c2 (i := 0) rfl); have QQ := ((SO.out.made (Below.refl _ _) (Bg.nil _ 4) (fun h => absurd h (by omega)) 0).call b2).bx _ List.mem_cons_self; have q0 := QQ.1.c0; have q1 := QQ.1.c1; have q2 := QQ.1.frozen 0; have q3 := QQ.1.frozen 1; clear QQ) | (have PP := Lib.hid (SO.out.made b2 h2 f2 c2))); clear h2 f2 b2))
    all_goals
      go_wp2_with fail
      go_meet
      exact ⟨rfl, _, _, _, _, _, rfl, PP⟩
  obtain ⟨rfl, b24, s24, A24, n24, c24, rfl, S24⟩ := hcut
  rw [HL24.out] at S24
  clear S23 hlt HO za0 za1 Ga HL24
  have Fzero := S24.out.bx _ (List.mem_of_getElem? (i := 2) rfl)
  dsimp only at Fzero
  have zzero0 := Fzero.1.c0
  have zzero1 := Fzero.1.c1
  have Gzero := Lib.hid Fzero.2
  clear Fzero
  have Fa := S24.out.bx _ (List.mem_of_getElem? (i := 16) rfl)
  dsimp only at Fa
  have za0 := Fa.1.c0
  have za1 := Fa.1.c1
  have Ga := Lib.hid Fa.2
  clear Fa
  have M := Lib.hid (refSame_B Gzero.out Ga.out (by decide) (by decide) c22 c1a (r := true) (decide_eq_true (by first | omega | grind)))
  go_wp2_with fail
  refine M.out.mono ?_
  rintro e w25 ⟨rfl, hb25⟩
  have S25 := Lib.hid (S24.out.call hb25)
  clear hb25 M S24
  clear zzero0 zzero1 Gzero za0 za1 Ga
  have Fone := S25.out.bx _ (List.mem_of_getElem? (i := 1) rfl)
  dsimp only at Fone
  have zone0 := Fone.1.c0
  have zone1 := Fone.1.c1
  have Gone := Lib.hid Fone.2
  clear Fone
  have Fa := S25.out.bx _ (List.mem_of_getElem? (i := 16) rfl)
  dsimp only at Fa
  have za0 := Fa.1.c0
  have za1 := Fa.1.c1
  have Ga := Lib.hid Fa.2
  clear Fa
  have M := Lib.hid (refSame_B Gone.out Ga.out (by decide) (by decide) c23 c1a (r := true) (decide_eq_true (by first | omega | grind)))
  go_wp2_with fail
  refine M.out.mono ?_
  rintro e w26 ⟨rfl, hb26⟩
  have S26 := Lib.hid (S25.out.call hb26)
  clear hb26 M S25
  clear zone0 zone1 Gone za0 za1 Ga
  have Fnone := S26.out.bx _ (List.mem_of_getElem? (i := 0) rfl)
  dsimp only at Fnone
  have znone0 := Fnone.1.c0
  have znone1 := Fnone.1.c1
  have Gnone := Lib.hid Fnone.2
  clear Fnone
  have M := Lib.hid (refSame_B Gnone.out (Bg.nil _ 4) (by decide) (by decide) c24 0 (r := true) (decide_eq_true (by grind)))
  go_wp2_with fail
  refine M.out.mono ?_
  rintro e wz ⟨rfl, hbz⟩
  have SZ := Lib.hid (S26.out.call hbz)
  clear hbz M S26 znone0 znone1 Gnone
  go_wp2_with fail
  go_ret
  exact ⟨rfl, SZ.out.bl⟩
theorem ring_walk (s1a : Int) (A1a : Option Addr) (n1a c1a : Nat) (l1a : List Int) (s2a : Int) (A2a : Option Addr) (n2a c2a : Nat) (l2a : List Int) (s3a : Int) (A3a : Option Addr) (n3a c3a : Nat) (l3a : List Int) (w : World) (ha1 : BigArg w ⟨s1a, A1a, n1a, c1a⟩ l1a) (ha2 : BigArg w ⟨s2a, A2a, n2a, c2a⟩ l2a) (ha3 : BigArg w ⟨s3a, A3a, n3a, c3a⟩ l3a) (hT : Tab w) (hZ : TabZ w) :
    Calls Tryd.prog 3 #[.agg #[.int .i64 s1a, .slice A1a n1a c1a], .agg #[.int .i64 s2a, .slice A2a n2a c2a], .agg #[.int .i64 s3a, .slice A3a n3a c3a]] w fun e w' => e = .returned (.bool true) ∧ Below w.heap.size w w' := by
  by_cases t0 : (n1a : Int) ≤ 25
  case neg => exact ring_e0 s1a A1a n1a c1a l1a s2a A2a n2a c2a l2a s3a A3a n3a c3a l3a w ha1 ha2 ha3 hT hZ  (Int.not_le.1 t0)
  by_cases t1 : (n2a : Int) ≤ 25
  case neg => exact ring_e1 s1a A1a n1a c1a l1a s2a A2a n2a c2a l2a s3a A3a n3a c3a l3a w ha1 ha2 ha3 hT hZ t0 (Int.not_le.1 t1)
  by_cases t2 : (n3a : Int) ≤ 25
  case neg => exact ring_e2 s1a A1a n1a c1a l1a s2a A2a n2a c2a l2a s3a A3a n3a c3a l3a w ha1 ha2 ha3 hT hZ t0 t1 (Int.not_le.1 t2)
  cases t3 : rightB s1a l1a
  case false => exact ring_e3 s1a A1a n1a c1a l1a s2a A2a n2a c2a l2a s3a A3a n3a c3a l3a w ha1 ha2 ha3 hT hZ t0 t1 t2 t3
  cases t4 : rightB s2a l2a
  case false => exact ring_e4 s1a A1a n1a c1a l1a s2a A2a n2a c2a l2a s3a A3a n3a c3a l3a w ha1 ha2 ha3 hT hZ t0 t1 t2 t3 t4
  cases t5 : rightB s3a l3a
  case false => exact ring_e5 s1a A1a n1a c1a l1a s2a A2a n2a c2a l2a s3a A3a n3a c3a l3a w ha1 ha2 ha3 hT hZ t0 t1 t2 t3 t4 t5
  exact ring_main s1a A1a n1a c1a l1a s2a A2a n2a c2a l2a s3a A3a n3a c3a l3a w ha1 ha2 ha3 hT hZ t0 t1 t2 t3 t4 t5
end Go.Proofs.YtnadnobpejccpaaDoor
