/- The walk of the law BigGcd. Conditions: the arguments' memory, the tables of math/bits and strconv. -/
import Derived.Test.YtoocdokhljpokaaDoorH4
import Derived.Test.YtoocdokhljpokaaDoorH5
import Derived.Test.YtoocdokhljpokaaDoorH6
import Derived.Deep.DeepCutAuto
namespace Go.Proofs.YtoocdokhljpokaaDoor
set_option maxRecDepth 8000
open Go.RowKit
set_option maxRecDepth 100000 in
set_option maxHeartbeats 4000000 in
theorem gcd_e0 (s1a : Int) (A1a : Option Addr) (n1a c1a : Nat) (l1a : List Int) (s2a : Int) (A2a : Option Addr) (n2a c2a : Nat) (l2a : List Int) (s3a : Int) (A3a : Option Addr) (n3a c3a : Nat) (l3a : List Int) (w : World) (ha1 : BigArg w ⟨s1a, A1a, n1a, c1a⟩ l1a) (ha2 : BigArg w ⟨s2a, A2a, n2a, c2a⟩ l2a) (ha3 : BigArg w ⟨s3a, A3a, n3a, c3a⟩ l3a) (hT : Tab w) (hZ : TabZ w)  (t0 : (12 : Int) < (n1a : Int)) :
    Calls Tryd.prog 3 #[.agg #[.int .i64 s1a, .slice A1a n1a c1a], .agg #[.int .i64 s2a, .slice A2a n2a c2a], .agg #[.int .i64 s3a, .slice A3a n3a c3a]] w fun e w' => e = .returned (.bool true) ∧ Below w.heap.size w w' := by
  have HR0 := Lib.hid t0
  clear t0
  have HT := Lib.hid hT
  have HZ := Lib.hid hZ
  have HA1 := Lib.hid ha1
  have HA2 := Lib.hid ha2
  have HA3 := Lib.hid ha3
  clear hT hZ ha1 ha2 ha3
  have K := Lib.hid (show BxA w _ [⟨s1a, A1a, n1a, c1a⟩, ⟨s2a, A2a, n2a, c2a⟩, ⟨s3a, A3a, n3a, c3a⟩] from ((((BxA.new w).box (by simp) ⟨s1a, A1a, n1a, c1a⟩).box (by simp) ⟨s2a, A2a, n2a, c2a⟩).box (by simp) ⟨s3a, A3a, n3a, c3a⟩))
  go_enter Tryd.func3, Tryd.ntmps3
  go_wp2_with fail
  refine (small_any _ (HT.out.on K.out.bl) (HZ.out.on K.out.bl)).mono ?_
  rintro e wa0 ⟨rfl, hb⟩
  have K0 := Lib.hid (K.out.call hb)
  clear hb K
  have zb := K0.out.bx 0 _ rfl
  have z0 := zb.c0
  have z1 := zb.c1
  clear zb
  simp only [Nat.add_zero] at z0 z1
  go_wp2_with fail
  refine (few_F _ HR0.out).mono ?_
  rintro e wa1 ⟨rfl, hb⟩
  have K1 := Lib.hid (K0.out.call hb)
  clear hb z0 z1 K0
  go_wp2_with fail
  go_ret
  exact ⟨rfl, K1.out.bl⟩
set_option maxRecDepth 100000 in
set_option maxHeartbeats 4000000 in
theorem gcd_e1 (s1a : Int) (A1a : Option Addr) (n1a c1a : Nat) (l1a : List Int) (s2a : Int) (A2a : Option Addr) (n2a c2a : Nat) (l2a : List Int) (s3a : Int) (A3a : Option Addr) (n3a c3a : Nat) (l3a : List Int) (w : World) (ha1 : BigArg w ⟨s1a, A1a, n1a, c1a⟩ l1a) (ha2 : BigArg w ⟨s2a, A2a, n2a, c2a⟩ l2a) (ha3 : BigArg w ⟨s3a, A3a, n3a, c3a⟩ l3a) (hT : Tab w) (hZ : TabZ w) (t0 : (n1a : Int) ≤ 12) (t1 : (12 : Int) < (n2a : Int)) :
    Calls Tryd.prog 3 #[.agg #[.int .i64 s1a, .slice A1a n1a c1a], .agg #[.int .i64 s2a, .slice A2a n2a c2a], .agg #[.int .i64 s3a, .slice A3a n3a c3a]] w fun e w' => e = .returned (.bool true) ∧ Below w.heap.size w w' := by
  have HR1 := Lib.hid t1
  clear t1
  have HT := Lib.hid hT
  have HZ := Lib.hid hZ
  have HA1 := Lib.hid ha1
  have HA2 := Lib.hid ha2
  have HA3 := Lib.hid ha3
  clear hT hZ ha1 ha2 ha3
  have K := Lib.hid (show BxA w _ [⟨s1a, A1a, n1a, c1a⟩, ⟨s2a, A2a, n2a, c2a⟩, ⟨s3a, A3a, n3a, c3a⟩] from ((((BxA.new w).box (by simp) ⟨s1a, A1a, n1a, c1a⟩).box (by simp) ⟨s2a, A2a, n2a, c2a⟩).box (by simp) ⟨s3a, A3a, n3a, c3a⟩))
  go_enter Tryd.func3, Tryd.ntmps3
  go_wp2_with fail
  refine (small_any _ (HT.out.on K.out.bl) (HZ.out.on K.out.bl)).mono ?_
  rintro e wa0 ⟨rfl, hb⟩
  have K0 := Lib.hid (K.out.call hb)
  clear hb K
  have zb := K0.out.bx 0 _ rfl
  have z0 := zb.c0
  have z1 := zb.c1
  clear zb
  simp only [Nat.add_zero] at z0 z1
  go_wp2_with fail
  refine (few_T _ t0).mono ?_
  rintro e wa1 ⟨rfl, hb⟩
  have K1 := Lib.hid (K0.out.call hb)
  clear hb z0 z1 K0
  have zb := K1.out.bx 1 _ rfl
  have z0 := zb.c0
  have z1 := zb.c1
  clear zb
  go_wp2_with fail
  refine (few_F _ HR1.out).mono ?_
  rintro e wa2 ⟨rfl, hb⟩
  have K2 := Lib.hid (K1.out.call hb)
  clear hb z0 z1 K1
  go_wp2_with fail
  go_ret
  exact ⟨rfl, K2.out.bl⟩
set_option maxRecDepth 100000 in
set_option maxHeartbeats 4000000 in
theorem gcd_e2 (s1a : Int) (A1a : Option Addr) (n1a c1a : Nat) (l1a : List Int) (s2a : Int) (A2a : Option Addr) (n2a c2a : Nat) (l2a : List Int) (s3a : Int) (A3a : Option Addr) (n3a c3a : Nat) (l3a : List Int) (w : World) (ha1 : BigArg w ⟨s1a, A1a, n1a, c1a⟩ l1a) (ha2 : BigArg w ⟨s2a, A2a, n2a, c2a⟩ l2a) (ha3 : BigArg w ⟨s3a, A3a, n3a, c3a⟩ l3a) (hT : Tab w) (hZ : TabZ w) (t0 : (n1a : Int) ≤ 12) (t1 : (n2a : Int) ≤ 12) (t2 : (4 : Int) < (n3a : Int)) :
    Calls Tryd.prog 3 #[.agg #[.int .i64 s1a, .slice A1a n1a c1a], .agg #[.int .i64 s2a, .slice A2a n2a c2a], .agg #[.int .i64 s3a, .slice A3a n3a c3a]] w fun e w' => e = .returned (.bool true) ∧ Below w.heap.size w w' := by
  have HR2 := Lib.hid t2
  clear t2
  have HT := Lib.hid hT
  have HZ := Lib.hid hZ
  have HA1 := Lib.hid ha1
  have HA2 := Lib.hid ha2
  have HA3 := Lib.hid ha3
  clear hT hZ ha1 ha2 ha3
  have K := Lib.hid (show BxA w _ [⟨s1a, A1a, n1a, c1a⟩, ⟨s2a, A2a, n2a, c2a⟩, ⟨s3a, A3a, n3a, c3a⟩] from ((((BxA.new w).box (by simp) ⟨s1a, A1a, n1a, c1a⟩).box (by simp) ⟨s2a, A2a, n2a, c2a⟩).box (by simp) ⟨s3a, A3a, n3a, c3a⟩))
  go_enter Tryd.func3, Tryd.ntmps3
  go_wp2_with fail
  refine (small_any _ (HT.out.on K.out.bl) (HZ.out.on K.out.bl)).mono ?_
  rintro e wa0 ⟨rfl, hb⟩
  have K0 := Lib.hid (K.out.call hb)
  clear hb K
  have zb := K0.out.bx 0 _ rfl
  have z0 := zb.c0
  have z1 := zb.c1
  clear zb
  simp only [Nat.add_zero] at z0 z1
  go_wp2_with fail
  refine (few_T _ t0).mono ?_
  rintro e wa1 ⟨rfl, hb⟩
  have K1 := Lib.hid (K0.out.call hb)
  clear hb z0 z1 K0
  have zb := K1.out.bx 1 _ rfl
  have z0 := zb.c0
  have z1 := zb.c1
  clear zb
  go_wp2_with fail
  refine (few_T _ t1).mono ?_
  rintro e wa2 ⟨rfl, hb⟩
  have K2 := Lib.hid (K1.out.call hb)
  clear hb z0 z1 K1
  have zb := K2.out.bx 2 _ rfl
  have z0 := zb.c0
  have z1 := zb.c1
  clear zb
  rw [show w.heap.size + 2 = w.heap.size + 1 + 1 from rfl] at z0 z1
  go_wp2_with fail
  refine (few_F _ HR2.out).mono ?_
  rintro e wa3 ⟨rfl, hb⟩
  have K3 := Lib.hid (K2.out.call hb)
  clear hb z0 z1 K2
  go_wp2_with fail
  go_ret
  exact ⟨rfl, K3.out.bl⟩
set_option maxRecDepth 100000 in
set_option maxHeartbeats 4000000 in
theorem gcd_e3 (s1a : Int) (A1a : Option Addr) (n1a c1a : Nat) (l1a : List Int) (s2a : Int) (A2a : Option Addr) (n2a c2a : Nat) (l2a : List Int) (s3a : Int) (A3a : Option Addr) (n3a c3a : Nat) (l3a : List Int) (w : World) (ha1 : BigArg w ⟨s1a, A1a, n1a, c1a⟩ l1a) (ha2 : BigArg w ⟨s2a, A2a, n2a, c2a⟩ l2a) (ha3 : BigArg w ⟨s3a, A3a, n3a, c3a⟩ l3a) (hT : Tab w) (hZ : TabZ w) (t0 : (n1a : Int) ≤ 12) (t1 : (n2a : Int) ≤ 12) (t2 : (n3a : Int) ≤ 4) (t3 : rightB s1a l1a = false) :
    Calls Tryd.prog 3 #[.agg #[.int .i64 s1a, .slice A1a n1a c1a], .agg #[.int .i64 s2a, .slice A2a n2a c2a], .agg #[.int .i64 s3a, .slice A3a n3a c3a]] w fun e w' => e = .returned (.bool true) ∧ Below w.heap.size w w' := by
  have HR3 := Lib.hid t3
  clear t3
  have HT := Lib.hid hT
  have HZ := Lib.hid hZ
  have HA1 := Lib.hid ha1
  have HA2 := Lib.hid ha2
  have HA3 := Lib.hid ha3
  clear hT hZ ha1 ha2 ha3
  have K := Lib.hid (show BxA w _ [⟨s1a, A1a, n1a, c1a⟩, ⟨s2a, A2a, n2a, c2a⟩, ⟨s3a, A3a, n3a, c3a⟩] from ((((BxA.new w).box (by simp) ⟨s1a, A1a, n1a, c1a⟩).box (by simp) ⟨s2a, A2a, n2a, c2a⟩).box (by simp) ⟨s3a, A3a, n3a, c3a⟩))
  go_enter Tryd.func3, Tryd.ntmps3
  go_wp2_with fail
  refine (small_any _ (HT.out.on K.out.bl) (HZ.out.on K.out.bl)).mono ?_
  rintro e wa0 ⟨rfl, hb⟩
  have K0 := Lib.hid (K.out.call hb)
  clear hb K
  have zb := K0.out.bx 0 _ rfl
  have z0 := zb.c0
  have z1 := zb.c1
  clear zb
  simp only [Nat.add_zero] at z0 z1
  go_wp2_with fail
  refine (few_T _ t0).mono ?_
  rintro e wa1 ⟨rfl, hb⟩
  have K1 := Lib.hid (K0.out.call hb)
  clear hb z0 z1 K0
  have zb := K1.out.bx 1 _ rfl
  have z0 := zb.c0
  have z1 := zb.c1
  clear zb
  go_wp2_with fail
  refine (few_T _ t1).mono ?_
  rintro e wa2 ⟨rfl, hb⟩
  have K2 := Lib.hid (K1.out.call hb)
  clear hb z0 z1 K1
  have zb := K2.out.bx 2 _ rfl
  have z0 := zb.c0
  have z1 := zb.c1
  clear zb
  rw [show w.heap.size + 2 = w.heap.size + 1 + 1 from rfl] at z0 z1
  go_wp2_with fail
  refine (few_T _ t2).mono ?_
  rintro e wa3 ⟨rfl, hb⟩
  have K3 := Lib.hid (K2.out.call hb)
  clear hb z0 z1 K2
  have zb := K3.out.bx 0 _ rfl
  have z0 := zb.c0
  have z1 := zb.c1
  clear zb
  simp only [Nat.add_zero] at z0 z1
  go_wp2_with fail
  refine (right_is HA1.out (by dsimp only; omega) K3.out.bl HR3.out).mono ?_
  rintro e wa4 ⟨rfl, hb⟩
  have K4 := Lib.hid (K3.out.call hb)
  clear hb z0 z1 K3
  go_wp2_with fail
  go_ret
  exact ⟨rfl, K4.out.bl⟩
set_option maxRecDepth 100000 in
set_option maxHeartbeats 4000000 in
theorem gcd_e4 (s1a : Int) (A1a : Option Addr) (n1a c1a : Nat) (l1a : List Int) (s2a : Int) (A2a : Option Addr) (n2a c2a : Nat) (l2a : List Int) (s3a : Int) (A3a : Option Addr) (n3a c3a : Nat) (l3a : List Int) (w : World) (ha1 : BigArg w ⟨s1a, A1a, n1a, c1a⟩ l1a) (ha2 : BigArg w ⟨s2a, A2a, n2a, c2a⟩ l2a) (ha3 : BigArg w ⟨s3a, A3a, n3a, c3a⟩ l3a) (hT : Tab w) (hZ : TabZ w) (t0 : (n1a : Int) ≤ 12) (t1 : (n2a : Int) ≤ 12) (t2 : (n3a : Int) ≤ 4) (t3 : rightB s1a l1a = true) (t4 : rightB s2a l2a = false) :
    Calls Tryd.prog 3 #[.agg #[.int .i64 s1a, .slice A1a n1a c1a], .agg #[.int .i64 s2a, .slice A2a n2a c2a], .agg #[.int .i64 s3a, .slice A3a n3a c3a]] w fun e w' => e = .returned (.bool true) ∧ Below w.heap.size w w' := by
  have HR3 := Lib.hid t3
  clear t3
  have HR4 := Lib.hid t4
  clear t4
  have HT := Lib.hid hT
  have HZ := Lib.hid hZ
  have HA1 := Lib.hid ha1
  have HA2 := Lib.hid ha2
  have HA3 := Lib.hid ha3
  clear hT hZ ha1 ha2 ha3
  have K := Lib.hid (show BxA w _ [⟨s1a, A1a, n1a, c1a⟩, ⟨s2a, A2a, n2a, c2a⟩, ⟨s3a, A3a, n3a, c3a⟩] from ((((BxA.new w).box (by simp) ⟨s1a, A1a, n1a, c1a⟩).box (by simp) ⟨s2a, A2a, n2a, c2a⟩).box (by simp) ⟨s3a, A3a, n3a, c3a⟩))
  go_enter Tryd.func3, Tryd.ntmps3
  go_wp2_with fail
  refine (small_any _ (HT.out.on K.out.bl) (HZ.out.on K.out.bl)).mono ?_
  rintro e wa0 ⟨rfl, hb⟩
  have K0 := Lib.hid (K.out.call hb)
  clear hb K
  have zb := K0.out.bx 0 _ rfl
  have z0 := zb.c0
  have z1 := zb.c1
  clear zb
  simp only [Nat.add_zero] at z0 z1
  go_wp2_with fail
  refine (few_T _ t0).mono ?_
  rintro e wa1 ⟨rfl, hb⟩
  have K1 := Lib.hid (K0.out.call hb)
  clear hb z0 z1 K0
  have zb := K1.out.bx 1 _ rfl
  have z0 := zb.c0
  have z1 := zb.c1
  clear zb
  go_wp2_with fail
  refine (few_T _ t1).mono ?_
  rintro e wa2 ⟨rfl, hb⟩
  have K2 := Lib.hid (K1.out.call hb)
  clear hb z0 z1 K1
  have zb := K2.out.bx 2 _ rfl
  have z0 := zb.c0
  have z1 := zb.c1
  clear zb
  rw [show w.heap.size + 2 = w.heap.size + 1 + 1 from rfl] at z0 z1
  go_wp2_with fail
  refine (few_T _ t2).mono ?_
  rintro e wa3 ⟨rfl, hb⟩
  have K3 := Lib.hid (K2.out.call hb)
  clear hb z0 z1 K2
  have zb := K3.out.bx 0 _ rfl
  have z0 := zb.c0
  have z1 := zb.c1
  clear zb
  simp only [Nat.add_zero] at z0 z1
  go_wp2_with fail
  refine (right_is HA1.out (by dsimp only; omega) K3.out.bl HR3.out).mono ?_
  rintro e wa4 ⟨rfl, hb⟩
  have K4 := Lib.hid (K3.out.call hb)
  clear hb z0 z1 K3
  have zb := K4.out.bx 1 _ rfl
  have z0 := zb.c0
  have z1 := zb.c1
  clear zb
  go_wp2_with fail
  refine (right_is HA2.out (by dsimp only; omega) K4.out.bl HR4.out).mono ?_
  rintro e wa5 ⟨rfl, hb⟩
  have K5 := Lib.hid (K4.out.call hb)
  clear hb z0 z1 K4
  go_wp2_with fail
  go_ret
  exact ⟨rfl, K5.out.bl⟩
set_option maxRecDepth 100000 in
set_option maxHeartbeats 4000000 in
theorem gcd_e5 (s1a : Int) (A1a : Option Addr) (n1a c1a : Nat) (l1a : List Int) (s2a : Int) (A2a : Option Addr) (n2a c2a : Nat) (l2a : List Int) (s3a : Int) (A3a : Option Addr) (n3a c3a : Nat) (l3a : List Int) (w : World) (ha1 : BigArg w ⟨s1a, A1a, n1a, c1a⟩ l1a) (ha2 : BigArg w ⟨s2a, A2a, n2a, c2a⟩ l2a) (ha3 : BigArg w ⟨s3a, A3a, n3a, c3a⟩ l3a) (hT : Tab w) (hZ : TabZ w) (t0 : (n1a : Int) ≤ 12) (t1 : (n2a : Int) ≤ 12) (t2 : (n3a : Int) ≤ 4) (t3 : rightB s1a l1a = true) (t4 : rightB s2a l2a = true) (t5 : rightB s3a l3a = false) :
    Calls Tryd.prog 3 #[.agg #[.int .i64 s1a, .slice A1a n1a c1a], .agg #[.int .i64 s2a, .slice A2a n2a c2a], .agg #[.int .i64 s3a, .slice A3a n3a c3a]] w fun e w' => e = .returned (.bool true) ∧ Below w.heap.size w w' := by
  have HR3 := Lib.hid t3
  clear t3
  have HR4 := Lib.hid t4
  clear t4
  have HR5 := Lib.hid t5
  clear t5
  have HT := Lib.hid hT
  have HZ := Lib.hid hZ
  have HA1 := Lib.hid ha1
  have HA2 := Lib.hid ha2
  have HA3 := Lib.hid ha3
  clear hT hZ ha1 ha2 ha3
  have K := Lib.hid (show BxA w _ [⟨s1a, A1a, n1a, c1a⟩, ⟨s2a, A2a, n2a, c2a⟩, ⟨s3a, A3a, n3a, c3a⟩] from ((((BxA.new w).box (by simp) ⟨s1a, A1a, n1a, c1a⟩).box (by simp) ⟨s2a, A2a, n2a, c2a⟩).box (by simp) ⟨s3a, A3a, n3a, c3a⟩))
  go_enter Tryd.func3, Tryd.ntmps3
  go_wp2_with fail
  refine (small_any _ (HT.out.on K.out.bl) (HZ.out.on K.out.bl)).mono ?_
  rintro e wa0 ⟨rfl, hb⟩
  have K0 := Lib.hid (K.out.call hb)
  clear hb K
  have zb := K0.out.bx 0 _ rfl
  have z0 := zb.c0
  have z1 := zb.c1
  clear zb
  simp only [Nat.add_zero] at z0 z1
  go_wp2_with fail
  refine (few_T _ t0).mono ?_
  rintro e wa1 ⟨rfl, hb⟩
  have K1 := Lib.hid (K0.out.call hb)
  clear hb z0 z1 K0
  have zb := K1.out.bx 1 _ rfl
  have z0 := zb.c0
  have z1 := zb.c1
  clear zb
  go_wp2_with fail
  refine (few_T _ t1).mono ?_
  rintro e wa2 ⟨rfl, hb⟩
  have K2 := Lib.hid (K1.out.call hb)
  clear hb z0 z1 K1
  have zb := K2.out.bx 2 _ rfl
  have z0 := zb.c0
  have z1 := zb.c1
  clear zb
  rw [show w.heap.size + 2 = w.heap.size + 1 + 1 from rfl] at z0 z1
  go_wp2_with fail
  refine (few_T _ t2).mono ?_
  rintro e wa3 ⟨rfl, hb⟩
  have K3 := Lib.hid (K2.out.call hb)
  clear hb z0 z1 K2
  have zb := K3.out.bx 0 _ rfl
  have z0 := zb.c0
  have z1 := zb.c1
  clear zb
  simp only [Nat.add_zero] at z0 z1
  go_wp2_with fail
  refine (right_is HA1.out (by dsimp only; omega) K3.out.bl HR3.out).mono ?_
  rintro e wa4 ⟨rfl, hb⟩
  have K4 := Lib.hid (K3.out.call hb)
  clear hb z0 z1 K3
  have zb := K4.out.bx 1 _ rfl
  have z0 := zb.c0
  have z1 := zb.c1
  clear zb
  go_wp2_with fail
  refine (right_is HA2.out (by dsimp only; omega) K4.out.bl HR4.out).mono ?_
  rintro e wa5 ⟨rfl, hb⟩
  have K5 := Lib.hid (K4.out.call hb)
  clear hb z0 z1 K4
  have zb := K5.out.bx 2 _ rfl
  have z0 := zb.c0
  have z1 := zb.c1
  clear zb
  rw [show w.heap.size + 2 = w.heap.size + 1 + 1 from rfl] at z0 z1
  go_wp2_with fail
  refine (right_is HA3.out (by dsimp only; omega) K5.out.bl HR5.out).mono ?_
  rintro e wa6 ⟨rfl, hb⟩
  have K6 := Lib.hid (K5.out.call hb)
  clear hb z0 z1 K5
  go_wp2_with fail
  go_ret
  exact ⟨rfl, K6.out.bl⟩
theorem gcd_walk (s1a : Int) (A1a : Option Addr) (n1a c1a : Nat) (l1a : List Int) (s2a : Int) (A2a : Option Addr) (n2a c2a : Nat) (l2a : List Int) (s3a : Int) (A3a : Option Addr) (n3a c3a : Nat) (l3a : List Int) (w : World) (ha1 : BigArg w ⟨s1a, A1a, n1a, c1a⟩ l1a) (ha2 : BigArg w ⟨s2a, A2a, n2a, c2a⟩ l2a) (ha3 : BigArg w ⟨s3a, A3a, n3a, c3a⟩ l3a) (hT : Tab w) (hZ : TabZ w) :
    Calls Tryd.prog 3 #[.agg #[.int .i64 s1a, .slice A1a n1a c1a], .agg #[.int .i64 s2a, .slice A2a n2a c2a], .agg #[.int .i64 s3a, .slice A3a n3a c3a]] w fun e w' => e = .returned (.bool true) ∧ Below w.heap.size w w' := by
  by_cases t0 : (n1a : Int) ≤ 12
  case neg => exact gcd_e0 s1a A1a n1a c1a l1a s2a A2a n2a c2a l2a s3a A3a n3a c3a l3a w ha1 ha2 ha3 hT hZ  (Int.not_le.1 t0)
  by_cases t1 : (n2a : Int) ≤ 12
  case neg => exact gcd_e1 s1a A1a n1a c1a l1a s2a A2a n2a c2a l2a s3a A3a n3a c3a l3a w ha1 ha2 ha3 hT hZ t0 (Int.not_le.1 t1)
  by_cases t2 : (n3a : Int) ≤ 4
  case neg => exact gcd_e2 s1a A1a n1a c1a l1a s2a A2a n2a c2a l2a s3a A3a n3a c3a l3a w ha1 ha2 ha3 hT hZ t0 t1 (Int.not_le.1 t2)
  cases t3 : rightB s1a l1a
  case false => exact gcd_e3 s1a A1a n1a c1a l1a s2a A2a n2a c2a l2a s3a A3a n3a c3a l3a w ha1 ha2 ha3 hT hZ t0 t1 t2 t3
  cases t4 : rightB s2a l2a
  case false => exact gcd_e4 s1a A1a n1a c1a l1a s2a A2a n2a c2a l2a s3a A3a n3a c3a l3a w ha1 ha2 ha3 hT hZ t0 t1 t2 t3 t4
  cases t5 : rightB s3a l3a
  case false => exact gcd_e5 s1a A1a n1a c1a l1a s2a A2a n2a c2a l2a s3a A3a n3a c3a l3a w ha1 ha2 ha3 hT hZ t0 t1 t2 t3 t4 t5
  obtain ⟨x1, hx1⟩ := ha1.bg t3 (k := 12) (by dsimp only; omega)
  obtain ⟨x2, hx2⟩ := ha2.bg t4 (k := 12) (by dsimp only; omega)
  obtain ⟨x3, hx3⟩ := ha3.bg t5 (k := 4) (by dsimp only; omega)
  by_cases c1 : x1 = 0
  · by_cases c2 : x2 = 0
    · by_cases c3 : x3 < 0
      · exact gcd_C_n s1a A1a n1a c1a l1a s2a A2a n2a c2a l2a s3a A3a n3a c3a l3a w ha1 ha2 ha3 hT hZ t0 t1 t2 t3 t4 t5 x1 x2 x3 hx1 hx2 hx3 c1 c2 c3
      · exact gcd_C_p s1a A1a n1a c1a l1a s2a A2a n2a c2a l2a s3a A3a n3a c3a l3a w ha1 ha2 ha3 hT hZ t0 t1 t2 t3 t4 t5 x1 x2 x3 hx1 hx2 hx3 c1 c2 (by omega)
    · by_cases c3 : x3 < 0
      · exact gcd_B_n s1a A1a n1a c1a l1a s2a A2a n2a c2a l2a s3a A3a n3a c3a l3a w ha1 ha2 ha3 hT hZ t0 t1 t2 t3 t4 t5 x1 x2 x3 hx1 hx2 hx3 c1 c2 c3
      · exact gcd_B_p s1a A1a n1a c1a l1a s2a A2a n2a c2a l2a s3a A3a n3a c3a l3a w ha1 ha2 ha3 hT hZ t0 t1 t2 t3 t4 t5 x1 x2 x3 hx1 hx2 hx3 c1 c2 (by omega)
  · by_cases c3 : x3 < 0
    · exact gcd_A_n s1a A1a n1a c1a l1a s2a A2a n2a c2a l2a s3a A3a n3a c3a l3a w ha1 ha2 ha3 hT hZ t0 t1 t2 t3 t4 t5 x1 x2 x3 hx1 hx2 hx3 c1 c3
    · exact gcd_A_p s1a A1a n1a c1a l1a s2a A2a n2a c2a l2a s3a A3a n3a c3a l3a w ha1 ha2 ha3 hT hZ t0 t1 t2 t3 t4 t5 x1 x2 x3 hx1 hx2 hx3 c1 (by omega)
end Go.Proofs.YtoocdokhljpokaaDoor
