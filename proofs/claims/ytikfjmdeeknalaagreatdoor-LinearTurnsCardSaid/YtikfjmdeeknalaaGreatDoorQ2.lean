/- The walks of frac's small functions on integers. Conditions: the bounds of Go's integers. -/
import Derived.Test.YtikfjmdeeknalaaGreatDoorBw
import Derived.Test.YtikfjmdeeknalaaGreatDoorQ1
namespace Go.Proofs.YtikfjmdeeknalaaGreatDoor
set_option maxRecDepth 8000
open Go.RowKit

set_option maxHeartbeats 2000000 in
theorem div64_any (x y : Nat) (w : World) (hx : x < 18446744073709551616) (hy : y < 18446744073709551616) :
    Calls Tryz.prog 158 #[.int .u64 x, .int .u64 y] w fun e w' => e = .returned (.int .u64 ((Nat.gcd x y : Nat) : Int)) ∧ Drew w w' := by
  obtain ⟨G, hG⟩ : ∃ G, Nat.gcd x y = G := ⟨_, rfl⟩
  rw [hG]
  have HG := Lib.hid hG
  have HX := Lib.hid hx
  have HY := Lib.hid hy
  obtain ⟨X, hX⟩ : ∃ X : Int, (x : Int) = X := ⟨_, rfl⟩
  obtain ⟨Y, hY⟩ : ∃ Y : Int, (y : Int) = Y := ⟨_, rfl⟩
  rw [hX, hY]
  have HXX := Lib.hid hX
  have HYY := Lib.hid hY
  clear hG hx hy hX hY
  go_enter Tryz.func158, Tryz.ntmps158
  go_wp2_with fail
  go_loopw [0, 1] (fun s0 s1 wr => ∃ (a b : Nat) (A B : Int), s0 = .int .u64 A ∧ s1 = .int .u64 B ∧ Hid ((a : Int) = A) ∧ Hid ((b : Int) = B) ∧ Hid (Nat.gcd a b = G) ∧ Hid (a < 18446744073709551616) ∧ Hid (b < 18446744073709551616) ∧ Drew w wr) (fun _ s1 _ => (RowKit.intOf s1).toNat)
  case atStart => exact ⟨x, y, X, Y, rfl, rfl, HXX.out, HYY.out, HG.out, HX.out, HY.out, ⟨0, rfl⟩⟩
  case round =>
    obtain ⟨a, b, A, B, rfl, rfl, HA, HB, HGG, HAB, HBB, d, rfl⟩ := hrel
    have hA0 : 0 ≤ A := by have := HA.out; omega
    have hB0 : 0 ≤ B := by have := HB.out; omega
    by_cases h0 : B = 0
    · have hf : Hid (A = (G : Int)) := by
        show _ = _
        have e : b = 0 := by have := HB.out; omega
        have := HGG.out
        rw [e, Nat.gcd_zero_right] at this
        rw [← HA.out, this]
      subst h0
      go_wp2_with fail
      go_ret
      exact ⟨by rw [← hf.out]; rfl, ⟨_, rfl⟩⟩
    · have hB1 : 0 < B := by omega
      have hm0 := Int.emod_nonneg A h0
      have hm1 := Int.emod_lt_of_pos A hB1
      have hmod : Hid (((a % b : Nat) : Int) = A % B) := by show _ = _; rw [← HA.out, ← HB.out]; rfl
      have hlt : Hid (a % b < 18446744073709551616) := by
        show _ < _
        have e : 0 < b := by have := HB.out; omega
        have := Nat.mod_lt a e
        have := HBB.out
        omega
      have hg : Hid (Nat.gcd b (a % b) = G) := by show _ = _; rw [← HGG.out, Nat.gcd_comm a b, Nat.gcd_rec b a, Nat.gcd_comm]
      have q1 : A.tmod B = A % B := Int.tmod_eq_emod_of_nonneg hA0
      have q2 : IntKind.u64.wrap (A % B) = A % B := wraps_u64 _ hm0 (by have := HB.out; have := HBB.out; omega)
      go_wp2_with fail
      go_quiet (fail)
      go_wp2_with fail
      go_roundw
      case rel => exact ⟨b, a % b, B, A % B, rfl, by first | rfl | (rw [q1, q2]), HB.out, hmod.out, hg.out, HBB.out, hlt.out, Drew.more ⟨_, rfl⟩⟩
      case measure => simp [RowKit.intOf]; omega
set_option maxHeartbeats 1000000 in
theorem size_any (n : Int) (w : World) (h0 : -9223372036854775808 ≤ n) (h1 : n ≤ 9223372036854775807) :
    Calls Tryz.prog 159 #[.int .i64 n] w fun e w' => e = .returned (.int .u64 ((n.natAbs : Nat) : Int)) ∧ w = w' := by
  by_cases hn : 0 ≤ n
  · have hf : Hid (((n.natAbs : Nat) : Int) = n) := by show _ = _; omega
    have q := wraps_u64 n hn (by omega)
    go_enter Tryz.func159, Tryz.ntmps159
    go_wp2_with fail
    all_goals go_ret
    all_goals exact ⟨by rw [hf.out]; first | rfl | (congr 2; omega), rfl⟩
  · by_cases hm : n = -9223372036854775808
    · subst hm
      have HE : Hid (IntKind.u64.wrap (wrap64 9223372036854775808) = 9223372036854775808) := by show _ = _; decide +kernel
      have HE2 : Hid (IntKind.u64.wrap (-9223372036854775808) = 9223372036854775808) := by show _ = _; decide +kernel
      go_enter Tryz.func159, Tryz.ntmps159
      go_wp2_with fail
      all_goals go_ret
      all_goals exact ⟨by first | (show Ending.returned (.int .u64 (IntKind.u64.wrap (wrap64 9223372036854775808))) = _; rw [HE.out]; done) | (show Ending.returned (.int .u64 (IntKind.u64.wrap (-9223372036854775808))) = _; rw [HE2.out]; done) | (show Ending.returned (.int .u64 (IntKind.u64.wrap (wrap64 9223372036854775808))) = _; rw [HE.out]; rfl) | (show Ending.returned (.int .u64 (IntKind.u64.wrap (-9223372036854775808))) = _; rw [HE2.out]; rfl), rfl⟩
    · have hf : Hid (((n.natAbs : Nat) : Int) = -n) := by show _ = _; omega
      have q := wraps_u64 (-n) (by omega) (by omega)
      have hn2 : n < -n := by omega
      go_enter Tryz.func159, Tryz.ntmps159
      go_wp2_with fail
      all_goals go_ret
      all_goals exact ⟨by rw [hf.out]; first | rfl | (congr 2; omega), rfl⟩
end Go.Proofs.YtikfjmdeeknalaaGreatDoor
