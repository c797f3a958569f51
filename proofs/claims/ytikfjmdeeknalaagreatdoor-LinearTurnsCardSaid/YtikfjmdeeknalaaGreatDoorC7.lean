/- math/bits.TrailingZeros64; the walk of big's divisorOfInts. Conditions: the table of math/bits as its text lays it. -/
import Derived.Test.YtikfjmdeeknalaaGreatDoorC6
import Derived.Shelf.Spec.TrailingZeros
import Derived.Lib.LaidTab
namespace Go.Proofs.YtikfjmdeeknalaaGreatDoor
set_option maxRecDepth 8000
open Go.RowKit

theorem two_part_unique : ∀ {a b m n : Nat}, 2 ^ a * (2 * m + 1) = 2 ^ b * (2 * n + 1) → a = b ∧ m = n
  | 0, 0, m, n, h => by simp at h; omega
  | 0, b + 1, m, n, h => by rw [Nat.pow_succ, Nat.pow_zero] at h; generalize 2 ^ b = P at h; have : P * 2 * (2 * n + 1) = 2 * (P * (2 * n + 1)) := by grind
                            omega
  | a + 1, 0, m, n, h => by rw [Nat.pow_succ, Nat.pow_zero] at h; generalize 2 ^ a = P at h; have : P * 2 * (2 * m + 1) = 2 * (P * (2 * m + 1)) := by grind
                            omega
  | a + 1, b + 1, m, n, h => by
    have h' : 2 ^ a * (2 * m + 1) = 2 ^ b * (2 * n + 1) := by
      rw [Nat.pow_succ, Nat.pow_succ] at h
      have e1 : 2 ^ a * 2 * (2 * m + 1) = 2 * (2 ^ a * (2 * m + 1)) := by grind
      have e2 : 2 ^ b * 2 * (2 * n + 1) = 2 * (2 ^ b * (2 * n + 1)) := by grind
      omega
    have := two_part_unique h'
    omega
theorem ctz_of {x a m : Nat} (h : x = 2 ^ a * (2 * m + 1)) (hx : x < 18446744073709551616) : Lib.ctz 64 x = a := by
  have h0 : 0 < x := by rw [h]; exact Nat.mul_pos (Nat.pow_pos (by decide)) (by omega)
  obtain ⟨n, hn, -⟩ := Lib.ctzFrom_spec 64 x h0 hx
  unfold Lib.ctz
  rw [if_neg (by omega)]
  rw [h] at hn
  have hh := hn
  rw [← h] at hh
  have := two_part_unique (a := a) (m := m) (b := Lib.ctzFrom 64 x) (n := n) (by rw [← h]; exact hh)
  exact this.1.symm
theorem two_part {x : Nat} (h0 : x ≠ 0) (hx : x < 18446744073709551616) : ∃ m, x = 2 ^ Lib.ctz 64 x * (2 * m + 1) := by
  obtain ⟨n, hn, -⟩ := Lib.ctzFrom_spec 64 x (by omega) hx
  unfold Lib.ctz
  rw [if_neg h0]
  exact ⟨n, hn⟩
theorem odd_gcd (m n k : Nat) : Nat.gcd (2 * m + 1) (2 ^ k * n) = Nat.gcd (2 * m + 1) n := by
  have h : Nat.Coprime (2 * m + 1) (2 ^ k) := by
    apply Nat.Coprime.pow_right
    unfold Nat.Coprime
    rw [Nat.gcd_comm, Nat.gcd_rec]
    have : (2 * m + 1) % 2 = 1 := by omega
    rw [this]; rfl
  exact Nat.Coprime.gcd_mul_left_cancel_right n h.symm
theorem or_two (a d m n : Nat) : ∃ q, (2 ^ a * (2 * m + 1)) ||| (2 ^ (a + d) * (2 * n + 1)) = 2 ^ a * (2 * q + 1) := by
  have e : 2 ^ (a + d) * (2 * n + 1) = 2 ^ a * (2 ^ d * (2 * n + 1)) := by rw [Nat.pow_add, Nat.mul_assoc]
  have h2 : ∀ u v : Nat, 2 ^ a * u ||| 2 ^ a * v = 2 ^ a * (u ||| v) := fun u v => by
    rw [Nat.mul_comm _ u, Nat.mul_comm _ v, Nat.mul_comm _ (u ||| v), ← Nat.shiftLeft_eq, ← Nat.shiftLeft_eq, ← Nat.shiftLeft_eq, Nat.shiftLeft_or_distrib]
  rw [e, h2]
  generalize 2 ^ d * (2 * n + 1) = v
  have h3 : ((2 * m + 1) ||| v) % 2 = 1 := by
    simp
  exact ⟨((2 * m + 1) ||| v) / 2, by congr 1; omega⟩
/-- The least power of 2 of two numbers, of which the first one is not 0, and what is left. -/
theorem gcd_start {x y : Nat} (h0 : x ≠ 0) (hx : x < 18446744073709551616) (hy : y < 18446744073709551616) : (x ||| y) < 18446744073709551616 ∧ Nat.gcd x y = 2 ^ Lib.ctz 64 (x ||| y) * Nat.gcd (x / 2 ^ Lib.ctz 64 x) y ∧ ∃ m, x / 2 ^ Lib.ctz 64 x = 2 * m + 1 := by
  have hor : (x ||| y) < 2 ^ 64 := Nat.or_lt_two_pow hx hy
  obtain ⟨m, hm⟩ := two_part h0 hx
  generalize Lib.ctz 64 x = a at *
  have hpa : 0 < 2 ^ a := Nat.pow_pos (by decide)
  have hd : x / 2 ^ a = 2 * m + 1 := by rw [hm, Nat.mul_div_cancel_left _ hpa]
  refine ⟨hor, ?_, m, hd⟩
  rw [hd]
  by_cases hy0 : y = 0
  · subst hy0
    have hor0 : x ||| 0 = x := Nat.or_zero x
    rw [hor0, ctz_of hm hx, Nat.gcd_zero_right, Nat.gcd_zero_right]
    exact hm
  · obtain ⟨n, hn⟩ := two_part hy0 hy
    generalize Lib.ctz 64 y = b at *
    rcases Nat.le_total a b with hab | hab
    · obtain ⟨d, rfl⟩ : ∃ d, b = a + d := ⟨b - a, by omega⟩
      obtain ⟨q, hq⟩ := or_two a d m n
      rw [← hm, ← hn] at hq
      rw [ctz_of hq hor, hn, odd_gcd]
      conv => lhs; rw [hm]
      rw [Nat.pow_add, Nat.mul_assoc, Nat.gcd_mul_left, odd_gcd]
    · obtain ⟨d, rfl⟩ : ∃ d, a = b + d := ⟨a - b, by omega⟩
      obtain ⟨q, hq⟩ := or_two b d n m
      rw [← hm, ← hn, Nat.or_comm] at hq
      rw [ctz_of hq hor, hn, odd_gcd]
      conv => lhs; rw [hm]
      rw [Nat.pow_add, Nat.mul_assoc, Nat.gcd_mul_left, Nat.gcd_comm, odd_gcd, Nat.gcd_comm]
theorem gcd_round {m y : Nat} (h0 : y ≠ 0) (hy : y < 18446744073709551616) : ∃ n, y / 2 ^ Lib.ctz 64 y = 2 * n + 1 ∧ Nat.gcd (2 * m + 1) y = Nat.gcd (2 * m + 1) (2 * n + 1) := by
  obtain ⟨n, hn⟩ := two_part h0 hy
  generalize Lib.ctz 64 y = b at *
  have hpb : 0 < 2 ^ b := Nat.pow_pos (by decide)
  refine ⟨n, by rw [hn, Nat.mul_div_cancel_left _ hpb], ?_⟩
  conv => lhs; rw [hn]
  rw [odd_gcd]
theorem gcd_less (x y : Nat) : Nat.gcd x y = Nat.gcd (min x y) (max x y - min x y) := by
  rcases Nat.le_total x y with h | h
  · rw [Nat.min_eq_left h, Nat.max_eq_right h, Nat.gcd_sub_self_right h]
  · rw [Nat.min_eq_right h, Nat.max_eq_left h, Nat.gcd_sub_self_right h, Nat.gcd_comm]

/-- The table of math/bits. -/
def TabZ (w : World) : Prop := ∀ j, j < 64 → w.cell? ⟨2, j, none⟩ = some (.int .u8 (Lib.deBruijn64tab.getD j 0 : Nat))
theorem TabZ.on {w w' : World} (h : TabZ w) (hb : Below w.heap.size w w') : TabZ w' := fun j hj => (hb.cell (World.block_lt_of_cell? _ _ (h j hj))).trans (h j hj)
set_option maxHeartbeats 1000000 in
theorem tz_core (x k idx : Nat) (w : World) (hx0 : ((x : Int) == 0) = false)
    (key : IntKind.u64.wrap (bits BinOp.and IntKind.u64 (x : Int) (IntKind.u64.wrap (-(x : Int))) * 285870213051353865) / 288230376151711744 = (idx : Int))
    (hi : idx < 64) (hk : k < 64) (hcell : w.cell? ⟨2, idx, none⟩ = some (.int .u8 k)) :
    Calls Tryz.prog 240 #[.int .u64 x] w fun e w' => e = .returned (.int .i64 k) ∧ w' = w := by
  go_enter Tryz.func240, Tryz.ntmps240
  go_wp2_with (simp only [key])
  go_ret
  exact ⟨rfl, rfl⟩
theorem tz_any (x : Nat) (w : World) (h0 : x ≠ 0) (hx : x < 18446744073709551616) (hT : TabZ w) :
    Calls Tryz.prog 240 #[.int .u64 x] w fun e w' => e = .returned (.int .i64 (Lib.ctz 64 x : Nat)) ∧ w = w' := by
  obtain ⟨hlow, hk⟩ := Lib.lowest_bit 64 x h0 hx
  obtain ⟨hi, htab⟩ := Lib.deBruijn64_at _ hk
  have hcell := hT _ hi
  rw [htab] at hcell
  exact (tz_core x _ _ w (by simp; omega) (tz64_key x _ hx h0 hlow) hi hk hcell).mono fun e w' h => ⟨h.1, h.2.symm⟩
theorem shr_div {x a : Nat} (ha : a < 64) : (x : Int) / 2 ^ min a 64 = ((x / 2 ^ a : Nat) : Int) := by
  rw [Nat.min_eq_left (by omega), Int.natCast_ediv, Int.natCast_pow]
  rfl
set_option maxHeartbeats 4000000 in
theorem divisorOfInts_any (x y : Nat) (w : World) (h0 : x ≠ 0) (hx : x < 18446744073709551616) (hy : y < 18446744073709551616) (hT : TabZ w) :
    Calls Tryz.prog 205 #[.int .u64 x, .int .u64 y] w fun e w' => e = .returned (.int .u64 (Nat.gcd x y : Nat)) ∧ w = w' := by
  obtain ⟨hor, hg, m, hm⟩ := gcd_start h0 hx hy
  have hor2 := bits_or_u64_nat x y hx hy
  have hne : (x ||| y) ≠ 0 := fun e => h0 (by have := Nat.left_le_or (n := x) (m := y); omega)
  have HT1 := Lib.hid (tz_any (x ||| y) w hne hor hT)
  have HT2 := Lib.hid (tz_any x w h0 hx hT)
  have ha := (Lib.lowest_bit 64 x h0 hx).2
  have hb := (Lib.lowest_bit 64 (x ||| y) hne hor).2
  have hsh := shr_div (x := x) ha
  have HG := Lib.hid hg
  have HM := Lib.hid hm
  have HTB := Lib.hid hT
  have hxx : x / 2 ^ Lib.ctz 64 x ≤ x := Nat.div_le_self _ _
  rw [hm] at hsh HG hxx
  generalize Lib.ctz 64 (x ||| y) = t at *
  generalize Lib.ctz 64 x = a at *
  have hmb : 2 * m + 1 < 18446744073709551616 := by omega
  obtain ⟨X, hX⟩ : ∃ X : Int, ((2 * m + 1 : Nat) : Int) = X := ⟨_, rfl⟩
  rw [hX] at hsh
  have HX := Lib.hid hX
  clear hor hg hm hne hT ha hxx hX HM
  go_enter Tryz.func205, Tryz.ntmps205
  go_wp2_with fail
  refine HT1.out.mono ?_
  rintro e w' ⟨rfl, rfl⟩
  go_wp2_with fail
  refine HT2.out.mono ?_
  rintro e w' ⟨rfl, rfl⟩
  go_wp2_with fail
  clear hsh hor2 HT1 HT2
  go_loopw [0, 1] (fun q i wr => ∃ (k j : Nat) (K J : Int), q = .int .u64 K ∧ i = .int .u64 J ∧ Hid (((2 * k + 1 : Nat) : Int) = K) ∧ Hid ((j : Int) = J) ∧ Hid (2 * k + 1 < 18446744073709551616) ∧ Hid (j < 18446744073709551616) ∧ Hid (Nat.gcd (2 * m + 1) y = Nat.gcd (2 * k + 1) j) ∧ w = wr) (fun q i _ => (RowKit.intOf q + RowKit.intOf i).toNat)
  case atStart => exact ⟨m, y, X, y, rfl, rfl, HX.out, rfl, hmb, hy, rfl, rfl⟩
  case round =>
    obtain ⟨k, j, K, J, rfl, rfl, HK, HJ, HKB, HJB, HE, rfl⟩ := hrel
    by_cases hj0 : j = 0
    · have hJ0 : J = 0 := by rw [← HJ.out, hj0]; rfl
      subst hJ0
      have hfin : Hid (Nat.gcd x y = 2 ^ t * (2 * k + 1)) := by
        show _ = _
        rw [HG.out, HE.out, hj0, Nat.gcd_zero_right]
      have hbd : Nat.gcd x y < 18446744073709551616 := Nat.lt_of_le_of_lt (Nat.le_of_dvd (by omega) (Nat.gcd_dvd_left x y)) hx
      have hsl : Hid (IntKind.u64.wrap (K * 2 ^ t) = ((Nat.gcd x y : Nat) : Int)) := by
        show _ = _
        rw [← HK.out]
        have e : ((2 * k + 1 : Nat) : Int) * 2 ^ t = ((Nat.gcd x y : Nat) : Int) := by
          rw [hfin.out, Int.natCast_mul, Int.natCast_pow, Int.mul_comm]
          rfl
        rw [e]
        exact wraps_u64 _ (by omega) (by omega)
      clear hj0 hbd
      go_wp2_with fail
      go_ret
      exact ⟨by show Ending.returned (.int .u64 (IntKind.u64.wrap (K * 2 ^ t))) = _; rw [hsl.out], rfl⟩
    · obtain ⟨n, hn, hgn⟩ := gcd_round (m := k) hj0 HJB.out
      have hJ0 : ¬ J = 0 := by rw [← HJ.out]; omega
      have HTJ : Hid (Calls Tryz.prog 240 #[.int .u64 J] w fun e w' => e = .returned (.int .i64 (Lib.ctz 64 j : Nat)) ∧ w = w') := by
        rw [← HJ.out]
        exact tz_any j w hj0 HJB.out HTB.out
      have ha := (Lib.lowest_bit 64 j hj0 HJB.out).2
      have hsh := shr_div (x := j) ha
      rw [hn, HJ.out] at hsh
      have hjj : j / 2 ^ Lib.ctz 64 j ≤ j := Nat.div_le_self _ _
      rw [hn] at hjj
      generalize Lib.ctz 64 j = a2 at *
      obtain ⟨N, hN⟩ : ∃ X : Int, ((2 * n + 1 : Nat) : Int) = X := ⟨_, rfl⟩
      rw [hN] at hsh
      have HNN := Lib.hid hN
      have HGN := Lib.hid hgn
      have HJJ := Lib.hid hjj
      clear hn hgn hjj hN hj0 ha
      go_wp2_with fail
      refine HTJ.out.mono ?_
      rintro e w' ⟨rfl, rfl⟩
      go_wp2_with fail
      go_roundw
      case rel =>
        refine ⟨min k n, max (2 * k + 1) (2 * n + 1) - min (2 * k + 1) (2 * n + 1), _, _, rfl, rfl, ?_, ?_, ?_, ?_, ?_, trivial⟩
        · show _ = _
          rw [← HK.out, ← HNN.out]; omega
        · show _ = _
          have h1 := HKB.out
          have h2 := HJB.out
          have h3 := HJJ.out
          rw [← HK.out, ← HNN.out, wraps_u64 _ (by omega) (by omega)]; omega
        · show _ < _
          have h1 := HKB.out
          omega
        · show _ < _
          have h1 := HKB.out
          have h2 := HJB.out
          have h3 := HJJ.out
          omega
        · show _ = _
          rw [HE.out, HGN.out, gcd_less]
          congr 1
          omega
      case measure =>
        have h1 := HKB.out
        have h2 := HJB.out
        have h3 := HJJ.out
        have e1 := HK.out
        have e2 := HNN.out
        have e3 := HJ.out
        rw [← e1, ← e2, ← e3, wraps_u64 _ (by omega) (by omega)]
        simp only [RowKit.intOf]
        omega
end Go.Proofs.YtikfjmdeeknalaaGreatDoor
