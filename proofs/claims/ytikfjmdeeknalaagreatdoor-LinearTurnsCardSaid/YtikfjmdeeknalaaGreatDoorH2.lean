/- Division and the greatest common divisor under a bound of their sizes. Conditions: sizes; the table of math/bits as its text lays it. -/
import Derived.Test.YtikfjmdeeknalaaGreatDoorD8
import Derived.Test.YtikfjmdeeknalaaGreatDoorE8
import Derived.Test.YtikfjmdeeknalaaGreatDoorH1
namespace Go.Proofs.YtikfjmdeeknalaaGreatDoor
set_option maxRecDepth 8000
open Go.RowKit

theorem floor_sz {x y q r : Int} (h : FloorP x y q r) (hy : y ≠ 0) : q.natAbs ≤ x.natAbs ∧ r.natAbs < y.natAbs := by
  obtain ⟨a, b, c⟩ := h
  have hr : r.natAbs < y.natAbs := by
    rcases Int.lt_or_gt_of_ne hy with h | h
    · have := c h; omega
    · have := b h; omega
  refine ⟨?_, hr⟩
  have e : (q * y).natAbs ≤ x.natAbs + r.natAbs := by omega
  rw [Int.natAbs_mul] at e
  rcases Nat.eq_zero_or_pos q.natAbs with h0 | h0
  · omega
  · obtain ⟨k, hk⟩ : ∃ k, q.natAbs = k + 1 := ⟨q.natAbs - 1, by omega⟩
    rw [hk, Nat.add_mul, Nat.one_mul] at e
    have h1 : k * 1 ≤ k * y.natAbs := Nat.mul_le_mul_left _ (by omega)
    omega
section
variable {w : World} {j k : Nat} {x y s1 s2 : Int} {A1 A2 : Option Addr} {n1 n2 : Nat}
theorem gcd_sz {x y : Int} {k : Nat} (h1 : Sz k x) (h2 : Sz k y) : Sz k ((Int.gcd x y : Nat) : Int) := by
  unfold Sz at *
  rw [Int.natAbs_natCast, Int.gcd]
  rcases Nat.eq_zero_or_pos x.natAbs with h0 | h0
  · rw [h0, Nat.gcd_zero_left]; exact h2
  · exact Nat.lt_of_le_of_lt (Nat.le_of_dvd h0 (Nat.gcd_dvd_left _ _)) h1
theorem gcd_F (h1 : Bg w j x s1 A1 n1) (h2 : Bg w k y s2 A2 n2) (hT : TabZ w) (hj : j ≤ 1000000) (hk : k ≤ 1000000) (c1 c2 m : Nat) (g : Int) (e1 : ((Int.gcd x y : Nat) : Int) = g) (zg : Sz m g) :
    Calls Tryz.prog 28 #[.agg #[.int .i64 s1, .slice A1 n1 c1], .agg #[.int .i64 s2, .slice A2 n2 c2]] w (OkF w m g) := by
  have f1 := h1.len
  have f2 := h2.len
  obtain ⟨-, l1, g1, r1, m1⟩ := h1
  obtain ⟨-, l2, g2, r2, m2⟩ := h2
  subst e1
  exact (Gcd_by s1 s2 A1 A2 n1 n2 c1 c2 _ _ l1 l2 x y w m1 m2 r1 r2 (by omega) (by omega) hT (fun wx k1 k2 hTx => divisor_any A1 A2 n1 n2 c1 c2 _ _ l1 l2 wx k1 k2 r1.norm r2.norm (by omega) (by omega) hTx)).mono fun _ _ h => h.f zg
end
/-- A divisor leaves nothing. -/
theorem floor_zero {x g q r : Int} (h : FloorP x g q r) (hg : 0 < g) (hd : g ∣ x) : r = 0 := by
  obtain ⟨h1, h2, -⟩ := h
  have h3 := h2 hg
  obtain ⟨k, rfl⟩ := hd
  have e : r = g * (k - q) := by grind
  have h4 : k - q = 0 := by
    rcases Int.lt_trichotomy (k - q) 0 with h | h | h
    · have := Int.mul_le_mul_of_nonneg_left (show k - q ≤ -1 by omega) (show 0 ≤ g by omega)
      omega
    · exact h
    · have := Int.mul_le_mul_of_nonneg_left (show 1 ≤ k - q by omega) (show 0 ≤ g by omega)
      omega
  rw [e, h4]; omega
end Go.Proofs.YtikfjmdeeknalaaGreatDoor
