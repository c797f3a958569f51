/- The walks of big's digit and lead. Conditions: lengths; the shift is less than a digit's width; the leading bits have room. -/
import Derived.Test.YtikfjmdeeknalaaGreatDoorE4
import Derived.Test.YtikfjmdeeknalaaGreatDoorG4
namespace Go.Proofs.YtikfjmdeeknalaaGreatDoor
set_option maxRecDepth 8000
open Go.RowKit

set_option maxHeartbeats 1000000 in
theorem digit_any (A : Option Addr) (n c B i : Nat) (l : List Nat) (w : World) (h : Reads w B 1 A n (dv l)) :
    Calls Tryz.prog 252 #[.slice A n c, .int .i64 i] w fun e w' => e = .returned (.int .i64 ((dg l i : Nat) : Int)) ∧ w = w' := by
  by_cases hlt : i < n
  · obtain ⟨ad, d, rfl, hd, g1⟩ := h.atD hlt
    have HD := Lib.hid (dg_at hd)
    have hlt2 : (i : Int) < (n : Int) := by omega
    have hge : decide (n ≤ i) = false := decide_eq_false (by omega)
    clear h hd
    go_enter Tryz.func252, Tryz.ntmps252
    go_wp2_with fail
    go_ret
    exact ⟨by rw [HD.out]; rfl, rfl⟩
  · have HD := Lib.hid (dg_out (l := l) (i := i) (by rw [h.lenD]; omega))
    have hge : n ≤ i := by omega
    clear h hlt
    go_enter Tryz.func252, Tryz.ntmps252
    go_wp2_with fail
    go_ret
    exact ⟨by rw [HD.out]; rfl, rfl⟩
theorem ret_int_eq {k : IntKind} {a b : Int} (h : a = b) : Ending.returned (.int k a) = .returned (.int k b) := by rw [h]
/-- The highest k digits. -/
def tkP (d : List Nat) (n : Nat) : Nat → Nat
  | 0 => 0
  | k + 1 => tkP d n k * 1048576 + dg d (n - 1 - k)
theorem tkP_lt {d : List Nat} (hs : Sml d) (n : Nat) : tkP d n 1 < 1048576 ∧ tkP d n 2 < 1099511627776 ∧ tkP d n 3 < 1152921504606846976 := by
  have h0 := dg_lt hs (n - 1 - 0)
  have h1 := dg_lt hs (n - 1 - 1)
  have h2 := dg_lt hs (n - 1 - 2)
  simp only [tkP]
  omega
theorem tkP_top {d : List Nat} {n : Nat} : tkP d n 3 = topP d n := by
  simp only [tkP, topP, Nat.zero_mul, Nat.zero_add, Nat.sub_zero]
  rw [show n - 1 - 1 = n - 2 by omega, show n - 1 - 2 = n - 3 by omega]
theorem or_join {X Q y : Nat} (hy : y < 20) (hm : X % 2 ^ y = 0) (hQ : Q < 2 ^ y) (hX : X < 1152921504606846976) : bits .or .i64 (X : Int) (Q : Int) = ((X + Q : Nat) : Int) := by
  obtain ⟨p0, p1⟩ := pow_small hy
  have e : (2 : Int) ^ y = ((2 ^ y : Nat) : Int) := by rw [Int.natCast_pow]; rfl
  have := bits_join .i64 63 (by decide) wraps_i64 y (X : Int) (Q : Int) (by omega) (by rw [e, ← Int.natCast_emod, hm]; rfl) (by omega) (by omega) (by rw [e]; omega) (by omega)
  rw [this]
  omega
theorem wrap_id {X : Nat} (hX : X < 1152921504606846976) : wrap64 (X : Int) = (X : Int) := by unfold wrap64; omega
theorem lead_bits {t d y : Nat} (hy : y < 20) (hd : d < 1048576) (hlt : t * 2 ^ y + d / 2 ^ (20 - y) < 1152921504606846976) :
    bits .or .i64 (wrap64 ((t : Int) * 2 ^ y)) ((d : Int) / 2 ^ (20 - y)) = ((t * 2 ^ y + d / 2 ^ (20 - y) : Nat) : Int) := by
  have hH : 2 ^ (20 - y) * 2 ^ y = 1048576 := by rw [← Nat.pow_add, show 20 - y + y = 20 by omega]
  have hdH : d / 2 ^ (20 - y) < 2 ^ y := by
    rw [Nat.div_lt_iff_lt_mul (Nat.pow_pos (by decide)), Nat.mul_comm, hH]
    exact hd
  have e1 : (t : Int) * 2 ^ y = ((t * 2 ^ y : Nat) : Int) := by rw [Int.natCast_mul, Int.natCast_pow]; rfl
  have e2 : (d : Int) / 2 ^ (20 - y) = ((d / 2 ^ (20 - y) : Nat) : Int) := by rw [Int.natCast_ediv, Int.natCast_pow]; rfl
  have hX : t * 2 ^ y < 1152921504606846976 := Nat.lt_of_le_of_lt (Nat.le_add_right _ _) hlt
  rw [e1, e2, wrap_id hX]
  exact or_join hy (Nat.mul_mod_left _ _) hdH hX
set_option maxHeartbeats 4000000 in
theorem lead_any (A : Option Addr) (n1 n c B y : Nat) (l : List Nat) (w : World) (h : Reads w B 1 A n1 (dv l)) (hs : Sml l) (hn1 : n1 ≤ n) (hn4 : 4 ≤ n) (hn : n ≤ 1000000) (hy : y < 20) (hb : leadP l n y < 1152921504606846976) :
    Calls Tryz.prog 238 #[.slice A n1 c, .int .i64 n, .int .i64 y] w fun e w' => e = .returned (.int .i64 ((leadP l n y : Nat) : Int)) ∧ Drew w w' := by
  have HDG : Hid (∀ (q i : Nat), i < n → Calls Tryz.prog 252 #[.slice A n1 c, .int .i64 i] (w.drewN q) fun e w' => e = .returned (.int .i64 ((dg l i : Nat) : Int)) ∧ w.drewN q = w') :=
    fun q i _ => digit_any A n1 c B i l (w.drewN q) (h.drewN q)
  have HT := Lib.hid (tkP_lt hs n)
  have HS := Lib.hid hs
  have HB := Lib.hid hb
  clear h hs hb
  go_enter Tryz.func238, Tryz.ntmps238
  go_wp2_with fail
  go_loopw [7, 8] (fun s7 s8 wr => ∃ (k t : Nat), k ≤ 3 ∧ s7 = .int .i64 t ∧ s8 = .int .i64 ((n : Int) - 1 - (k : Int)) ∧ Hid (t = tkP l n k) ∧ Drew w wr) (fun _ s8 _ => (RowKit.intOf s8).toNat)
  case atStart => exact ⟨0, 0, by omega, rfl, by simp, rfl, ⟨0, rfl⟩⟩
  case round =>
    obtain ⟨k, t, hk, rfl, rfl, HK, q, rfl⟩ := hrel
    by_cases hlt : k < 3
    · have hge : (n : Int) - 3 ≤ (n : Int) - 1 - (k : Int) := by omega
      have c := HDG.out q (n - 1 - k) (by omega)
      rw [show ((n - 1 - k : Nat) : Int) = (n : Int) - 1 - (k : Int) by omega] at c
      have hd := dg_lt HS.out (n - 1 - k)
      have ht : t < 1099511627776 := by
        have h1 := HT.out
        have h2 := HK.out
        have h3 : k = 0 ∨ k = 1 ∨ k = 2 := by omega
        rcases h3 with rfl | rfl | rfl
        · have e : tkP l n 0 = 0 := rfl
          omega
        · omega
        · omega
      have HK2 : Hid (t * 1048576 + dg l (n - 1 - k) = tkP l n (k + 1)) := by show _ = _; rw [HK.out]; rfl
      obtain ⟨d, hd2⟩ : ∃ d, d = dg l (n - 1 - k) := ⟨_, rfl⟩
      rw [← hd2] at c hd HK2
      have C := Lib.hid c
      have hor := or_digit (x := (t : Int)) (d := (d : Int)) (by omega) (by omega) (by omega) (by omega)
      clear c hd2 HK
      go_wp2_with fail
      refine C.out.mono ?_
      rintro e w' ⟨rfl, rfl⟩
      go_wp2_with fail
      go_roundw
      case rel => exact ⟨k + 1, t * 1048576 + d, by omega, by go_num, by (congr 1; omega), HK2, q, rfl⟩
      case measure => simp [RowKit.intOf]; omega
    · obtain rfl : k = 3 := by omega
      have hge : decide ((n : Int) - 3 ≤ (n : Int) - 1 - 3) = false := decide_eq_false (by omega)
      have c := fun q2 => HDG.out (q + q2) (n - 4) (by omega)
      rw [show ((n - 4 : Nat) : Int) = (n : Int) - 3 - 1 by omega] at c
      obtain ⟨d, hd2⟩ : ∃ d, d = dg l (n - 4) := ⟨_, rfl⟩
      rw [← hd2] at c
      have C := Lib.hid c
      clear c
      have HF : Hid (bits .or .i64 (wrap64 ((t : Int) * 2 ^ y)) ((d : Int) / 2 ^ (20 - y)) = ((leadP l n y : Nat) : Int)) := by
        have ht : t = topP l n := by rw [HK.out, tkP_top]
        have hlead : leadP l n y = t * 2 ^ y + d / 2 ^ (20 - y) := by unfold leadP; rw [ht, hd2]
        have hd := dg_lt HS.out (n - 4)
        rw [← hd2] at hd
        have HB2 := HB.out
        rw [hlead] at HB2
        show _ = _
        rw [hlead]
        exact lead_bits hy hd HB2
      clear hd2 HK
      go_wp2_with fail
      go_quiet ((go_at_call 252; exact (C.out _).mono fun _ _ h => ⟨h.1, _, h.2.symm⟩))
      go_wp2_with fail
      go_ret
      refine ⟨ret_int_eq ?_, Drew.more ⟨_, rfl⟩⟩
      exact HF.out
end Go.Proofs.YtikfjmdeeknalaaGreatDoor
