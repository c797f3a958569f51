/- The walks of big's shift and shiftBack. Conditions: lengths; the shift is less than a digit's width. -/
import Derived.Test.YtoocdokhljpokaaDoorE1
import Derived.Test.YtoocdokhljpokaaDoorBu
import Derived.WalkArith
namespace Go.Proofs.YtoocdokhljpokaaDoor
set_option maxRecDepth 8000
open Go.RowKit

theorem or_comm_i (a b : Int) : bits .or .i64 a b = bits .or .i64 b a := by
  show IntKind.i64.wrap (((BitVec.ofInt 64 a) ||| (BitVec.ofInt 64 b)).toNat : Int) = IntKind.i64.wrap (((BitVec.ofInt 64 b) ||| (BitVec.ofInt 64 a)).toNat : Int)
  rw [BitVec.or_comm]
theorem pow_small {y : Nat} (hy : y < 20) : 0 < 2 ^ y ∧ 2 ^ y ≤ 524288 := by
  refine ⟨Nat.pow_pos (by decide), ?_⟩
  have : 2 ^ y ≤ 2 ^ 19 := Nat.pow_le_pow_right (by decide) (by omega)
  simpa using this
/-- A digit that is shifted by y, and what is carried. -/
theorem or_low_y {t d y : Nat} (hy : y < 20) (h1 : t < 2 ^ y) (h2 : d < 1048576) : bits .or .i64 (t : Int) ((d * 2 ^ y : Nat) : Int) = ((t + d * 2 ^ y : Nat) : Int) := by
  obtain ⟨p0, p1⟩ := pow_small hy
  have h3 : d * 2 ^ y ≤ 1048576 * 524288 := Nat.mul_le_mul (by omega) p1
  rw [or_comm_i]
  have e : (2 : Int) ^ y = ((2 ^ y : Nat) : Int) := by rw [Int.natCast_pow]; rfl
  have := bits_join .i64 63 (by decide) wraps_i64 y ((d * 2 ^ y : Nat) : Int) (t : Int) (by omega) (by rw [e, ← Int.natCast_emod, Nat.mul_mod_left]; rfl) (by omega) (by omega) (by rw [e]; omega) (by omega)
  rw [this]
  omega
/-- How shift ends. -/
def ShlEnd (w : World) (l : List Nat) (n y : Nat) (e : Ending) (w' : World) : Prop := ∃ S, e = .returned (.slice (some ⟨w.heap.size, 0, none⟩) (n + 1) (n + 1)) ∧ S.length = n + 1 ∧ Sml S ∧ dval S = dval l * 2 ^ y ∧ Dig w' w.heap.size S ∧ Below w.heap.size w w'
set_option maxHeartbeats 4000000 in
theorem shift_any (A : Option Addr) (n c B : Nat) (l : List Nat) (y : Nat) (w : World) (h : Reads w B 1 A n (dv l)) (hs : Sml l) (hy : y < 20) (hn : n ≤ 1048576) :
    Calls Tryd.prog 55 #[.slice A n c, .int .i64 y] w (ShlEnd w l n y) := by
  have HR := Lib.hid h
  have HL := Lib.hid h.lenD
  have HS := Lib.hid hs
  have hmk := fun wx => run_make_row' (P := Tryd.prog) 22 3 (.int .i64 0) 8 Tryd.underlying22 (by kernel_rfl) (by simp [Value.cells]) .i64 .i64 (n + 1) (by omega) (by omega) wx
  obtain ⟨N, hN⟩ : ∃ N, n + 1 = N := ⟨_, rfl⟩
  rw [hN] at hmk
  have hNi : (n : Int) + 1 = (N : Int) := by omega
  have hand := and_mask
  clear h hs
  go_enter Tryd.func55, Tryd.ntmps55
  go_wp2_with fail
  have HD := Lib.hid (Dig.made w N)
  have HMK := Lib.hid hmk
  clear hmk
  go_loopw [6, 15] (fun q i wr => ∃ (k : Nat) (S : List Nat) (t : Nat), k ≤ n ∧ i = .int .i64 k ∧ q = .int .i64 t ∧ Hid (ShlSt l (2 ^ y) k S t) ∧ Hid (Dig wr w.heap.size S) ∧ Hid (Below w.heap.size w wr)) (fun _ i _ => n - (RowKit.intOf i).toNat)
  case atStart => exact ⟨0, _, 0, Nat.zero_le _, rfl, rfl, ShlSt.new (Nat.pow_pos (by decide)) (by rw [List.length_replicate, HL.out, hN]), HD, (Below.refl _ _).alloc (Nat.le_refl _) _⟩
  case round =>
    obtain ⟨k, S, t, hk, rfl, rfl, HT, HE, HW⟩ := hrel
    by_cases hlt : k < n
    · have hkc : (k : Int) < (n : Int) := by omega
      have hkN : (k : Int) < (N : Int) := by omega
      obtain ⟨ad, d, rfl, hd, g1⟩ := (HR.out.past HW.out).atD hlt
      have HDk := Lib.hid hd
      have hdl := HS.out.at_ hd
      have ht := HT.out.hi
      obtain ⟨p0, p1⟩ := pow_small hy
      have h3 : d * 2 ^ y ≤ 1048576 * 524288 := Nat.mul_le_mul (by omega) p1
      have hor := or_low_y hy ht hdl
      obtain ⟨Z, hZ⟩ : ∃ Z : Int, ((d * 2 ^ y : Nat) : Int) = Z := ⟨_, rfl⟩
      obtain ⟨X, hX⟩ : ∃ X : Int, ((t + d * 2 ^ y : Nat) : Int) = X := ⟨_, rfl⟩
      have hX0 : 0 ≤ X := by omega
      have hX1 : X ≤ 1099511627776 := by omega
      rw [hZ, hX] at hor
      have hw : wrap64 ((d : Int) * 2 ^ y) = Z := by
        have e : (d : Int) * 2 ^ y = ((d * 2 ^ y : Nat) : Int) := by rw [Int.natCast_mul, Int.natCast_pow]; rfl
        rw [e, hZ]
        unfold wrap64
        omega
      have HX := Lib.hid hX
      obtain ⟨u, hu⟩ : ∃ u, S[k]? = some u := ⟨_, List.getElem?_eq_getElem (by rw [HT.out.len, HL.out]; omega)⟩
      have g2 := HE.out.cell hu
      have gf := HE.out.frozen k
      clear hd p0 p1 h3 hZ hX hu
      go_wp2_with fail
      go_roundw
      case rel => exact ⟨k + 1, _, (t + d * 2 ^ y) / 1048576, by omega, by go_num, by rw [← HX.out]; rfl, HT.out.step HDk.out hdl, by
        have h := HE.out.setI k (v := X % 1048576) (by omega)
        rw [show (X % 1048576).toNat = (t + d * 2 ^ y) % 1048576 by rw [← HX.out]; omega] at h
        exact h, HW.out.setCell (p := ⟨w.heap.size, k, none⟩) (Nat.le_refl _) _⟩
      case measure => simp [RowKit.intOf]; omega
    · obtain rfl : k = n := by omega
      have hSl : S.length = N := by rw [HT.out.len, HL.out, hN]
      obtain ⟨u, hu⟩ : ∃ u, S[k]? = some u := ⟨_, List.getElem?_eq_getElem (by omega)⟩
      have g2 := HE.out.cell hu
      have gf := HE.out.frozen k
      have hkN : (k : Int) < (N : Int) := by omega
      obtain ⟨p0, p1⟩ := pow_small hy
      have hT : Hid (ShlSt l (2 ^ y) l.length S t) := by rw [HL.out]; exact HT.out
      obtain ⟨d1, d2, d3⟩ := hT.out.done (by omega)
      rw [HL.out] at d1 d2 d3
      have HD1 := Lib.hid d1
      have HD2 := Lib.hid d2
      have HD3 := Lib.hid d3
      clear hu d1 d2 d3 hT p0 p1 hSl
      go_wp2_with fail
      go_ret
      refine ⟨S.set k t, by subst hN; rfl, HD3.out, HD1.out, HD2.out, HE.out.set k t, HW.out.setCell (p := ⟨w.heap.size, k, none⟩) (Nat.le_refl _) _⟩
/-- How shiftBack ends. -/
def ShbEnd (w : World) (g n c : Nat) (D : List Nat) (L : List Nat) (y : Nat) (e : Ending) (w' : World) : Prop := ∃ E, e = .returned (.slice (some ⟨g, 0, none⟩) n c) ∧ E.length = n ∧ Sml E ∧ dval E = dval D / 2 ^ y ∧ Dig w' g (midL L 0 n E) ∧ w.grownBy w' (some g)
theorem and_low_y {t y : Nat} (hy : y < 20) (ht : t < 1099511627776) : bits .and .i64 (t : Int) (2 ^ y - 1) = ((t % 2 ^ y : Nat) : Int) := by
  show IntKind.i64.wrap (((BitVec.ofInt 64 (t : Int)) &&& (BitVec.ofInt 64 (2 ^ y - 1))).toNat : Int) = _
  obtain ⟨p0, p1⟩ := pow_small hy
  have e : (2 : Int) ^ y - 1 = ((2 ^ y - 1 : Nat) : Int) := by
    have : (2 : Int) ^ y = ((2 ^ y : Nat) : Int) := by rw [Int.natCast_pow]; rfl
    rw [this]
    omega
  have h1 : (BitVec.ofInt 64 (t : Int)).toNat = t := by rw [ofInt_nat]; omega
  have h2 : (BitVec.ofInt 64 ((2 : Int) ^ y - 1)).toNat = 2 ^ y - 1 := by rw [e, ofInt_nat]; omega
  rw [BitVec.toNat_and, h1, h2, Nat.and_two_pow_sub_one_eq_mod, IntKind.wrap_i64]
  have := Nat.mod_lt t p0
  omega
set_option maxHeartbeats 4000000 in
theorem shiftBack_any (g n c : Nat) (L : List Nat) (y : Nat) (w : World) (h : Dig w g L) (hl : n ≤ L.length) (hs : Sml (L.take n)) (hy : y < 20) (hn : n ≤ 1048576) :
    Calls Tryd.prog 57 #[.slice (some ⟨g, 0, none⟩) n c, .int .i64 y] w (ShbEnd w g n c (L.take n) L y) := by
  obtain ⟨D, hD⟩ : ∃ D, L.take n = D := ⟨_, rfl⟩
  have hDl : D.length = n := by rw [← hD, List.length_take]; omega
  have hself := midL_self L 0 n
  rw [List.drop_zero, hD] at hself
  rw [hD] at hs ⊢
  rw [← hself] at h
  have H := Lib.hid h
  have HL := Lib.hid hDl
  have HS := Lib.hid hs
  have HLL := Lib.hid hl
  clear h hs hDl hl hD hself
  go_enter Tryd.func57, Tryd.ntmps57
  go_wp2_with fail
  go_loopw [5, 6] (fun q i wr => ∃ (k : Nat) (E : List Nat) (t : Nat), k ≤ n ∧ i = .int .i64 ((k : Int) - 1) ∧ q = .int .i64 t ∧ Hid (DivSt D (2 ^ y) k E t) ∧ Hid (Dig wr g (midL L 0 n E)) ∧ Hid (w.grownBy wr (some g))) (fun _ i _ => (RowKit.intOf i + 1).toNat)
  case atStart => exact ⟨n, D, 0, Nat.le_refl _, rfl, rfl, HL.out ▸ DivSt.new (Nat.pow_pos (by decide)), H, grown_refl _ _⟩
  case round =>
    clear H
    obtain ⟨k, E, t, hk, rfl, rfl, HT, HE, HG⟩ := hrel
    by_cases h0 : k = 0
    · subst h0
      obtain ⟨hsE, hvE, hrE⟩ := HT.out.done
      have HSE := Lib.hid hsE
      have HVE := Lib.hid hvE
      have HLE := Lib.hid (HT.out.len.trans HL.out)
      clear hsE hvE hrE HT
      go_wp2_with fail
      go_ret
      exact ⟨E, rfl, HLE.out, HSE.out, HVE.out, HE.out, HG.out⟩
    · obtain ⟨d, hd⟩ : ∃ d, D[k - 1]? = some d := ⟨_, List.getElem?_eq_getElem (by rw [HL.out]; omega)⟩
      have hdl := HS.out.at_ hd
      have hEl : E.length = n := HT.out.len.trans HL.out
      have hlow : E[k - 1]? = some d := by
        have := congrArg (fun l : List Nat => l[k - 1]?) HT.out.low
        simp only [List.getElem?_take, if_pos (show k - 1 < k by omega)] at this
        exact this.trans hd
      have g2 := HE.out.cell ((midL_at (n := n) (Nat.zero_le _) (show k - 1 < E.length by omega)).trans hlow)
      rw [Nat.zero_add] at g2
      have gf := HE.out.frozen (k - 1)
      have hi0 : (0 : Int) ≤ (k : Int) - 1 := by omega
      have hi1 : (k : Int) - 1 < (n : Int) := by omega
      have ht : ((k : Int) - 1).toNat = k - 1 := by omega
      obtain ⟨p0, p1⟩ := pow_small hy
      have htl := HT.out.lt
      have hor : bits .or .i64 ((t : Int) * 1048576) (d : Int) = ((t * 1048576 + d : Nat) : Int) := by rw [or_digit (by omega) (by omega) (by omega) (by omega)]; omega
      obtain ⟨X, hX⟩ : ∃ X : Int, ((t * 1048576 + d : Nat) : Int) = X := ⟨_, rfl⟩
      have hX0 : 0 ≤ X := by omega
      have hX1 : X ≤ 1099511627776 := by omega
      have hand := and_low_y (t := t * 1048576 + d) hy (by omega)
      rw [hX] at hor hand
      have HX := Lib.hid hX
      obtain ⟨P, hpw⟩ : ∃ P : Int, (2 : Int) ^ y = P := ⟨_, rfl⟩
      have hPn : P = ((2 ^ y : Nat) : Int) := by rw [← hpw, Int.natCast_pow]; rfl
      have hP0 : 1 ≤ P := by omega
      have hP1 : P ≤ 524288 := by omega
      have hPz : ¬ P = 0 := by omega
      have ht2 : (t : Int) ≤ 524288 := by omega
      rw [hpw] at hand
      obtain ⟨Y, hY⟩ : ∃ Y : Int, (((t * 1048576 + d) % 2 ^ y : Nat) : Int) = Y := ⟨_, rfl⟩
      rw [hY] at hand
      have HY := Lib.hid hY
      have HPn := Lib.hid hPn
      clear hY hPn htl
      have HDk := Lib.hid hd
      have HEl := Lib.hid hEl
      clear hd hlow p0 p1 hX hEl
      go_wp2_with fail
      go_roundw
      case rel =>
        have hq : X / P = (((t * 1048576 + d) / 2 ^ y : Nat) : Int) := by rw [← HX.out, HPn.out]; rfl
        exact ⟨k - 1, _, (t * 1048576 + d) % 2 ^ y, by omega, by first | rfl | (congr 1; omega), by rw [HY.out], DivSt.step (i := k - 1) (by rw [show k - 1 + 1 = k by omega]; exact HT.out) HDk.out hdl, by
          have h := HE.out.set (0 + (k - 1)) ((t * 1048576 + d) / 2 ^ y)
          rw [midL_set (Nat.zero_le _) (by rw [HEl.out]; omega), Nat.zero_add, ← hq] at h
          exact h, only_setCell HG.out (.inl rfl) _⟩
      case measure => simp [RowKit.intOf]; omega
end Go.Proofs.YtoocdokhljpokaaDoor
