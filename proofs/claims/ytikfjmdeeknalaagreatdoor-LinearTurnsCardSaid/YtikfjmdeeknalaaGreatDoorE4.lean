/- The walk of big's divideLong. Conditions: lengths; the divisor has two digits or more, and is not greater than the dividend. -/
import Derived.Test.YtikfjmdeeknalaaGreatDoorE3
import Derived.Test.YtikfjmdeeknalaaGreatDoorC5
import Derived.Lib.ItoaNum
namespace Go.Proofs.YtikfjmdeeknalaaGreatDoor
set_option maxRecDepth 8000
open Go.RowKit

theorem bitLen_in {d : Nat} (h0 : d ≠ 0) (h1 : d < 1048576) : 1 ≤ Lib.bitLen d ∧ Lib.bitLen d ≤ 20 ∧ 2 ^ (Lib.bitLen d - 1) ≤ d ∧ d < 2 ^ Lib.bitLen d := by
  obtain ⟨a, b, c⟩ := Lib.bitLenAux_bounds 64 d (by omega) h0
  exact ⟨a, Lib.bitLen_le d 20 (by decide) (by omega), b, c⟩
theorem top_shift {b : List Nat} {n d y : Nat} (hb : Norm b) (hl : b.length = n) (hn : 1 ≤ n) (hd : b[n - 1]? = some d) (hy : Lib.bitLen d + y = 20) :
    y < 20 ∧ 524288 * 1048576 ^ (n - 1) ≤ dval b * 2 ^ y ∧ dval b * 2 ^ y < 1048576 ^ n := by
  have hdl := hb.1.at_ hd
  have hne : d ≠ 0 := by
    intro e
    subst e
    apply hb.2
    rw [List.getLast?_eq_getElem?, hl]
    exact hd
  obtain ⟨l0, l1, l2, l3⟩ := bitLen_in hne hdl
  generalize Lib.bitLen d = L at *
  have hv : dval b = dval (b.take (n - 1)) + 1048576 ^ (n - 1) * d := by
    have := dval_take_succ hd
    rw [show n - 1 + 1 = n by omega, List.take_of_length_le (by omega)] at this
    exact this
  have hlo := dval_lt (hb.1.take (n - 1))
  rw [List.length_take, Nat.min_eq_left (by omega)] at hlo
  have hP : 1048576 ^ n = 1048576 ^ (n - 1) * 1048576 := by
    conv => lhs; rw [show n = n - 1 + 1 by omega]
    rw [Nat.pow_succ]
  have e1 : 2 ^ (L - 1) * 2 ^ y = 524288 := by rw [← Nat.pow_add, show L - 1 + y = 19 by omega]
  have e2 : 2 ^ L * 2 ^ y = 1048576 := by rw [← Nat.pow_add, hy]
  rw [hP, hv]
  generalize 1048576 ^ (n - 1) = P at *
  generalize dval (b.take (n - 1)) = lo at *
  refine ⟨by omega, ?_, ?_⟩
  · have h1 : 2 ^ (L - 1) * 2 ^ y ≤ d * 2 ^ y := Nat.mul_le_mul_right _ l2
    rw [e1] at h1
    have h2 : P * 524288 ≤ P * (d * 2 ^ y) := Nat.mul_le_mul_left _ h1
    have h3 : (lo + P * d) * 2 ^ y = lo * 2 ^ y + P * (d * 2 ^ y) := by rw [Nat.add_mul, Nat.mul_assoc]
    omega
  · have h1 : lo + P * d < P * (d + 1) := by rw [Nat.mul_add]; omega
    have h2 : P * (d + 1) ≤ P * 2 ^ L := Nat.mul_le_mul_left _ l3
    have hp : 0 < 2 ^ y := Nat.pow_pos (by decide)
    have h3 : (lo + P * d) * 2 ^ y < P * 2 ^ L * 2 ^ y := Nat.mul_lt_mul_of_pos_right (by omega) hp
    rw [Nat.mul_assoc, e2] at h3
    exact h3
theorem cut_top {S : List Nat} {n : Nat} (hS : S.length = n + 1) (hlt : dval S < 1048576 ^ n) : dval (S.take n) = dval S := by
  have e := dval_split S n (by omega)
  rcases Nat.eq_zero_or_pos (dval (S.drop n)) with hz | hz
  · rw [hz] at e
    omega
  · have : 1048576 ^ n * 1 ≤ 1048576 ^ n * dval (S.drop n) := Nat.mul_le_mul_left _ hz
    omega
theorem top_digit {T : List Nat} {n d : Nat} (hl : T.length = n) (hn : 1 ≤ n) (hs : Sml T) (hv : 524288 * 1048576 ^ (n - 1) ≤ dval T) (hd : T[n - 1]? = some d) : 524288 ≤ d := by
  have hv2 : dval T = dval (T.take (n - 1)) + 1048576 ^ (n - 1) * d := by
    have := dval_take_succ hd
    rw [show n - 1 + 1 = n by omega, List.take_of_length_le (by omega)] at this
    exact this
  have hlo := dval_lt (hs.take (n - 1))
  rw [List.length_take, Nat.min_eq_left (by omega)] at hlo
  rw [hv2] at hv
  generalize 1048576 ^ (n - 1) = P at *
  have h1 : P * 524288 < P * (d + 1) := by rw [Nat.mul_add]; omega
  have := Nat.lt_of_mul_lt_mul_left h1
  omega
/-- The first remainder is less than the divisor. -/
theorem first_rest {R : List Nat} {A b m n y : Nat} (hR : R.length = m + n) (hm : 1 ≤ m + n) (hA : A < 1048576 ^ (m + n - 1)) (hy : y < 20) (hv : dval R = A * 2 ^ y) (hb : 524288 * 1048576 ^ (n - 1) ≤ b) (hn : 1 ≤ n) : dval (R.drop m) < b := by
  have e := dval_split R m (by omega)
  obtain ⟨p0, p1⟩ := pow_small hy
  have h1 : A * 2 ^ y < 1048576 ^ (m + n - 1) * 524288 := by
    have h2 : A * 2 ^ y ≤ A * 524288 := Nat.mul_le_mul_left _ p1
    have h3 : A * 524288 < 1048576 ^ (m + n - 1) * 524288 := Nat.mul_lt_mul_of_pos_right hA (by decide)
    omega
  rw [show m + n - 1 = m + (n - 1) by omega, Nat.pow_add, Nat.mul_assoc] at h1
  have h4 : 1048576 ^ m * dval (R.drop m) < 1048576 ^ m * (1048576 ^ (n - 1) * 524288) := by omega
  have h5 := Nat.lt_of_mul_lt_mul_left h4
  omega
set_option maxHeartbeats 4000000 in
theorem divideLong_any (A1 A2 : Option Addr) (n1 n2 c1 c2 B1 B2 : Nat) (a b : List Nat) (w : World) (h1 : Reads w B1 1 A1 n1 (dv a)) (h2 : Reads w B2 1 A2 n2 (dv b)) (k1 : Norm a) (k2 : Norm b) (hle : dval b ≤ dval a) (hn2 : 2 ≤ n2) (hn1 : n1 ≤ 1000000) :
    Calls Tryz.prog 198 #[.slice A1 n1 c1, .slice A2 n2 c2] w (QrEnd w (dval a / dval b) (dval a % dval b)) := by
  have l1 := h1.lenD
  have l2 := h2.lenD
  have hnn : n2 ≤ n1 := by have := len_le k1 k2 hle; omega
  obtain ⟨ad, d, rfl, hd, g1⟩ := h2.atD (i := n2 - 1) (by omega)
  have hdl := k2.1.at_ hd
  have hdne : d ≠ 0 := by
    intro e
    subst e
    apply k2.2
    rw [List.getLast?_eq_getElem?, l2]
    exact hd
  obtain ⟨b0, b1, -, -⟩ := bitLen_in hdne hdl
  obtain ⟨y, hy⟩ : ∃ y, Lib.bitLen d + y = 20 := ⟨20 - Lib.bitLen d, by omega⟩
  obtain ⟨hy20, hlo, hhi⟩ := top_shift k2 l2 (by omega) hd hy
  obtain ⟨m, hm⟩ : ∃ m, n1 + 1 = m + n2 := ⟨n1 + 1 - n2, by omega⟩
  have HLEN := Lib.hid ((Tryz.bits_Len (d : Int) · (by omega) (by omega)))
  have HSA : Hid (∀ wx, Below w.heap.size w wx → Calls Tryz.prog 228 #[.slice A1 n1 c1, .int .i64 y] wx (ShlEnd wx a n1 y)) := fun wx hb => shift_any A1 n1 c1 _ a y wx (h1.here.past hb) k1.1 hy20 (by omega)
  have HSB : Hid (∀ wx, Below w.heap.size w wx → Calls Tryz.prog 228 #[.slice (some ad) n2 c2, .int .i64 y] wx (ShlEnd wx b n2 y)) := fun wx hb => shift_any (some ad) n2 c2 _ b y wx (h2.here.past hb) k2.1 hy20 (by omega)
  have hmk := fun wx => run_make_row' (P := Tryz.prog) 22 3 (.int .i64 0) 8 Tryz.underlying22 (by kernel_rfl) (by simp [Value.cells]) .i64 .i64 m (by omega) (by omega) wx
  have HA : Hid (dval a < 1048576 ^ (m + n2 - 1)) := by have := dval_lt k1.1; rw [l1] at this; rw [show m + n2 - 1 = n1 by omega]; exact this
  have HLO := Lib.hid hlo
  have HHI := Lib.hid hhi
  have HM := Lib.hid hm
  have hmi : (n1 : Int) - (n2 : Int) + 1 = (m : Int) := by omega
  have hi0 : (0 : Int) ≤ (n2 : Int) - 1 := by omega
  have hi1 : (n2 : Int) - 1 < (n2 : Int) := by omega
  have hit : ((n2 : Int) - 1).toNat = n2 - 1 := by omega
  have hcv : IntKind.u64.wrap (d : Int) = (d : Int) := wraps_u64 _ (by omega) (by omega)
  have hsub : (20 : Int) - (Lib.bitLen d : Int) = (y : Int) := by omega
  have hdn : (d : Int).toNat = d := by omega
  clear l1 l2 hd hdl hdne b0 b1 hy hlo hhi hm h1 h2 k1 k2 hle
  go_enter Tryz.func198, Tryz.ntmps198
  go_wp2_with fail
  refine (HLEN.out _).mono ?_
  rintro e w' ⟨rfl, rfl⟩
  rw [hdn]
  go_wp2_with fail
  clear g1 hdn hcv hsub
  have hn2c : (n2 : Int) ≤ (n2 : Int) + 1 := by omega
  go_region_held3 (fun _ => True) (exact trivial)
    (first | (go_at_call_of 228 (Value.slice A1 n1 c1); refine (HSA.out _ (Below.refl _ _).drew).mono ?_; rintro e w4 ⟨R, rfl, hRl, hRs, hRv, hRd, hRb⟩; have BR := Lib.hid ((Below.refl w'.heap.size w').drew.trans hRb); have HRl := Lib.hid hRl; have HRs := Lib.hid hRs; have HRv := Lib.hid hRv; have HRd := Lib.hid hRd; clear hRl hRs hRv hRd hRb) | (go_at_call_of 228 (Value.slice (some ad) n2 c2); refine (HSB.out _ BR.out).mono ?_; rintro e w5 ⟨S, rfl, hSl, hSs, hSv, hSd, hSb⟩; have BS := Lib.hid hSb; have HSl := Lib.hid hSl; have HSs := Lib.hid hSs; have HSv := Lib.hid hSv; have HSd := Lib.hid hSd; clear hSl hSs hSv hSd hSb))
  go_wp2_with fail
  have HDQ := Lib.hid (Dig.made w5 m)
  have HMK := Lib.hid hmk
  have HMI := Lib.hid hmi
  have hmn : n1 + 1 = m + n2 := HM.out
  have hlt0 := first_rest (R := R) (m := m) (n := n2) (by rw [HRl.out]; exact hmn) (by omega) HA.out hy20 HRv.out HLO.out (by omega)
  have hLS := Lib.hid (LongSt.new (R := R) (by rw [HRl.out]; exact hmn) HRs.out HRv.out hlt0)
  have HT : Hid (dval (S.take n2) = dval b * 2 ^ y ∧ Sml (S.take n2) ∧ (S.take n2).length = n2) := ⟨by rw [cut_top HSl.out (by rw [HSv.out]; exact HHI.out), HSv.out], HSs.out.take _, by rw [List.length_take, HSl.out]; omega⟩
  have hgR := BR.out.size
  have hRlt : w'.heap.size < w4.heap.size := HRd.out.lt
  have hSlt : w4.heap.size < w5.heap.size := HSd.out.lt
  have hmn1 : n1 + 1 ≤ m + n2 := by omega
  have hmn2 : m + n2 ≤ n1 + 1 := by omega
  clear hmk hmi hlt0 HSA HSB HLEN hmn
  go_loopw [8] (fun i wr => ∃ (k : Nat) (Rk q : List Nat), k ≤ m ∧ i = .int .i64 ((k : Int) - 1) ∧ Hid (LongSt (dval a * 2 ^ y) (dval b * 2 ^ y) m n2 k Rk q) ∧ Hid (Dig wr w'.heap.size Rk) ∧ Hid (Dig wr w5.heap.size q) ∧ Hid (Dig wr w4.heap.size S) ∧ Hid (Below w'.heap.size w' wr)) (fun i _ => (RowKit.intOf i + 1).toNat)
  case atStart => exact ⟨m, R, List.replicate m 0, Nat.le_refl _, rfl, hLS, (HRd.out.past BS.out).alloc _, HDQ, HSd.out.alloc _, (BR.out.trans (BS.out.mono BR.out.size)).alloc (Nat.le_trans BR.out.size BS.out.size) _⟩
  case round =>
    obtain ⟨k, Rk, q, hk, rfl, HL, HR, HQ, HSS, HW⟩ := hrel
    by_cases h0 : k = 0
    · subst h0
      obtain ⟨r1, r2, r3⟩ := HL.out.done HHI.out
      obtain ⟨s1, s2⟩ := shift_qr (a := dval a) (b := dval b) (m := 2 ^ y) (Nat.pow_pos (by decide))
      have HR1 : Hid (dval (Rk.take n2) / 2 ^ y = dval a % dval b) := by show _ = _; rw [r1]; exact s2
      have HQ1 : Hid (dval q = dval a / dval b) := r2.trans s1
      have HR3 := Lib.hid r3
      have HSQ := Lib.hid HL.out.smlq
      have HLQ := Lib.hid HL.out.lenq
      have HLR := Lib.hid HL.out.lenR
      have hn2n1 : (n2 : Int) ≤ (n1 : Int) + 1 := by omega
      have HQD : Hid (Dig wr.drew w5.heap.size q) := HQ.out
      have HRD : Hid (Dig wr.drew w'.heap.size Rk) := HR.out
      have HWD : Hid (Below w'.heap.size w' wr.drew) := HW.out.drew
      have hne1 : w'.heap.size ≠ w5.heap.size := by omega
      clear r1 r2 r3 s1 s2 HL HQ HR HSS HW HT HSd HRd HDQ hLS
      go_wp2_with fail
      go_region_held3 (fun _ => True) (exact trivial)
        (first | (go_at_call_of 197 (Value.slice (some ⟨w5.heap.size, 0, none⟩) m m); refine (trim_any (some ⟨w5.heap.size, 0, none⟩) m m (w5.heap.size + 1) q _ (HQD.out.reads HLQ.out (Nat.lt_succ_self _)) (Nat.le_refl _) (by omega)).mono ?_; rintro e wq ⟨rfl, mq, hmq, rfl, hzq, hvq⟩; have HZQ := Lib.hid hzq; have HVQ := Lib.hid hvq; clear hzq hvq) | (go_at_call 230; refine (shiftBack_any w'.heap.size n2 _ Rk y _ HRD.out (by rw [HLR.out]; omega) HR3.out hy20 (by omega)).mono ?_; rintro e w7 ⟨E, rfl, lE, sE, vE, dE, gE⟩; have HLE := Lib.hid lE; have HSE := Lib.hid sE; have HVE := Lib.hid vE; have HDE := Lib.hid dE; have HGE := Lib.hid gE; clear lE sE vE dE gE) | (go_at_call 197; refine (trim_any (some ⟨w'.heap.size, 0, none⟩) n2 _ (w'.heap.size + 1) ((midL Rk 0 n2 E).take n2) _ ((HDE.out.take n2).reads (by rw [List.length_take, midL_len (by rw [HLR.out]; omega) HLE.out, HLR.out]; omega) (Nat.lt_succ_self _)) (by omega) (by omega)).mono ?_; rintro e wz ⟨rfl, mr, hmr, rfl, hzr, hvr⟩; have HZR := Lib.hid hzr; have HVR := Lib.hid hvr; clear hzr hvr))
      have hE' : (midL Rk 0 n2 E).take n2 = E := by
        have := midL_win (L := Rk) (off := 0) (n := n2) (Nat.zero_le _) HLE.out
        rwa [List.drop_zero] at this
      rw [hE'] at HZR HVR
      have e1 : (q.take mq).length = mq := by rw [List.length_take, HLQ.out]; omega
      have e2 : (E.take mr).length = mr := by rw [List.length_take, HLE.out]; omega
      have hDQ7 : Dig w7 w5.heap.size q := HQD.out.grown HGE.out (fun e => hne1 (Option.some.inj e))
      have hDE7 : Dig w7 w'.heap.size E := by have := HDE.out.take n2; rwa [hE'] at this
      have hfin : QrEnd w' (dval a / dval b) (dval a % dval b) (.returned (.tuple #[.slice (some ⟨w5.heap.size, 0, none⟩) mq m, .slice (some ⟨w'.heap.size, 0, none⟩) mr (n1 + 1)])) w7 :=
        ⟨q.take mq, E.take mr, some ⟨w5.heap.size, 0, none⟩, m, some ⟨w'.heap.size, 0, none⟩, n1 + 1, by rw [e1, e2], ⟨HSQ.out.take _, HZQ.out⟩, ⟨HSE.out.take _, HZR.out⟩, HVQ.out.trans HQ1.out, (HVR.out.trans HVE.out).trans HR1.out, by rw [e1]; exact hmq, by rw [e2]; omega,
          by rw [e1]; exact (hDQ7.take mq).reads e1 hDQ7.lt, by rw [e2]; exact (hDE7.take mr).reads e2 hDE7.lt, fun _ ad e => by cases e; show w'.heap.size ≤ w5.heap.size; omega, fun _ => ⟨_, rfl, Nat.le_refl _, hDE7.take mr⟩, HWD.out.grown HGE.out HWD.out.size (fun q e => by cases e; exact Nat.le_refl _)⟩
      have HF := Lib.hid hfin
      clear hfin e1 e2 hDQ7 hDE7 hE'
      go_wp2_with fail
      go_ret2
      exact HF.out
    · have hj0 : (0 : Int) ≤ (k : Int) - 1 := by omega
      have hj1 : (k : Int) - 1 ≤ (k : Int) - 1 + (n2 : Int) + 1 := by omega
      have hj2 : (k : Int) - 1 + (n2 : Int) + 1 ≤ (n1 : Int) + 1 := by omega
      have hjt : ((k : Int) - 1).toNat = k - 1 := by omega
      have hjt2 : ((k : Int) - 1 + (n2 : Int) + 1).toNat = k + n2 := by omega
      go_wp2_with fail
      rw [show k + n2 - (k - 1) = n2 + 1 by omega]
      have hLk : LongSt (dval a * 2 ^ y) (dval b * 2 ^ y) m n2 (k - 1 + 1) Rk q := by rw [show k - 1 + 1 = k by omega]; exact HL.out
      obtain ⟨v1, v2, v3, v4⟩ := hLk.win_val (by omega) HHI.out
      have hgB : w4.heap.size < wr.heap.size := HSS.out.lt
      refine (reduce_any w'.heap.size (k - 1) n2 _ Rk (some ⟨w4.heap.size, 0, none⟩) (n2 + 1) (w4.heap.size + 1) (S.take n2) wr HR.out (by rw [hLk.lenR]; omega) v4 ((HSS.out.take n2).reads HT.out.2.2 (Nat.lt_succ_self _)) (fun _ ad e => by cases e; exact Nat.ne_of_gt hRlt) HT.out.2.1 hn2 (by omega) (fun d hd => top_digit HT.out.2.2 (by omega) HT.out.2.1 (by rw [HT.out.1]; exact HLO.out) hd) (by rw [HT.out.1]; exact v3)).mono ?_
      rintro e w6 ⟨E, rfl, hE, sE, lE, vE, gE⟩
      rw [HT.out.1] at vE ⊢
      have hst := hLk.step (by omega) HHI.out lE sE vE
      have HST := Lib.hid hst
      have HE := Lib.hid hE
      have hne1 : w'.heap.size ≠ w5.heap.size := by have := BS.out.size; omega
      have hne2 : w'.heap.size ≠ w4.heap.size := by omega
      have HQ6 := Lib.hid (HQ.out.grown gE (fun e => hne1 (Option.some.inj e)))
      have HS6 := Lib.hid (HSS.out.grown gE (fun e => hne2 (Option.some.inj e)))
      have HW6 : Hid (Below w'.heap.size w' w6) := HW.out.grown gE HW.out.size (fun q e => by cases e; exact Nat.le_refl _)
      obtain ⟨Z, hZ⟩ : ∃ Z : Nat, dval (win Rk (k - 1) n2) / (dval b * 2 ^ y) = Z := ⟨_, rfl⟩
      have HST2 : Hid (LongSt (dval a * 2 ^ y) (dval b * 2 ^ y) m n2 (k - 1) (midL Rk (k - 1) (n2 + 1) E) (q.set (k - 1) Z)) := by rw [← hZ]; exact hst
      rw [show dval ((Rk.drop (k - 1)).take (n2 + 1)) / (dval b * 2 ^ y) = Z from hZ]
      obtain ⟨u, hu⟩ : ∃ u, q[k - 1]? = some u := ⟨_, List.getElem?_eq_getElem (by rw [hLk.lenq]; omega)⟩
      have g2 := HQ6.out.cell hu
      have gf := HQ6.out.frozen (k - 1)
      have hkm : (k : Int) - 1 < (m : Int) := by omega
      clear hLk v1 v2 v3 v4 hE sE lE vE gE hst hZ hu HST
      go_wp2_with fail
      go_roundw
      case rel => exact ⟨k - 1, _, _, by omega, by first | rfl | (congr 1; omega), HST2, HE.out.other (p := ⟨w5.heap.size, k - 1, none⟩) hne1 _, HQ6.out.set (k - 1) Z, HS6.out.other (p := ⟨w5.heap.size, k - 1, none⟩) (by show w4.heap.size ≠ w5.heap.size; omega) _, HW6.out.setCell (p := ⟨w5.heap.size, k - 1, none⟩) (by show _ ≤ w5.heap.size; have := BS.out.size; omega) _⟩
      case measure => simp [RowKit.intOf]; omega
end Go.Proofs.YtikfjmdeeknalaaGreatDoor
