/- The walks of big's sums, products and short divisions of digits. Conditions: lengths. -/
import Derived.Test.YtikfjmdeeknalaaGreatDoorBr
import Derived.Laws.OwnMore
namespace Go.Proofs.YtikfjmdeeknalaaGreatDoor
set_option maxRecDepth 8000
open Go.RowKit

theorem infoD1 : (Tryz.prog.info? 3).map (·.size) = some 1 := by kernel_rfl
theorem Dig.copied {w : World} {g n : Nat} {a : List Nat} (h : w.heap[g]? = some (.cells (splice (madeCells #[Value.int .i64 0] (n + 1)).toList 0 (dv a)).toArray 3 (0, 0))) (ha : a.length = n) : Dig w g (a ++ [0]) := by
  have e : splice (madeCells #[Value.int .i64 0] (n + 1)).toList 0 (dv a) = dv (a ++ [0]) := by
    unfold splice
    rw [toList_madeCells_one, dv_len, Nat.zero_add, List.take_zero, List.nil_append, List.drop_replicate, show n + 1 - a.length = 1 by omega]
    simp [dv]
  rw [e] at h
  refine ⟨_, h, by rw [List.size_toArray, dv_len]; exact Nat.le_refl _, fun i d hi => ?_⟩
  rw [List.getElem?_toArray]
  exact dv_at hi

set_option maxHeartbeats 4000000 in
theorem add_core (A1 A2 : Option Addr) (n1 n2 c1 c2 B1 B2 : Nat) (a b : List Nat) (w : World) (h1 : Reads w B1 1 A1 n1 (dv a)) (h2 : Reads w B2 1 A2 n2 (dv b)) (k1 : Sml a) (k2 : Sml b) (hle : n2 ≤ n1) (hn : n1 ≤ 536870912) :
    Calls Tryz.prog 129 #[.slice A1 n1 c1, .slice A2 n2 c2] w (DigitsV w (dval a + dval b)) := by
  have H1 := Lib.hid h1.here
  have H2 := Lib.hid h2.here
  have L1 := Lib.hid h1.lenD
  have L2 := Lib.hid h2.lenD
  have K1 := Lib.hid k1
  have K2 := Lib.hid k2
  have hmk := fun wx => run_make_row' (P := Tryz.prog) 22 3 (.int .i64 0) 8 Tryz.underlying22 (by kernel_rfl) (by simp [Value.cells]) .i64 .i64 (n1 + 1) (by omega) (by omega) wx
  rw [show ((n1 + 1 : Nat) : Int) = (n1 : Int) + 1 by omega] at hmk
  have hlt : ¬ (n1 : Int) < (n2 : Int) := by omega
  clear h1 h2 k1 k2
  have hg0 : (w.alloc (.cells (madeCells #[Value.int .i64 0] (n1 + 1)) 3)).heap[w.heap.size]? = some (.cells ((madeCells #[Value.int .i64 0] (n1 + 1)).toList).toArray 3 (0, 0)) := by rw [Array.toArray_toList]; exact heap_alloc_new w _
  have HG0 := Lib.hid hg0
  have hcs : (dv a).length = Nat.min n1 (n1 + 1) := by rw [dv_len, L1.out]; exact (Nat.min_eq_left (by omega)).symm
  have HCS := Lib.hid hcs
  have hpos : 0 < (dv a).length → ∃ ad, A1 = some ad ∧ ∀ j v, (dv a)[j]? = some v → (w.alloc (.cells (madeCells #[Value.int .i64 0] (n1 + 1)) 3)).cell? (ad.add j) = some v := fun hp => by
    rw [dv_len, L1.out] at hp
    obtain ⟨ad, e, hb, hr⟩ := (H1.out.alloc (Nat.le_refl _) (.cells (madeCells #[Value.int .i64 0] (n1 + 1)) 3)).2 hp
    exact ⟨ad, e, hr⟩
  have HPOS := Lib.hid hpos
  have HFIT : Hid (0 + (dv a).length ≤ (madeCells #[Value.int .i64 0] (n1 + 1)).toList.length) := by show _ ≤ _; rw [toList_madeCells_one, dv_len, L1.out]; simp
  have HB0 : Hid (Below w.heap.size w (w.alloc (.cells (madeCells #[Value.int .i64 0] (n1 + 1)) 3))) := (Below.refl _ _).alloc (Nat.le_refl _) _
  clear hg0 hcs hpos
  go_enter Tryz.func129, Tryz.ntmps129
  go_wp2_with ((with_reducible refine wpList_copy_splice rfl (.tmp 17) (.tmp 18) 22 22 rfl 3 Tryz.underlying22 infoD1 (some ⟨w.heap.size, 0, none⟩) A1 (n1 + 1) (n1 + 1) n1 c1 rfl rfl w.heap.size 0 (madeCells #[Value.int .i64 0] (n1 + 1)).toList 3 HG0.out (dv a) HCS.out (fun hp => ⟨rfl, HPOS.out hp⟩) HFIT.out (dv_one _) w.heap.size w HB0.out (Nat.le_refl _) ?_); intro w1 hd1 hb1; have HD := Lib.hid (Dig.copied hd1 L1.out); have HB1 := Lib.hid hb1; clear hd1 hb1)
  have H2b := Lib.hid (H2.out.past HB1.out)
  have HNE : Hid (0 < n2 → ∀ ad, A2 = some ad → ad.block ≠ w.heap.size) := fun h0 ad e => by
    have := H2.out.lt h0 e
    omega
  have hLL : (a ++ [0]).length = n1 + 1 := by rw [List.length_append, L1.out]; rfl
  have HLL := Lib.hid hLL
  have HDL : Hid (((a ++ [0]).drop 0).take (n1 + 1) = a ++ [0]) := by show _ = _; rw [List.drop_zero, List.take_of_length_le (by rw [hLL]; exact Nat.le_refl _)]
  have HSM : Hid (Sml (a ++ [0])) := Sml.app.2 ⟨K1.out, fun x hx => by simp at hx; omega⟩
  clear hmk HG0 HCS HPOS HFIT HB0 H1 H2 hLL
  refine (addTo_any w.heap.size 0 (n1 + 1) (n1 + 1) (a ++ [0]) A2 n2 c2 _ b 1 w1 HD.out (by rw [HLL.out]; omega) (by rw [HDL.out]; exact HSM.out) H2b.out HNE.out K2.out (by omega) (by decide) (by decide) (by omega)).mono ?_
  rintro e w2 ⟨E, q, rfl, hd2, hs2, hl2, hv2, hg2⟩
  rw [HDL.out] at hv2
  rw [midL_all HLL.out hl2] at hd2
  obtain ⟨-, hv3⟩ := room hs2 hl2 hv2 (by omega) (by
    have e1 := dval_lt K1.out
    have e2 := dval_lt K2.out
    rw [L1.out] at e1
    rw [L2.out] at e2
    have e3 : 1048576 ^ n2 ≤ 1048576 ^ n1 := Nat.pow_le_pow_right (by decide) hle
    have h2 := cast_pow (n1 + 1)
    rw [← h2, dval_cut0, Nat.pow_succ]
    omega)
  have HV : Hid (dval E = dval a + dval b) := by show _ = _; rw [dval_cut0] at hv3; omega
  have HD2 := Lib.hid hd2
  have HS2 := Lib.hid hs2
  have HL2 := Lib.hid hl2
  have HB2 : Hid (Below w.heap.size w w2) := grownBelow hg2 HB1.out (Nat.le_refl _)
  clear hd2 hs2 hl2 hv2 hv3 hg2 HD HB1 H2b HNE HDL HSM HLL
  go_wp2_with fail
  refine (trim_any _ (n1 + 1) (n1 + 1) (w.heap.size + 1) E w2 (HD2.out.reads HL2.out (Nat.lt_succ_self _)) (Nat.le_refl _) (by omega)).mono ?_
  rintro e w' ⟨rfl, m, hm, rfl, hz, hv⟩
  have HE := Lib.hid (DigitsV.trimmed HD2.out HL2.out hm (Nat.le_refl _) hz HS2.out hv HV.out (Nat.le_refl _) HB2.out)
  clear hz hv
  go_wp2_with fail
  go_ret
  exact HE.out
set_option maxHeartbeats 4000000 in
theorem add_turned (A1 A2 : Option Addr) (n1 n2 c1 c2 B1 B2 : Nat) (a b : List Nat) (w : World) (h1 : Reads w B1 1 A1 n1 (dv a)) (h2 : Reads w B2 1 A2 n2 (dv b)) (k1 : Sml a) (k2 : Sml b) (hle : n2 < n1) (hn : n1 ≤ 536870912) :
    Calls Tryz.prog 129 #[.slice A2 n2 c2, .slice A1 n1 c1] w (DigitsV w (dval a + dval b)) := by
  have H1 := Lib.hid h1.here
  have H2 := Lib.hid h2.here
  have L1 := Lib.hid h1.lenD
  have L2 := Lib.hid h2.lenD
  have K1 := Lib.hid k1
  have K2 := Lib.hid k2
  have hmk := fun wx => run_make_row' (P := Tryz.prog) 22 3 (.int .i64 0) 8 Tryz.underlying22 (by kernel_rfl) (by simp [Value.cells]) .i64 .i64 (n1 + 1) (by omega) (by omega) wx
  rw [show ((n1 + 1 : Nat) : Int) = (n1 : Int) + 1 by omega] at hmk
  have hlt : (n2 : Int) < (n1 : Int) := by omega
  clear h1 h2 k1 k2
  have hg0 : (w.alloc (.cells (madeCells #[Value.int .i64 0] (n1 + 1)) 3)).heap[w.heap.size]? = some (.cells ((madeCells #[Value.int .i64 0] (n1 + 1)).toList).toArray 3 (0, 0)) := by rw [Array.toArray_toList]; exact heap_alloc_new w _
  have HG0 := Lib.hid hg0
  have hcs : (dv a).length = Nat.min n1 (n1 + 1) := by rw [dv_len, L1.out]; exact (Nat.min_eq_left (by omega)).symm
  have HCS := Lib.hid hcs
  have hpos : 0 < (dv a).length → ∃ ad, A1 = some ad ∧ ∀ j v, (dv a)[j]? = some v → (w.alloc (.cells (madeCells #[Value.int .i64 0] (n1 + 1)) 3)).cell? (ad.add j) = some v := fun hp => by
    rw [dv_len, L1.out] at hp
    obtain ⟨ad, e, hb, hr⟩ := (H1.out.alloc (Nat.le_refl _) (.cells (madeCells #[Value.int .i64 0] (n1 + 1)) 3)).2 hp
    exact ⟨ad, e, hr⟩
  have HPOS := Lib.hid hpos
  have HFIT : Hid (0 + (dv a).length ≤ (madeCells #[Value.int .i64 0] (n1 + 1)).toList.length) := by show _ ≤ _; rw [toList_madeCells_one, dv_len, L1.out]; simp
  have HB0 : Hid (Below w.heap.size w (w.alloc (.cells (madeCells #[Value.int .i64 0] (n1 + 1)) 3))) := (Below.refl _ _).alloc (Nat.le_refl _) _
  clear hg0 hcs hpos
  go_enter Tryz.func129, Tryz.ntmps129
  go_wp2_with ((with_reducible refine wpList_copy_splice rfl (.tmp 17) (.tmp 18) 22 22 rfl 3 Tryz.underlying22 infoD1 (some ⟨w.heap.size, 0, none⟩) A1 (n1 + 1) (n1 + 1) n1 c1 rfl rfl w.heap.size 0 (madeCells #[Value.int .i64 0] (n1 + 1)).toList 3 HG0.out (dv a) HCS.out (fun hp => ⟨rfl, HPOS.out hp⟩) HFIT.out (dv_one _) w.heap.size w HB0.out (Nat.le_refl _) ?_); intro w1 hd1 hb1; have HD := Lib.hid (Dig.copied hd1 L1.out); have HB1 := Lib.hid hb1; clear hd1 hb1)
  have H2b := Lib.hid (H2.out.past HB1.out)
  have HNE : Hid (0 < n2 → ∀ ad, A2 = some ad → ad.block ≠ w.heap.size) := fun h0 ad e => by
    have := H2.out.lt h0 e
    omega
  have hLL : (a ++ [0]).length = n1 + 1 := by rw [List.length_append, L1.out]; rfl
  have HLL := Lib.hid hLL
  have HDL : Hid (((a ++ [0]).drop 0).take (n1 + 1) = a ++ [0]) := by show _ = _; rw [List.drop_zero, List.take_of_length_le (by rw [hLL]; exact Nat.le_refl _)]
  have HSM : Hid (Sml (a ++ [0])) := Sml.app.2 ⟨K1.out, fun x hx => by simp at hx; omega⟩
  clear hmk HG0 HCS HPOS HFIT HB0 H1 H2 hLL
  refine (addTo_any w.heap.size 0 (n1 + 1) (n1 + 1) (a ++ [0]) A2 n2 c2 _ b 1 w1 HD.out (by rw [HLL.out]; omega) (by rw [HDL.out]; exact HSM.out) H2b.out HNE.out K2.out (by omega) (by decide) (by decide) (by omega)).mono ?_
  rintro e w2 ⟨E, q, rfl, hd2, hs2, hl2, hv2, hg2⟩
  rw [HDL.out] at hv2
  rw [midL_all HLL.out hl2] at hd2
  obtain ⟨-, hv3⟩ := room hs2 hl2 hv2 (by omega) (by
    have e1 := dval_lt K1.out
    have e2 := dval_lt K2.out
    rw [L1.out] at e1
    rw [L2.out] at e2
    have e3 : 1048576 ^ n2 ≤ 1048576 ^ n1 := Nat.pow_le_pow_right (by decide) (by omega)
    have h2 := cast_pow (n1 + 1)
    rw [← h2, dval_cut0, Nat.pow_succ]
    omega)
  have HV : Hid (dval E = dval a + dval b) := by show _ = _; rw [dval_cut0] at hv3; omega
  have HD2 := Lib.hid hd2
  have HS2 := Lib.hid hs2
  have HL2 := Lib.hid hl2
  have HB2 : Hid (Below w.heap.size w w2) := grownBelow hg2 HB1.out (Nat.le_refl _)
  clear hd2 hs2 hl2 hv2 hv3 hg2 HD HB1 H2b HNE HDL HSM HLL
  go_wp2_with fail
  refine (trim_any _ (n1 + 1) (n1 + 1) (w.heap.size + 1) E w2 (HD2.out.reads HL2.out (Nat.lt_succ_self _)) (Nat.le_refl _) (by omega)).mono ?_
  rintro e w' ⟨rfl, m, hm, rfl, hz, hv⟩
  have HE := Lib.hid (DigitsV.trimmed HD2.out HL2.out hm (Nat.le_refl _) hz HS2.out hv HV.out (Nat.le_refl _) HB2.out)
  clear hz hv
  go_wp2_with fail
  go_ret
  exact HE.out
theorem add_any (A1 A2 : Option Addr) (n1 n2 c1 c2 B1 B2 : Nat) (a b : List Nat) (w : World) (h1 : Reads w B1 1 A1 n1 (dv a)) (h2 : Reads w B2 1 A2 n2 (dv b)) (k1 : Sml a) (k2 : Sml b) (hn : n1 ≤ 536870912) (hm : n2 ≤ 536870912) :
    Calls Tryz.prog 129 #[.slice A1 n1 c1, .slice A2 n2 c2] w (DigitsV w (dval a + dval b)) := by
  by_cases h : n2 ≤ n1
  · exact add_core A1 A2 n1 n2 c1 c2 B1 B2 a b w h1 h2 k1 k2 h hn
  · have := add_turned A2 A1 n2 n1 c2 c1 B2 B1 b a w h2 h1 k2 k1 (by omega) hm
    rw [Nat.add_comm] at this
    exact this
end Go.Proofs.YtikfjmdeeknalaaGreatDoor

/- The walks of big's products of digits, and of short divisions. Conditions: lengths. -/
namespace Go.Proofs.YtikfjmdeeknalaaGreatDoor
set_option maxRecDepth 8000
open Go.RowKit

theorem MulSt.bound {a b P : List Nat} {i x k j p : Nat} (h : MulSt a b i x k P) (hi : i ≤ 1048576) (hp : P[j]? = some p) : (p : Int) ≤ 1152922604118474752 := by
  have h1 := h.bd j p hp
  have h2 : (i + if i ≤ j ∧ j < i + k then 1 else 0) * 1099511627776 ≤ 1048577 * 1099511627776 := Nat.mul_le_mul_right _ (by split <;> omega)
  have h3 := Nat.le_trans h1 h2
  have h4 : (1048577 : Nat) * 1099511627776 = 1152922604118474752 := by rfl
  rw [h4] at h3
  exact Int.ofNat_le.2 h3

set_option maxHeartbeats 4000000 in
theorem mul_core (A1 A2 : Option Addr) (n1 n2 c1 c2 B1 B2 : Nat) (a b : List Nat) (w : World) (h1 : Reads w B1 1 A1 n1 (dv a)) (h2 : Reads w B2 1 A2 n2 (dv b)) (k1 : Sml a) (k2 : Sml b) (hle : n1 ≤ n2) (hn : n2 ≤ 1048576) :
    Calls Tryz.prog 126 #[.slice A1 n1 c1, .slice A2 n2 c2] w (DigitsV w (dval a * dval b)) := by
  have H1 := Lib.hid h1.here
  have H2 := Lib.hid h2.here
  have L1 := Lib.hid h1.lenD
  have L2 := Lib.hid h2.lenD
  have K1 := Lib.hid k1
  have K2 := Lib.hid k2
  have hmk := fun wx => run_make_row' (P := Tryz.prog) 22 3 (.int .i64 0) 8 Tryz.underlying22 (by kernel_rfl) (by simp [Value.cells]) .i64 .i64 (n1 + n2) (by omega) (by omega) wx
  rw [show ((n1 + n2 : Nat) : Int) = (n1 : Int) + (n2 : Int) by omega] at hmk
  have hlt : ¬ (n2 : Int) < (n1 : Int) := by omega
  have HB0 : Hid (Below w.heap.size w (w.alloc (.cells (madeCells #[Value.int .i64 0] (n1 + n2)) 3))) := (Below.refl _ _).alloc (Nat.le_refl _) _
  have HD0 := Lib.hid (Dig.made w (n1 + n2))
  have hand := and_mask
  clear h1 h2 k1 k2
  go_enter Tryz.func126, Tryz.ntmps126
  go_wp2_with fail
  clear hmk
  go_loopw [29] (fun i wr => ∃ (k : Nat) (P : List Nat), k ≤ n1 ∧ i = .int .i64 k ∧ Hid (MulSt a b k 0 0 P) ∧ Hid (Dig wr w.heap.size P) ∧ Hid (Below w.heap.size w wr)) (fun i _ => n1 - (RowKit.intOf i).toNat)
  case atStart => exact ⟨0, _, Nat.zero_le _, rfl, MulSt.new a b 0, by rw [L1.out, L2.out]; exact HD0, HB0⟩
  case round =>
    clear HB0 HD0
    obtain ⟨k, P, hk, rfl, HM, HD, HB⟩ := hrel
    by_cases hlt : k < n1
    · obtain ⟨ad, x, rfl, hx, g1⟩ := (H1.out.past HB.out).atD hlt
      have hkc : (k : Int) < (n1 : Int) := by omega
      have hxl := K1.out.at_ hx
      have HX := Lib.hid hx
      have HM1 : Hid (MulSt a b k x 0 P) := ⟨HM.out.len, by have := HM.out.eq; simpa [dval] using this, HM.out.bd⟩
      clear hx HM
      have hs0 : ¬ (n1 + n2 = k) := by omega
      have hs1 : (k : Int) ≤ (k : Int) + (n2 : Int) := by omega
      have hs2 : (k : Int) + (n2 : Int) ≤ (n1 : Int) + (n2 : Int) := by omega
      go_wp2_with fail
      rw [show k + n2 - k = n2 by omega]
      clear hs0 hs1 hs2 g1
      go_loopw [43] (fun i wr => ∃ (j : Nat) (P : List Nat), j ≤ n2 ∧ i = .int .i64 j ∧ Hid (MulSt a b k x j P) ∧ Hid (Dig wr w.heap.size P) ∧ Hid (Below w.heap.size w wr)) (fun i _ => n2 - (RowKit.intOf i).toNat)
      case atStart => exact ⟨0, P, Nat.zero_le _, rfl, HM1, HD, HB⟩
      case round =>
        clear HM1 HD HB
        obtain ⟨j, P, hj, rfl, HM, HD, HB⟩ := hrel
        by_cases hlt2 : j < n2
        · obtain ⟨ad2, y, rfl, hy, g1⟩ := (H2.out.past HB.out).atD hlt2
          have hjc : (j : Int) < (n2 : Int) := by omega
          have hyl := K2.out.at_ hy
          have hPl : P.length = n1 + n2 := by rw [HM.out.len, L1.out, L2.out]
          obtain ⟨p, hp⟩ : ∃ p, P[k + j]? = some p := ⟨_, List.getElem?_eq_getElem (by omega)⟩
          have HY := Lib.hid hy
          have HP := Lib.hid hp
          have g2 := HD.out.cell hp
          have gf := HD.out.frozen (k + j)
          have hpb := HM.out.bound (by omega) hp
          have hxy0 : (0 : Int) ≤ (x : Int) * (y : Int) := Int.mul_nonneg (by omega) (by omega)
          have hxy1 : (x : Int) * (y : Int) ≤ 1099511627776 := by
            have h1 : (x : Int) * (y : Int) ≤ 1048576 * 1048576 := Int.mul_le_mul (by omega) (by omega) (by omega) (by omega)
            omega
          have hp0 : (0 : Int) ≤ (p : Int) := by omega
          obtain ⟨X, hX⟩ : ∃ X : Int, (x : Int) = X := ⟨_, rfl⟩
          obtain ⟨Y, hY⟩ : ∃ Y : Int, (y : Int) = Y := ⟨_, rfl⟩
          obtain ⟨Z, hZ⟩ : ∃ Z : Int, (p : Int) = Z := ⟨_, rfl⟩
          rw [hX, hY] at hxy0 hxy1
          rw [hZ] at hpb hp0 g2
          rw [hY] at g1
          rw [hX]
          have HXX := Lib.hid hX
          have HYY := Lib.hid hY
          have HZZ := Lib.hid hZ
          clear hy hp hPl hX hY hZ
          go_wp2_with fail
          go_roundw
          case rel => exact ⟨j + 1, _, by omega, by go_num, HM.out.step hxl HY.out hyl HP.out, by
            have h := HD.out.set (k + j) (p + x * y)
            rw [show ((p + x * y : Nat) : Int) = Z + X * Y by rw [← HXX.out, ← HYY.out, ← HZZ.out]; simp] at h
            exact h, HB.out.setCell (p := ⟨w.heap.size, k + j, none⟩) (Nat.le_refl _) _⟩
          case measure => simp [RowKit.intOf]; omega
        · obtain rfl : j = n2 := by omega
          go_wp2_with fail
          go_roundw
          case rel => exact ⟨k + 1, P, by omega, by go_num, (L2.out ▸ HM.out : MulSt a b k x b.length P).next HX.out, HD, HB⟩
          case measure => simp [RowKit.intOf]; omega
    · obtain rfl : k = n1 := by omega
      have hPl : P.length = k + n2 := by rw [HM.out.len, L1.out, L2.out]
      have HPL := Lib.hid hPl
      have HPV : Hid (dval P = dval a * dval b) := (L1.out ▸ HM.out : MulSt a b a.length 0 0 P).done
      have HPB : Hid (∀ j p, P[j]? = some p → p ≤ 1152922604118474752) := fun j p hp => Int.ofNat_le.1 (HM.out.bound (by omega) hp)
      clear HM hPl
      go_wp2_with fail
      go_loopw [11, 61] (fun q i wr => ∃ (j : Nat) (E : List Nat) (t : Nat), j ≤ k + n2 ∧ i = .int .i64 j ∧ q = .int .i64 t ∧ Hid (CarSt P j E t) ∧ Hid (Dig wr w.heap.size E) ∧ Hid (Below w.heap.size w wr)) (fun _ i _ => k + n2 - (RowKit.intOf i).toNat)
      case atStart => exact ⟨0, P, 0, Nat.zero_le _, rfl, rfl, CarSt.new P, HD, HB⟩
      case round =>
        clear HD HB
        obtain ⟨j, E, t, hj, rfl, rfl, HC, HD, HB⟩ := hrel
        by_cases hlt2 : j < k + n2
        · have hjc : (j : Int) < (k : Int) + (n2 : Int) := by omega
          obtain ⟨p, hp⟩ : ∃ p, P[j]? = some p := ⟨_, List.getElem?_eq_getElem (by rw [HPL.out]; exact hlt2)⟩
          have HP := Lib.hid hp
          have g2 := HD.out.cell ((at_low HC.out.low).trans hp)
          have gf := HD.out.frozen j
          have hpb : (p : Int) ≤ 1152922604118474752 := Int.ofNat_le.2 (HPB.out _ _ hp)
          have htb : (t : Int) ≤ 2305843009213693952 := Int.ofNat_le.2 HC.out.hi
          have hp0 : (0 : Int) ≤ (p : Int) := by omega
          have ht0 : (0 : Int) ≤ (t : Int) := by omega
          obtain ⟨T, hT⟩ : ∃ X : Int, (t : Int) = X := ⟨_, rfl⟩
          obtain ⟨Z, hZ⟩ : ∃ Z : Int, (p : Int) = Z := ⟨_, rfl⟩
          rw [hZ] at hpb hp0 g2
          rw [hT] at ht0 htb
          rw [hT]
          have HTT := Lib.hid hT
          have HZZ := Lib.hid hZ
          clear hp hT hZ
          go_wp2_with fail
          go_roundw
          case rel => exact ⟨j + 1, _, _, by omega, by go_num, by rw [← HTT.out, ← HZZ.out]; rfl, HC.out.step HP.out (Nat.le_trans (HPB.out _ _ HP.out) (by decide)), by
            have h := HD.out.set j ((t + p) % 1048576)
            rw [show (((t + p) % 1048576 : Nat) : Int) = (T + Z) % 1048576 by rw [← HTT.out, ← HZZ.out]; rfl] at h
            exact h, HB.out.setCell (p := ⟨w.heap.size, j, none⟩) (Nat.le_refl _) _⟩
          case measure => simp [RowKit.intOf]; omega
        · obtain rfl : j = k + n2 := by omega
          have hd := (HPL.out ▸ HC.out : CarSt P P.length E t).done
          rw [HPL.out, HPV.out] at hd
          have hEl : E.length = k + n2 := by rw [HC.out.len, HPL.out]
          have hv : dval E = dval a * dval b := by
            have e1 := dval_lt K1.out
            have e2 := dval_lt K2.out
            rw [L1.out] at e1
            rw [L2.out] at e2
            have e3 : dval a * dval b < 1048576 ^ (k + n2) := by rw [Nat.pow_add]; exact Nat.mul_lt_mul'' e1 e2
            have hp := Nat.pow_pos (n := k + n2) (show 0 < 1048576 by decide)
            rcases Nat.eq_zero_or_pos t with h0 | h0
            · rw [h0] at hd; omega
            · have := Nat.mul_le_mul_left (1048576 ^ (k + n2)) h0
              omega
          have HV := Lib.hid hv
          have HS := Lib.hid hd.1
          have HEL := Lib.hid hEl
          clear hd hEl hv HC HPL HPV HPB
          go_wp2_with fail
          refine (trim_any _ (k + n2) (k + n2) (w.heap.size + 1) E wr (HD.out.reads HEL.out (Nat.lt_succ_self _)) (Nat.le_refl _) (by omega)).mono ?_
          rintro e w' ⟨rfl, m, hm, rfl, hz, hv⟩
          have HE := Lib.hid (DigitsV.trimmed HD.out HEL.out hm (Nat.le_refl _) hz HS.out hv HV.out (Nat.le_refl _) HB.out)
          clear hz hv
          go_wp2_with fail
          go_ret
          exact HE.out
set_option maxHeartbeats 4000000 in
theorem mul_turned (A1 A2 : Option Addr) (n1 n2 c1 c2 B1 B2 : Nat) (a b : List Nat) (w : World) (h1 : Reads w B1 1 A1 n1 (dv a)) (h2 : Reads w B2 1 A2 n2 (dv b)) (k1 : Sml a) (k2 : Sml b) (hle : n1 < n2) (hn : n2 ≤ 1048576) :
    Calls Tryz.prog 126 #[.slice A2 n2 c2, .slice A1 n1 c1] w (DigitsV w (dval a * dval b)) := by
  have H1 := Lib.hid h1.here
  have H2 := Lib.hid h2.here
  have L1 := Lib.hid h1.lenD
  have L2 := Lib.hid h2.lenD
  have K1 := Lib.hid k1
  have K2 := Lib.hid k2
  have hmk := fun wx => run_make_row' (P := Tryz.prog) 22 3 (.int .i64 0) 8 Tryz.underlying22 (by kernel_rfl) (by simp [Value.cells]) .i64 .i64 (n1 + n2) (by omega) (by omega) wx
  rw [show ((n1 + n2 : Nat) : Int) = (n1 : Int) + (n2 : Int) by omega] at hmk
  have hlt : (n1 : Int) < (n2 : Int) := by omega
  have HB0 : Hid (Below w.heap.size w (w.alloc (.cells (madeCells #[Value.int .i64 0] (n1 + n2)) 3))) := (Below.refl _ _).alloc (Nat.le_refl _) _
  have HD0 := Lib.hid (Dig.made w (n1 + n2))
  have hand := and_mask
  clear h1 h2 k1 k2
  go_enter Tryz.func126, Tryz.ntmps126
  go_wp2_with fail
  clear hmk
  go_loopw [29] (fun i wr => ∃ (k : Nat) (P : List Nat), k ≤ n1 ∧ i = .int .i64 k ∧ Hid (MulSt a b k 0 0 P) ∧ Hid (Dig wr w.heap.size P) ∧ Hid (Below w.heap.size w wr)) (fun i _ => n1 - (RowKit.intOf i).toNat)
  case atStart => exact ⟨0, _, Nat.zero_le _, rfl, MulSt.new a b 0, by rw [L1.out, L2.out]; exact HD0, HB0⟩
  case round =>
    clear HB0 HD0
    obtain ⟨k, P, hk, rfl, HM, HD, HB⟩ := hrel
    by_cases hlt : k < n1
    · obtain ⟨ad, x, rfl, hx, g1⟩ := (H1.out.past HB.out).atD hlt
      have hkc : (k : Int) < (n1 : Int) := by omega
      have hxl := K1.out.at_ hx
      have HX := Lib.hid hx
      have HM1 : Hid (MulSt a b k x 0 P) := ⟨HM.out.len, by have := HM.out.eq; simpa [dval] using this, HM.out.bd⟩
      clear hx HM
      have hs0 : ¬ (n1 + n2 = k) := by omega
      have hs1 : (k : Int) ≤ (k : Int) + (n2 : Int) := by omega
      have hs2 : (k : Int) + (n2 : Int) ≤ (n1 : Int) + (n2 : Int) := by omega
      go_wp2_with fail
      rw [show k + n2 - k = n2 by omega]
      clear hs0 hs1 hs2 g1
      go_loopw [43] (fun i wr => ∃ (j : Nat) (P : List Nat), j ≤ n2 ∧ i = .int .i64 j ∧ Hid (MulSt a b k x j P) ∧ Hid (Dig wr w.heap.size P) ∧ Hid (Below w.heap.size w wr)) (fun i _ => n2 - (RowKit.intOf i).toNat)
      case atStart => exact ⟨0, P, Nat.zero_le _, rfl, HM1, HD, HB⟩
      case round =>
        clear HM1 HD HB
        obtain ⟨j, P, hj, rfl, HM, HD, HB⟩ := hrel
        by_cases hlt2 : j < n2
        · obtain ⟨ad2, y, rfl, hy, g1⟩ := (H2.out.past HB.out).atD hlt2
          have hjc : (j : Int) < (n2 : Int) := by omega
          have hyl := K2.out.at_ hy
          have hPl : P.length = n1 + n2 := by rw [HM.out.len, L1.out, L2.out]
          obtain ⟨p, hp⟩ : ∃ p, P[k + j]? = some p := ⟨_, List.getElem?_eq_getElem (by omega)⟩
          have HY := Lib.hid hy
          have HP := Lib.hid hp
          have g2 := HD.out.cell hp
          have gf := HD.out.frozen (k + j)
          have hpb := HM.out.bound (by omega) hp
          have hxy0 : (0 : Int) ≤ (x : Int) * (y : Int) := Int.mul_nonneg (by omega) (by omega)
          have hxy1 : (x : Int) * (y : Int) ≤ 1099511627776 := by
            have h1 : (x : Int) * (y : Int) ≤ 1048576 * 1048576 := Int.mul_le_mul (by omega) (by omega) (by omega) (by omega)
            omega
          have hp0 : (0 : Int) ≤ (p : Int) := by omega
          obtain ⟨X, hX⟩ : ∃ X : Int, (x : Int) = X := ⟨_, rfl⟩
          obtain ⟨Y, hY⟩ : ∃ Y : Int, (y : Int) = Y := ⟨_, rfl⟩
          obtain ⟨Z, hZ⟩ : ∃ Z : Int, (p : Int) = Z := ⟨_, rfl⟩
          rw [hX, hY] at hxy0 hxy1
          rw [hZ] at hpb hp0 g2
          rw [hY] at g1
          rw [hX]
          have HXX := Lib.hid hX
          have HYY := Lib.hid hY
          have HZZ := Lib.hid hZ
          clear hy hp hPl hX hY hZ
          go_wp2_with fail
          go_roundw
          case rel => exact ⟨j + 1, _, by omega, by go_num, HM.out.step hxl HY.out hyl HP.out, by
            have h := HD.out.set (k + j) (p + x * y)
            rw [show ((p + x * y : Nat) : Int) = Z + X * Y by rw [← HXX.out, ← HYY.out, ← HZZ.out]; simp] at h
            exact h, HB.out.setCell (p := ⟨w.heap.size, k + j, none⟩) (Nat.le_refl _) _⟩
          case measure => simp [RowKit.intOf]; omega
        · obtain rfl : j = n2 := by omega
          go_wp2_with fail
          go_roundw
          case rel => exact ⟨k + 1, P, by omega, by go_num, (L2.out ▸ HM.out : MulSt a b k x b.length P).next HX.out, HD, HB⟩
          case measure => simp [RowKit.intOf]; omega
    · obtain rfl : k = n1 := by omega
      have hPl : P.length = k + n2 := by rw [HM.out.len, L1.out, L2.out]
      have HPL := Lib.hid hPl
      have HPV : Hid (dval P = dval a * dval b) := (L1.out ▸ HM.out : MulSt a b a.length 0 0 P).done
      have HPB : Hid (∀ j p, P[j]? = some p → p ≤ 1152922604118474752) := fun j p hp => Int.ofNat_le.1 (HM.out.bound (by omega) hp)
      clear HM hPl
      go_wp2_with fail
      go_loopw [11, 61] (fun q i wr => ∃ (j : Nat) (E : List Nat) (t : Nat), j ≤ k + n2 ∧ i = .int .i64 j ∧ q = .int .i64 t ∧ Hid (CarSt P j E t) ∧ Hid (Dig wr w.heap.size E) ∧ Hid (Below w.heap.size w wr)) (fun _ i _ => k + n2 - (RowKit.intOf i).toNat)
      case atStart => exact ⟨0, P, 0, Nat.zero_le _, rfl, rfl, CarSt.new P, HD, HB⟩
      case round =>
        clear HD HB
        obtain ⟨j, E, t, hj, rfl, rfl, HC, HD, HB⟩ := hrel
        by_cases hlt2 : j < k + n2
        · have hjc : (j : Int) < (k : Int) + (n2 : Int) := by omega
          obtain ⟨p, hp⟩ : ∃ p, P[j]? = some p := ⟨_, List.getElem?_eq_getElem (by rw [HPL.out]; exact hlt2)⟩
          have HP := Lib.hid hp
          have g2 := HD.out.cell ((at_low HC.out.low).trans hp)
          have gf := HD.out.frozen j
          have hpb : (p : Int) ≤ 1152922604118474752 := Int.ofNat_le.2 (HPB.out _ _ hp)
          have htb : (t : Int) ≤ 2305843009213693952 := Int.ofNat_le.2 HC.out.hi
          have hp0 : (0 : Int) ≤ (p : Int) := by omega
          have ht0 : (0 : Int) ≤ (t : Int) := by omega
          obtain ⟨T, hT⟩ : ∃ X : Int, (t : Int) = X := ⟨_, rfl⟩
          obtain ⟨Z, hZ⟩ : ∃ Z : Int, (p : Int) = Z := ⟨_, rfl⟩
          rw [hZ] at hpb hp0 g2
          rw [hT] at ht0 htb
          rw [hT]
          have HTT := Lib.hid hT
          have HZZ := Lib.hid hZ
          clear hp hT hZ
          go_wp2_with fail
          go_roundw
          case rel => exact ⟨j + 1, _, _, by omega, by go_num, by rw [← HTT.out, ← HZZ.out]; rfl, HC.out.step HP.out (Nat.le_trans (HPB.out _ _ HP.out) (by decide)), by
            have h := HD.out.set j ((t + p) % 1048576)
            rw [show (((t + p) % 1048576 : Nat) : Int) = (T + Z) % 1048576 by rw [← HTT.out, ← HZZ.out]; rfl] at h
            exact h, HB.out.setCell (p := ⟨w.heap.size, j, none⟩) (Nat.le_refl _) _⟩
          case measure => simp [RowKit.intOf]; omega
        · obtain rfl : j = k + n2 := by omega
          have hd := (HPL.out ▸ HC.out : CarSt P P.length E t).done
          rw [HPL.out, HPV.out] at hd
          have hEl : E.length = k + n2 := by rw [HC.out.len, HPL.out]
          have hv : dval E = dval a * dval b := by
            have e1 := dval_lt K1.out
            have e2 := dval_lt K2.out
            rw [L1.out] at e1
            rw [L2.out] at e2
            have e3 : dval a * dval b < 1048576 ^ (k + n2) := by rw [Nat.pow_add]; exact Nat.mul_lt_mul'' e1 e2
            have hp := Nat.pow_pos (n := k + n2) (show 0 < 1048576 by decide)
            rcases Nat.eq_zero_or_pos t with h0 | h0
            · rw [h0] at hd; omega
            · have := Nat.mul_le_mul_left (1048576 ^ (k + n2)) h0
              omega
          have HV := Lib.hid hv
          have HS := Lib.hid hd.1
          have HEL := Lib.hid hEl
          clear hd hEl hv HC HPL HPV HPB
          go_wp2_with fail
          refine (trim_any _ (k + n2) (k + n2) (w.heap.size + 1) E wr (HD.out.reads HEL.out (Nat.lt_succ_self _)) (Nat.le_refl _) (by omega)).mono ?_
          rintro e w' ⟨rfl, m, hm, rfl, hz, hv⟩
          have HE := Lib.hid (DigitsV.trimmed HD.out HEL.out hm (Nat.le_refl _) hz HS.out hv HV.out (Nat.le_refl _) HB.out)
          clear hz hv
          go_wp2_with fail
          go_ret
          exact HE.out
theorem mul_any (A1 A2 : Option Addr) (n1 n2 c1 c2 B1 B2 : Nat) (a b : List Nat) (w : World) (h1 : Reads w B1 1 A1 n1 (dv a)) (h2 : Reads w B2 1 A2 n2 (dv b)) (k1 : Sml a) (k2 : Sml b) (hn : n1 ≤ 1048576) (hm : n2 ≤ 1048576) :
    Calls Tryz.prog 126 #[.slice A1 n1 c1, .slice A2 n2 c2] w (DigitsV w (dval a * dval b)) := by
  by_cases h : n1 ≤ n2
  · exact mul_core A1 A2 n1 n2 c1 c2 B1 B2 a b w h1 h2 k1 k2 h hm
  · have := mul_turned A2 A1 n2 n1 c2 c1 B2 B1 b a w h2 h1 k2 k1 (by omega) hn
    rw [Nat.mul_comm] at this
    exact this

/-- How divideBy ends. -/
def ByEnd (w : World) (g : Nat) (D : List Nat) (b : Nat) (e : Ending) (w' : World) : Prop :=
  ∃ E m c, e = .returned (.tuple #[.slice (some ⟨g, 0, none⟩) m c, .int .i64 (dval D % b : Nat)]) ∧ m ≤ D.length ∧ D.length ≤ c ∧ E.length = D.length ∧ Dig w' g E ∧ Sml E ∧ NoZ (E.take m) ∧ dval (E.take m) = dval D / b ∧ dval E = dval D / b ∧ w.grownBy w' (some g)
set_option maxHeartbeats 4000000 in
theorem divideBy_any (g n c : Nat) (D : List Nat) (b : Nat) (w : World) (h : Dig w g D) (hl : D.length = n) (hs : Sml D) (hb0 : 0 < b) (hb1 : b ≤ 1099511627776) (hc : n ≤ c) (hn : n ≤ 1073741824) :
    Calls Tryz.prog 143 #[.slice (some ⟨g, 0, none⟩) n c, .int .i64 b] w (ByEnd w g D b) := by
  have H := Lib.hid h
  have HL := Lib.hid hl
  have HS := Lib.hid hs
  obtain ⟨Y, hY⟩ : ∃ Y : Int, (b : Int) = Y := ⟨_, rfl⟩
  have hy0 : 0 < Y := by omega
  have hy1 : Y ≤ 1099511627776 := by omega
  have hyz : ¬ Y = 0 := by omega
  have HB0 := Lib.hid hb0
  have HB1 := Lib.hid hb1
  rw [hY]
  have HY := Lib.hid hY
  clear h hl hs hY hb0 hb1
  go_enter Tryz.func143, Tryz.ntmps143
  go_wp2_with fail
  go_loopw [6, 7] (fun q i wr => ∃ (k : Nat) (E : List Nat) (t : Nat) (T : Int), k ≤ n ∧ i = .int .i64 ((k : Int) - 1) ∧ q = .int .u64 T ∧ Hid ((t : Int) = T) ∧ Hid (DivSt D b k E t) ∧ Hid (Dig wr g E) ∧ Hid (w.grownBy wr (some g))) (fun _ i _ => (RowKit.intOf i + 1).toNat)
  case atStart => exact ⟨n, D, 0, 0, Nat.le_refl _, rfl, rfl, rfl, HL.out ▸ DivSt.new HB0.out, H, grown_refl _ _⟩
  case round =>
    clear H
    obtain ⟨k, E, t, T, hk, rfl, rfl, HT, HD, HE, HG⟩ := hrel
    by_cases h0 : k = 0
    · subst h0
      have hlow := HD.out.low
      obtain ⟨hsE, hvE, hrE⟩ := HD.out.done
      have HSE := Lib.hid hsE
      have HVE := Lib.hid hvE
      have HRE := Lib.hid hrE
      have HLE := Lib.hid (HD.out.len.trans HL.out)
      have hT0 : 0 ≤ T := by rw [← HT.out]; omega
      have hT1 : T < Y := by rw [← HT.out, ← HY.out]; have := HD.out.lt; omega
      clear hsE hvE hrE HD hlow
      go_wp2_with fail
      refine (trim_any _ n c (g + 1) E wr (HE.out.reads HLE.out (Nat.lt_succ_self _)) hc (by omega)).mono ?_
      rintro e w' ⟨rfl, m, hm, rfl, hz, hv⟩
      have hfin : ByEnd w g D b (.returned (.tuple #[.slice (some ⟨g, 0, none⟩) m c, .int .i64 T])) wr := ⟨E, m, c, by rw [← HRE.out, HT.out], by rw [HL.out]; exact hm, by rw [HL.out]; exact hc, by rw [HLE.out, HL.out], HE.out, HSE.out, hz, hv.trans HVE.out, HVE.out, HG.out⟩
      have HF := Lib.hid hfin
      clear hz hv hfin
      go_wp2_with fail
      go_ret2
      exact HF.out
    · obtain ⟨d, hd⟩ : ∃ d, D[k - 1]? = some d := ⟨_, List.getElem?_eq_getElem (by rw [HL.out]; omega)⟩
      have hdl := HS.out.at_ hd
      have hlow : E[k - 1]? = some d := by
        have := congrArg (fun l : List Nat => l[k - 1]?) HD.out.low
        simp only [List.getElem?_take, if_pos (show k - 1 < k by omega)] at this
        exact this.trans hd
      have g2 := HE.out.cell hlow
      have gf := HE.out.frozen (k - 1)
      have hi0 : (0 : Int) ≤ (k : Int) - 1 := by omega
      have hi1 : (k : Int) - 1 < (n : Int) := by omega
      have ht : ((k : Int) - 1).toNat = k - 1 := by omega
      have hT0 : 0 ≤ T := by rw [← HT.out]; omega
      have hT1 : T < Y := by rw [← HT.out, ← HY.out]; have := HD.out.lt; omega
      have hd0 : (0 : Int) ≤ (d : Int) := by omega
      have hor := or_digit_u (x := T) (d := d) hT0 (by omega) hd0 (by omega)
      have HDk := Lib.hid hd
      have hq0 : 0 ≤ (T * 1048576 + ↑d) / Y := Int.ediv_nonneg (by omega) (by omega)
      have hq1 : (T * 1048576 + ↑d) / Y < 1048576 := Int.ediv_lt_of_lt_mul hy0 (by omega)
      clear hd hlow
      go_wp2_with fail
      go_roundw
      case rel => exact ⟨k - 1, _, (t * 1048576 + d) % b, _, by omega, by first | rfl | (congr 1; omega), rfl, by show _ = _; rw [← HT.out, ← HY.out]; rfl, DivSt.step (i := k - 1) (by rw [show k - 1 + 1 = k by omega]; exact HD.out) HDk.out hdl, by
        have h := HE.out.set (k - 1) ((t * 1048576 + d) / b)
        rw [show (((t * 1048576 + d) / b : Nat) : Int) = (T * 1048576 + ↑d) / Y by rw [← HT.out, ← HY.out]; rfl] at h
        exact h, only_setCell HG.out (.inl rfl) _⟩
      case measure => simp [RowKit.intOf]; omega
end Go.Proofs.YtikfjmdeeknalaaGreatDoor
