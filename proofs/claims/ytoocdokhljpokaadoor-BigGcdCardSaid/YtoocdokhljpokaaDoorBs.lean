/- The walks of big's sums, products and short divisions of digits. Conditions: lengths. -/
import Derived.Test.YtoocdokhljpokaaDoorBr
import Derived.Laws.OwnMore
namespace Go.Proofs.YtoocdokhljpokaaDoor
set_option maxRecDepth 8000
open Go.RowKit

theorem infoD1 : (Tryd.prog.info? 3).map (·.size) = some 1 := by kernel_rfl
theorem Dig.copied {w : World} {g n : Nat} {a : List Nat} (h : w.heap[g]? = some (.cells (splice (madeCells #[Value.int .i64 0] (n + 1)).toList 0 (dv a)).toArray 3 (0, 0))) (ha : a.length = n) : Dig w g (a ++ [0]) := by
  have e : splice (madeCells #[Value.int .i64 0] (n + 1)).toList 0 (dv a) = dv (a ++ [0]) := by
    unfold splice
    rw [toList_madeCells_one, dv_len, Nat.zero_add, List.take_zero, List.nil_append, List.drop_replicate, show n + 1 - a.length = 1 by omega]
    simp [dv]
  rw [e] at h
  refine ⟨_, h, by rw [List.size_toArray, dv_len]; exact Nat.le_refl _, fun i d hi => ?_⟩
  rw [List.getElem?_toArray]
  exact dv_at hi

set_option maxHeartbeats 4000000 in
theorem add_core (A1 A2 : Option Addr) (n1 n2 c1 c2 B1 B2 : Nat) (a b : List Nat) (w : World) (h1 : Reads w B1 1 A1 n1 (dv a)) (h2 : Reads w B2 1 A2 n2 (dv b)) (k1 : Sml a) (k2 : Sml b) (hle : n2 ≤ n1) (hn : n1 ≤ 536870912) :
    Calls Tryd.prog 23 #[.slice A1 n1 c1, .slice A2 n2 c2] w (DigitsV w (dval a + dval b)) := by
  have H1 := Lib.hid h1.here
  have H2 := Lib.hid h2.here
  have L1 := Lib.hid h1.lenD
  have L2 := Lib.hid h2.lenD
  have K1 := Lib.hid k1
  have K2 := Lib.hid k2
  have hmk := fun wx => run_make_row' (P := Tryd.prog) 22 3 (.int .i64 0) 8 Tryd.underlying22 (by kernel_rfl) (by simp [Value.cells]) .i64 .i64 (n1 + 1) (by omega) (by omega) wx
  rw [show ((n1 + 1 : Nat) : Int) = (n1 : Int) + 1 by omega] at hmk
  have hlt : ¬ (n1 : Int) < (n2 : Int) := by omega
  clear h1 h2 k1 k2
  have hg0 : (w.alloc (.cells (madeCells #[Value.int .i64 0] (n1 + 1)) 3)).heap[w.heap.size]? = some (.cells ((madeCells #[Value.int .i64 0] (n1 + 1)).toList).toArray 3 (0, 0)) := by rw [Array.toArray_toList]; exact heap_alloc_new w _
  have HG0 := Lib.hid hg0
  have hcs : (dv a).length = Nat.min n1 (n1 + 1) := by rw [dv_len, L1.out]; exact (Nat.min_eq_left (by omega)).symm
  have HCS := Lib.hid hcs
  have hpos : 0 < (dv a).length → ∃ ad, A1 = some ad ∧ ∀ j v, (dv a)[j]? = some v → (w.alloc (.cells (madeCells #[Value.int .i64 0] (n1 + 1)) 3)).cell? (ad.add j) = some v := fun hp => by
    rw [dv_len, L1.out] at hp
    obtain ⟨ad, e, hb, hr⟩ := (H1.out.alloc (Nat.le_refl _) (.cells (madeCells #[Value.int .i64 0] (n1 + 1)) 3)).2 hp
    exact ⟨ad, e, hr⟩
  have HPOS := Lib.hid hpos
  have HFIT : Hid (0 + (dv a).length ≤ (madeCells #[Value.int .i64 0] (n1 + 1)).toList.length) := by show _ ≤ _; rw [toList_madeCells_one, dv_len, L1.out]; simp
  have HB0 : Hid (Below w.heap.size w (w.alloc (.cells (madeCells #[Value.int .i64 0] (n1 + 1)) 3))) := (Below.refl _ _).alloc (Nat.le_refl _) _
  clear hg0 hcs hpos
  go_enter Tryd.func23, Tryd.ntmps23
  go_wp2_with ((with_reducible refine wpList_copy_splice rfl (.tmp 17) (.tmp 18) 22 22 rfl 3 Tryd.underlying22 infoD1 (some ⟨w.heap.size, 0, none⟩) A1 (n1 + 1) (n1 + 1) n1 c1 rfl rfl w.heap.size 0 (madeCells #[Value.int .i64 0] (n1 + 1)).toList 3 HG0.out (dv a) HCS.out (fun hp => ⟨rfl, HPOS.out hp⟩) HFIT.out (dv_one _) w.heap.size w HB0.out (Nat.le_refl _) ?_); intro w1 hd1 hb1; have HD := Lib.hid (Dig.copied hd1 L1.out); have HB1 := Lib.hid hb1; clear hd1 hb1)
  have H2b := Lib.hid (H2.out.past HB1.out)
  have HNE : Hid (0 < n2 → ∀ ad, A2 = some ad → ad.block ≠ w.heap.size) := fun h0 ad e => by
    have := H2.out.lt h0 e
    omega
  have hLL : (a ++ [0]).length = n1 + 1 := by rw [List.length_append, L1.out]; rfl
  have HLL := Lib.hid hLL
  have HDL : Hid (((a ++ [0]).drop 0).take (n1 + 1) = a ++ [0]) := by show _ = _; rw [List.drop_zero, List.take_of_length_le (by rw [hLL]; exact Nat.le_refl _)]
  have HSM : Hid (Sml (a ++ [0])) := Sml.app.2 ⟨K1.out, fun x hx => by simp at hx; omega⟩
  clear hmk HG0 HCS HPOS HFIT HB0 H1 H2 hLL
  refine (addTo_any w.heap.size 0 (n1 + 1) (n1 + 1) (a ++ [0]) A2 n2 c2 _ b 1 w1 HD.out (by rw [HLL.out]; omega) (by rw [HDL.out]; exact HSM.out) H2b.out HNE.out K2.out (by omega) (by decide) (by decide) (by omega)).mono ?_
  rintro e w2 ⟨E, q, rfl, hd2, hs2, hl2, hv2, hg2⟩
  rw [HDL.out] at hv2
  rw [midL_all HLL.out hl2] at hd2
  obtain ⟨-, hv3⟩ := room hs2 hl2 hv2 (by omega) (by
    have e1 := dval_lt K1.out
    have e2 := dval_lt K2.out
    rw [L1.out] at e1
    rw [L2.out] at e2
    have e3 : 1048576 ^ n2 ≤ 1048576 ^ n1 := Nat.pow_le_pow_right (by decide) hle
    have h2 := cast_pow (n1 + 1)
    rw [← h2, dval_cut0, Nat.pow_succ]
    omega)
  have HV : Hid (dval E = dval a + dval b) := by show _ = _; rw [dval_cut0] at hv3; omega
  have HD2 := Lib.hid hd2
  have HS2 := Lib.hid hs2
  have HL2 := Lib.hid hl2
  have HB2 : Hid (Below w.heap.size w w2) := grownBelow hg2 HB1.out (Nat.le_refl _)
  clear hd2 hs2 hl2 hv2 hv3 hg2 HD HB1 H2b HNE HDL HSM HLL
  go_wp2_with fail
  refine (trim_any _ (n1 + 1) (n1 + 1) (w.heap.size + 1) E w2 (HD2.out.reads HL2.out (Nat.lt_succ_self _)) (Nat.le_refl _) (by omega)).mono ?_
  rintro e w' ⟨rfl, m, hm, rfl, hz, hv⟩
  have HE := Lib.hid (DigitsV.trimmed HD2.out HL2.out hm (Nat.le_refl _) hz HS2.out hv HV.out (Nat.le_refl _) HB2.out)
  clear hz hv
  go_wp2_with fail
  go_ret
  exact HE.out
set_option maxHeartbeats 4000000 in
theorem add_turned (A1 A2 : Option Addr) (n1 n2 c1 c2 B1 B2 : Nat) (a b : List Nat) (w : World) (h1 : Reads w B1 1 A1 n1 (dv a)) (h2 : Reads w B2 1 A2 n2 (dv b)) (k1 : Sml a) (k2 : Sml b) (hle : n2 < n1) (hn : n1 ≤ 536870912) :
    Calls Tryd.prog 23 #[.slice A2 n2 c2, .slice A1 n1 c1] w (DigitsV w (dval a + dval b)) := by
  have H1 := Lib.hid h1.here
  have H2 := Lib.hid h2.here
  have L1 := Lib.hid h1.lenD
  have L2 := Lib.hid h2.lenD
  have K1 := Lib.hid k1
  have K2 := Lib.hid k2
  have hmk := fun wx => run_make_row' (P := Tryd.prog) 22 3 (.int .i64 0) 8 Tryd.underlying22 (by kernel_rfl) (by simp [Value.cells]) .i64 .i64 (n1 + 1) (by omega) (by omega) wx
  rw [show ((n1 + 1 : Nat) : Int) = (n1 : Int) + 1 by omega] at hmk
  have hlt : (n2 : Int) < (n1 : Int) := by omega
  clear h1 h2 k1 k2
  have hg0 : (w.alloc (.cells (madeCells #[Value.int .i64 0] (n1 + 1)) 3)).heap[w.heap.size]? = some (.cells ((madeCells #[Value.int .i64 0] (n1 + 1)).toList).toArray 3 (0, 0)) := by rw [Array.toArray_toList]; exact heap_alloc_new w _
  have HG0 := Lib.hid hg0
  have hcs : (dv a).length = Nat.min n1 (n1 + 1) := by rw [dv_len, L1.out]; exact (Nat.min_eq_left (by omega)).symm
  have HCS := Lib.hid hcs
  have hpos : 0 < (dv a).length → ∃ ad, A1 = some ad ∧ ∀ j v, (dv a)[j]? = some v → (w.alloc (.cells (madeCells #[Value.int .i64 0] (n1 + 1)) 3)).cell? (ad.add j) = some v := fun hp => by
    rw [dv_len, L1.out] at hp
    obtain ⟨ad, e, hb, hr⟩ := (H1.out.alloc (Nat.le_refl _) (.cells (madeCells #[Value.int .i64 0] (n1 + 1)) 3)).2 hp
    exact ⟨ad, e, hr⟩
  have HPOS := Lib.hid hpos
  have HFIT : Hid (0 + (dv a).length ≤ (madeCells #[Value.int .i64 0] (n1 + 1)).toList.length) := by show _ ≤ _; rw [toList_madeCells_one, dv_len, L1.out]; simp
  have HB0 : Hid (Below w.heap.size w (w.alloc (.cells (madeCells #[Value.int .i64 0] (n1 + 1)) 3))) := (Below.refl _ _).alloc (Nat.le_refl _) _
  clear hg0 hcs hpos
  go_enter Tryd.func23, Tryd.ntmps23
  go_wp2_with ((with_reducible refine wpList_copy_splice rfl (.tmp 17) (.tmp 18) 22 22 rfl 3 Tryd.underlying22 infoD1 (some ⟨w.heap.size, 0, none⟩) A1 (n1 + 1) (n1 + 1) n1 c1 rfl rfl w.heap.size 0 (madeCells #[Value.int .i64 0] (n1 + 1)).toList 3 HG0.out (dv a) HCS.out (fun hp => ⟨rfl, HPOS.out hp⟩) HFIT.out (dv_one _) w.heap.size w HB0.out (Nat.le_refl _) ?_); intro w1 hd1 hb1; have HD := Lib.hid (Dig.copied hd1 L1.out); have HB1 := Lib.hid hb1; clear hd1 hb1)
  have H2b := Lib.hid (H2.out.past HB1.out)
  have HNE : Hid (0 < n2 → ∀ ad, A2 = some ad → ad.block ≠ w.heap.size) := fun h0 ad e => by
    have := H2.out.lt h0 e
    omega
  have hLL : (a ++ [0]).length = n1 + 1 := by rw [List.length_append, L1.out]; rfl
  have HLL := Lib.hid hLL
  have HDL : Hid (((a ++ [0]).drop 0).take (n1 + 1) = a ++ [0]) := by show _ = _; rw [List.drop_zero, List.take_of_length_le (by rw [hLL]; exact Nat.le_refl _)]
  have HSM : Hid (Sml (a ++ [0])) := Sml.app.2 ⟨K1.out, fun x hx => by simp at hx; omega⟩
  clear hmk HG0 HCS HPOS HFIT HB0 H1 H2 hLL
  refine (addTo_any w.heap.size 0 (n1 + 1) (n1 + 1) (a ++ [0]) A2 n2 c2 _ b 1 w1 HD.out (by rw [HLL.out]; omega) (by rw [HDL.out]; exact HSM.out) H2b.out HNE.out K2.out (by omega) (by decide) (by decide) (by omega)).mono ?_
  rintro e w2 ⟨E, q, rfl, hd2, hs2, hl2, hv2, hg2⟩
  rw [HDL.out] at hv2
  rw [midL_all HLL.out hl2] at hd2
  obtain ⟨-, hv3⟩ := room hs2 hl2 hv2 (by omega) (by
    have e1 := dval_lt K1.out
    have e2 := dval_lt K2.out
    rw [L1.out] at e1
    rw [L2.out] at e2
    have e3 : 1048576 ^ n2 ≤ 1048576 ^ n1 := Nat.pow_le_pow_right (by decide) (by omega)
    have h2 := cast_pow (n1 + 1)
    rw [← h2, dval_cut0, Nat.pow_succ]
    omega)
  have HV : Hid (dval E = dval a + dval b) := by show _ = _; rw [dval_cut0] at hv3; omega
  have HD2 := Lib.hid hd2
  have HS2 := Lib.hid hs2
  have HL2 := Lib.hid hl2
  have HB2 : Hid (Below w.heap.size w w2) := grownBelow hg2 HB1.out (Nat.le_refl _)
  clear hd2 hs2 hl2 hv2 hv3 hg2 HD HB1 H2b HNE HDL HSM HLL
  go_wp2_with fail
  refine (trim_any _ (n1 + 1) (n1 + 1) (w.heap.size + 1) E w2 (HD2.out.reads HL2.out (Nat.lt_succ_self _)) (Nat.le_refl _) (by omega)).mono ?_
  rintro e w' ⟨rfl, m, hm, rfl, hz, hv⟩
  have HE := Lib.hid (DigitsV.trimmed HD2.out HL2.out hm (Nat.le_refl _) hz HS2.out hv HV.out (Nat.le_refl _) HB2.out)
  clear hz hv
  go_wp2_with fail
  go_ret
  exact HE.out
theorem add_any (A1 A2 : Option Addr) (n1 n2 c1 c2 B1 B2 : Nat) (a b : List Nat) (w : World) (h1 : Reads w B1 1 A1 n1 (dv a)) (h2 : Reads w B2 1 A2 n2 (dv b)) (k1 : Sml a) (k2 : Sml b) (hn : n1 ≤ 536870912) (hm : n2 ≤ 536870912) :
    Calls Tryd.prog 23 #[.slice A1 n1 c1, .slice A2 n2 c2] w (DigitsV w (dval a + dval b)) := by
  by_cases h : n2 ≤ n1
  · exact add_core A1 A2 n1 n2 c1 c2 B1 B2 a b w h1 h2 k1 k2 h hn
  · have := add_turned A2 A1 n2 n1 c2 c1 B2 B1 b a w h2 h1 k2 k1 (by omega) hm
    rw [Nat.add_comm] at this
    exact this
end Go.Proofs.YtoocdokhljpokaaDoor
