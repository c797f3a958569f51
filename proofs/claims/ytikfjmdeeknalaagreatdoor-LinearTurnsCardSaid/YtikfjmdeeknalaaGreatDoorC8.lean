/- The walks of big's divisor at few digits, and of Gcd over it. Conditions: lengths; the table of math/bits as its text lays it. -/
import Derived.Test.YtikfjmdeeknalaaGreatDoorC7
namespace Go.Proofs.YtikfjmdeeknalaaGreatDoor
set_option maxRecDepth 8000
open Go.RowKit

theorem Digits.from_ {w w1 w' : World} {l : List Nat} {e : Ending} (h : Digits w1 l e w') (hb : Below w.heap.size w w1) : Digits w l e w' := by
  obtain ⟨A, c, h1, h2, h3, h4, h5⟩ := h
  exact ⟨A, c, h1, h2, h3, fun hp => by
    obtain ⟨g, e, hg, hd⟩ := h4 hp
    exact ⟨g, e, Nat.le_trans hb.size hg, hd⟩, hb.trans (h5.mono hb.size)⟩
set_option maxHeartbeats 4000000 in
theorem divisor_ge (A1 A2 : Option Addr) (n1 n2 c1 c2 B1 B2 : Nat) (a b : List Nat) (w : World) (h1 : Reads w B1 1 A1 n1 (dv a)) (h2 : Reads w B2 1 A2 n2 (dv b)) (k1 : Norm a) (k2 : Norm b) (hle : dval b ≤ dval a) (hn1 : n1 ≤ 3) (hn2 : n2 ≤ 3) (hT : TabZ w) :
    Calls Tryz.prog 138 #[.slice A1 n1 c1, .slice A2 n2 c2] w (DigitsV w (Nat.gcd (dval a) (dval b))) := by
  have H1 := Lib.hid h1
  have H2 := Lib.hid h2
  have K1 := Lib.hid k1
  have K2 := Lib.hid k2
  have L1 := Lib.hid h1.lenD
  have L2 := Lib.hid h2.lenD
  obtain ⟨r, hr⟩ : ∃ r, ordN (dval a) (dval b) = r := ⟨_, rfl⟩
  have hr0 : 0 ≤ r := by rw [← hr]; exact ordN_nonneg hle
  have HO := Lib.hid hr
  have HTB := Lib.hid hT
  have HJ1 : Hid (∀ wx, Reads wx B1 1 A1 n1 (dv a) → Calls Tryz.prog 145 #[.slice A1 n1 c1] wx fun e w' => e = .returned (.int .i64 (dval a : Nat)) ∧ wx = w') := fun wx h => join_any A1 n1 c1 _ a wx h k1.1 hn1
  have HJ2 : Hid (∀ wx, Reads wx B2 1 A2 n2 (dv b) → Calls Tryz.prog 145 #[.slice A2 n2 c2] wx fun e w' => e = .returned (.int .i64 (dval b : Nat)) ∧ wx = w') := fun wx h => join_any A2 n2 c2 _ b wx h k2.1 hn2
  have ha : dval a < 1152921504606846976 := by
    have e1 := dval_lt k1.1
    rw [h1.lenD] at e1
    have e2 : 1048576 ^ n1 ≤ 1048576 ^ 3 := Nat.pow_le_pow_right (by decide) hn1
    have e3 : (1048576 : Nat) ^ 3 = 1152921504606846976 := by rfl
    omega
  have hc1 : (n1 : Int) ≤ 3 := by omega
  have hc2 : (n2 : Int) ≤ 3 := by omega
  by_cases h0 : n2 = 0
  · have HG : Hid (Nat.gcd (dval a) (dval b) = dval a) := by
      show _ = _
      have e : b = [] := List.eq_nil_of_length_eq_zero (L2.out.trans h0)
      rw [e]
      exact Nat.gcd_zero_right _
    subst h0
    clear h1 h2 k1 k2 hr ha hle hT HJ1 HJ2 hc2
    go_enter Tryz.func138, Tryz.ntmps138
    go_wp2_with fail
    refine (compare_any A1 A2 n1 _ c1 c2 _ _ a b w H1.out H2.out K1.out K2.out (by omega) (by omega) HO.out).mono ?_
    rintro e w6 ⟨rfl, hd⟩
    have HB := Lib.hid hd.below
    have H16 := Lib.hid (H1.out.past hd.below)
    clear hd
    go_wp2_with fail
    refine (cloneD_any A1 n1 c1 _ a w6 H16.out (by omega)).mono ?_
    rintro e w7 hE
    obtain ⟨A, c, rfl, hrest⟩ := hE
    have HE := Lib.hid (show DigitsV w (Nat.gcd (dval a) (dval b)) (.returned (.slice A a.length c)) w7 from ⟨a, K1.out, HG.out.symm, Digits.from_ ⟨A, c, rfl, hrest⟩ HB.out⟩)
    clear hrest
    go_wp2_with fail
    go_ret
    exact HE.out
  · have hn0 : ¬ (n2 : Int) = 0 := by omega
    have hb0 : dval b ≠ 0 := fun e => h0 (by have := (dval_zero k2).1 e; rw [← L2.out, this]; rfl)
    have ha0 : dval a ≠ 0 := by omega
    have hbl : dval b < 1152921504606846976 := by omega
    have hgl : Nat.gcd (dval a) (dval b) < 18446744073709551616 := Nat.lt_of_le_of_lt (Nat.le_of_dvd (by omega) (Nat.gcd_dvd_left _ _)) (by omega)
    have HD : Hid (∀ wx, TabZ wx → Calls Tryz.prog 205 #[.int .u64 (dval a : Nat), .int .u64 (dval b : Nat)] wx fun e w' => e = .returned (.int .u64 (Nat.gcd (dval a) (dval b) : Nat)) ∧ wx = w') := fun wx h => divisorOfInts_any _ _ wx ha0 (by omega) (by omega) h
    have HSP : Hid (∀ wx, Calls Tryz.prog 148 #[.int .u64 (Nat.gcd (dval a) (dval b) : Nat)] wx (Digits wx (digN (Nat.gcd (dval a) (dval b)) (digits (Nat.gcd (dval a) (dval b)))))) := fun wx => split_any _ wx hgl
    have HN := Lib.hid (digN_norm hgl)
    obtain ⟨X, hX⟩ : ∃ X : Int, ((dval a : Nat) : Int) = X := ⟨_, rfl⟩
    obtain ⟨Y, hY⟩ : ∃ Y : Int, ((dval b : Nat) : Int) = Y := ⟨_, rfl⟩
    have x0 : 0 ≤ X := by omega
    have x1 : X < 1152921504606846976 := by omega
    have y0 : 0 ≤ Y := by omega
    have y1 : Y < 1152921504606846976 := by omega
    rw [hX] at HJ1 HD
    rw [hY] at HJ2 HD
    clear h1 h2 k1 k2 hr ha hle hT h0 hb0 ha0 hbl hgl hX hY
    go_enter Tryz.func138, Tryz.ntmps138
    go_wp2_with fail
    refine (compare_any A1 A2 n1 _ c1 c2 _ _ a b w H1.out H2.out K1.out K2.out (by omega) (by omega) HO.out).mono ?_
    rintro e w6 ⟨rfl, hd⟩
    have HB := Lib.hid hd.below
    have H16 := Lib.hid (H1.out.past hd.below)
    have H26 := Lib.hid (H2.out.past hd.below)
    have HT6 := Lib.hid (HTB.out.on hd.below)
    clear hd
    go_wp2_with fail
    refine (HJ1.out _ H16.out).mono ?_
    rintro e w' ⟨rfl, rfl⟩
    go_wp2_with fail
    refine (HJ2.out _ H26.out).mono ?_
    rintro e w' ⟨rfl, rfl⟩
    go_wp2_with fail
    refine (HD.out _ HT6.out).mono ?_
    rintro e w' ⟨rfl, rfl⟩
    go_wp2_with fail
    refine (HSP.out _).mono ?_
    rintro e w7 hE
    obtain ⟨A, c, rfl, hrest⟩ := hE
    have HE := Lib.hid (show DigitsV w (Nat.gcd (dval a) (dval b)) (.returned (.slice A _ c)) w7 from ⟨_, HN.out.1, HN.out.2, Digits.from_ ⟨A, c, rfl, hrest⟩ HB.out⟩)
    clear hrest
    go_wp2_with fail
    go_ret
    exact HE.out
set_option maxHeartbeats 4000000 in
theorem divisor_lt (A1 A2 : Option Addr) (n1 n2 c1 c2 B1 B2 : Nat) (a b : List Nat) (w : World) (h1 : Reads w B1 1 A1 n1 (dv a)) (h2 : Reads w B2 1 A2 n2 (dv b)) (k1 : Norm a) (k2 : Norm b) (hle : dval b < dval a) (hn1 : n1 ≤ 3) (hn2 : n2 ≤ 3) (hT : TabZ w) :
    Calls Tryz.prog 138 #[.slice A2 n2 c2, .slice A1 n1 c1] w (DigitsV w (Nat.gcd (dval a) (dval b))) := by
  have H1 := Lib.hid h1
  have H2 := Lib.hid h2
  have K1 := Lib.hid k1
  have K2 := Lib.hid k2
  have L1 := Lib.hid h1.lenD
  have L2 := Lib.hid h2.lenD
  obtain ⟨r, hr⟩ : ∃ r, ordN (dval b) (dval a) = r := ⟨_, rfl⟩
  have hr0 : r < 0 := by rw [← hr]; rw [ordN_neg hle]; decide
  have HO := Lib.hid hr
  have HTB := Lib.hid hT
  have HJ1 : Hid (∀ wx, Reads wx B1 1 A1 n1 (dv a) → Calls Tryz.prog 145 #[.slice A1 n1 c1] wx fun e w' => e = .returned (.int .i64 (dval a : Nat)) ∧ wx = w') := fun wx h => join_any A1 n1 c1 _ a wx h k1.1 hn1
  have HJ2 : Hid (∀ wx, Reads wx B2 1 A2 n2 (dv b) → Calls Tryz.prog 145 #[.slice A2 n2 c2] wx fun e w' => e = .returned (.int .i64 (dval b : Nat)) ∧ wx = w') := fun wx h => join_any A2 n2 c2 _ b wx h k2.1 hn2
  have ha : dval a < 1152921504606846976 := by
    have e1 := dval_lt k1.1
    rw [h1.lenD] at e1
    have e2 : 1048576 ^ n1 ≤ 1048576 ^ 3 := Nat.pow_le_pow_right (by decide) hn1
    have e3 : (1048576 : Nat) ^ 3 = 1152921504606846976 := by rfl
    omega
  have hc1 : (n1 : Int) ≤ 3 := by omega
  have hc2 : (n2 : Int) ≤ 3 := by omega
  by_cases h0 : n2 = 0
  · have HG : Hid (Nat.gcd (dval a) (dval b) = dval a) := by
      show _ = _
      have e : b = [] := List.eq_nil_of_length_eq_zero (L2.out.trans h0)
      rw [e]
      exact Nat.gcd_zero_right _
    subst h0
    clear h1 h2 k1 k2 hr ha hle hT HJ1 HJ2 hc2
    go_enter Tryz.func138, Tryz.ntmps138
    go_wp2_with fail
    refine (compare_any A2 A1 _ n1 c2 c1 _ _ b a w H2.out H1.out K2.out K1.out (by omega) (by omega) HO.out).mono ?_
    rintro e w6 ⟨rfl, hd⟩
    have HB := Lib.hid hd.below
    have H16 := Lib.hid (H1.out.past hd.below)
    clear hd
    go_wp2_with fail
    refine (cloneD_any A1 n1 c1 _ a w6 H16.out (by omega)).mono ?_
    rintro e w7 hE
    obtain ⟨A, c, rfl, hrest⟩ := hE
    have HE := Lib.hid (show DigitsV w (Nat.gcd (dval a) (dval b)) (.returned (.slice A a.length c)) w7 from ⟨a, K1.out, HG.out.symm, Digits.from_ ⟨A, c, rfl, hrest⟩ HB.out⟩)
    clear hrest
    go_wp2_with fail
    go_ret
    exact HE.out
  · have hn0 : ¬ (n2 : Int) = 0 := by omega
    have hb0 : dval b ≠ 0 := fun e => h0 (by have := (dval_zero k2).1 e; rw [← L2.out, this]; rfl)
    have ha0 : dval a ≠ 0 := by omega
    have hbl : dval b < 1152921504606846976 := by omega
    have hgl : Nat.gcd (dval a) (dval b) < 18446744073709551616 := Nat.lt_of_le_of_lt (Nat.le_of_dvd (by omega) (Nat.gcd_dvd_left _ _)) (by omega)
    have HD : Hid (∀ wx, TabZ wx → Calls Tryz.prog 205 #[.int .u64 (dval a : Nat), .int .u64 (dval b : Nat)] wx fun e w' => e = .returned (.int .u64 (Nat.gcd (dval a) (dval b) : Nat)) ∧ wx = w') := fun wx h => divisorOfInts_any _ _ wx ha0 (by omega) (by omega) h
    have HSP : Hid (∀ wx, Calls Tryz.prog 148 #[.int .u64 (Nat.gcd (dval a) (dval b) : Nat)] wx (Digits wx (digN (Nat.gcd (dval a) (dval b)) (digits (Nat.gcd (dval a) (dval b)))))) := fun wx => split_any _ wx hgl
    have HN := Lib.hid (digN_norm hgl)
    obtain ⟨X, hX⟩ : ∃ X : Int, ((dval a : Nat) : Int) = X := ⟨_, rfl⟩
    obtain ⟨Y, hY⟩ : ∃ Y : Int, ((dval b : Nat) : Int) = Y := ⟨_, rfl⟩
    have x0 : 0 ≤ X := by omega
    have x1 : X < 1152921504606846976 := by omega
    have y0 : 0 ≤ Y := by omega
    have y1 : Y < 1152921504606846976 := by omega
    rw [hX] at HJ1 HD
    rw [hY] at HJ2 HD
    clear h1 h2 k1 k2 hr ha hle hT h0 hb0 ha0 hbl hgl hX hY
    go_enter Tryz.func138, Tryz.ntmps138
    go_wp2_with fail
    refine (compare_any A2 A1 _ n1 c2 c1 _ _ b a w H2.out H1.out K2.out K1.out (by omega) (by omega) HO.out).mono ?_
    rintro e w6 ⟨rfl, hd⟩
    have HB := Lib.hid hd.below
    have H16 := Lib.hid (H1.out.past hd.below)
    have H26 := Lib.hid (H2.out.past hd.below)
    have HT6 := Lib.hid (HTB.out.on hd.below)
    clear hd
    go_wp2_with fail
    refine (HJ1.out _ H16.out).mono ?_
    rintro e w' ⟨rfl, rfl⟩
    go_wp2_with fail
    refine (HJ2.out _ H26.out).mono ?_
    rintro e w' ⟨rfl, rfl⟩
    go_wp2_with fail
    refine (HD.out _ HT6.out).mono ?_
    rintro e w' ⟨rfl, rfl⟩
    go_wp2_with fail
    refine (HSP.out _).mono ?_
    rintro e w7 hE
    obtain ⟨A, c, rfl, hrest⟩ := hE
    have HE := Lib.hid (show DigitsV w (Nat.gcd (dval a) (dval b)) (.returned (.slice A _ c)) w7 from ⟨_, HN.out.1, HN.out.2, Digits.from_ ⟨A, c, rfl, hrest⟩ HB.out⟩)
    clear hrest
    go_wp2_with fail
    go_ret
    exact HE.out
theorem Rep.abs {s x : Int} {l : List Nat} (h : Rep s l x) : x.natAbs = dval l := by
  rcases h.cases with ⟨-, -, a, b⟩ | ⟨-, -, a, b⟩ | ⟨-, a, b⟩
  · omega
  · omega
  · rw [a, b]; rfl
theorem divisor_few (A1 A2 : Option Addr) (n1 n2 c1 c2 B1 B2 : Nat) (a b : List Nat) (w : World) (h1 : Reads w B1 1 A1 n1 (dv a)) (h2 : Reads w B2 1 A2 n2 (dv b)) (k1 : Norm a) (k2 : Norm b) (hn1 : n1 ≤ 3) (hn2 : n2 ≤ 3) (hT : TabZ w) :
    Calls Tryz.prog 138 #[.slice A1 n1 c1, .slice A2 n2 c2] w (DigitsV w (Nat.gcd (dval a) (dval b))) := by
  by_cases h : dval b ≤ dval a
  · exact divisor_ge A1 A2 n1 n2 c1 c2 B1 B2 a b w h1 h2 k1 k2 h hn1 hn2 hT
  · rw [Nat.gcd_comm]
    exact divisor_lt A2 A1 n2 n1 c2 c1 B2 B1 b a w h2 h1 k2 k1 (by omega) hn2 hn1 hT
set_option maxHeartbeats 4000000 in
theorem Gcd_by (s1 s2 : Int) (A1 A2 : Option Addr) (n1 n2 c1 c2 B1 B2 : Nat) (l1 l2 : List Nat) (x y : Int) (w : World) (h1 : Reads w B1 1 A1 n1 (dv l1)) (h2 : Reads w B2 1 A2 n2 (dv l2)) (r1 : Rep s1 l1 x) (r2 : Rep s2 l2 y) (hn1 : n1 ≤ 1048576) (hn2 : n2 ≤ 1048576) (hT : TabZ w)
    (HDV : ∀ wx : World, Reads wx B1 1 A1 n1 (dv l1) → Reads wx B2 1 A2 n2 (dv l2) → TabZ wx → Calls Tryz.prog 138 #[.slice A1 n1 c1, .slice A2 n2 c2] wx (DigitsV wx (Nat.gcd (dval l1) (dval l2)))) :
    Calls Tryz.prog 28 #[.agg #[.int .i64 s1, .slice A1 n1 c1], .agg #[.int .i64 s2, .slice A2 n2 c2]] w (BigOk w (Int.gcd x y : Nat)) := by
  have H1 := Lib.hid h1
  have H2 := Lib.hid h2
  have R1 := Lib.hid r1
  have R2 := Lib.hid r2
  have HD := Lib.hid HDV
  have HTB := Lib.hid hT
  have K := Lib.hid (Three.new w s1 A1 n1 c1 s2 A2 n2 c2)
  clear h1 h2 r1 r2 HDV hT
  go_enter Tryz.func28, Tryz.ntmps28
  go_wp2_with fail
  refine (right_rep R1.out A1 n1 c1 _ _ (H1.out.past (K.out.bl)) (by omega)).mono ?_
  rintro e w4 ⟨rfl, b4⟩
  have K4 := Lib.hid (K.out.past b4)
  obtain ⟨y0, y1, y2, y3, y4, y5, y6, y7⟩ := K4.out.cells
  clear b4 K
  go_wp2_with fail
  refine (right_rep R2.out A2 n2 c2 _ _ (H2.out.past (K4.out.bl)) (by omega)).mono ?_
  rintro e w5 ⟨rfl, b5⟩
  have K5 := Lib.hid (K4.out.past b5)
  clear y0 y1 y2 y3 y4 y5 y6 y7
  obtain ⟨y0, y1, y2, y3, y4, y5, y6, y7⟩ := K5.out.cells
  clear b5 K4
  go_wp2_with fail
  refine (HD.out w5 (H1.out.past K5.out.bl) (H2.out.past K5.out.bl) (HTB.out.on K5.out.bl)).mono ?_
  rintro e w6 ⟨l, hN, hV, A, c, rfl, hc, hR, hF, hB⟩
  have K6 := Lib.hid (K5.out.past hB)
  have HN := Lib.hid hN
  have HV := Lib.hid hV
  have HC := Lib.hid hc
  have HR := Lib.hid hR
  have HF := Lib.hid hF
  clear hN hV hc hR hF hB y0 y1 y2 y3 y4 y5 y6 y7
  go_wp2_with fail
  refine (signed_any 1 A _ c _ l _ HR.out HN.out (.inl rfl) HC.out).mono ?_
  rintro e w7 ⟨s', A', c', rfl, hc', hrep, hA, hB⟩
  have K7 := Lib.hid (K6.out.past hB)
  obtain ⟨z0, z1, z2, z3, z4, z5, z6, z7⟩ := K7.out.cells
  have HE : Hid (BigOk w (Int.gcd x y : Nat) (.returned (.tuple #[.agg #[.int .i64 s', .slice A' l.length c'], .int .i64 0])) ((w7.setCell ⟨w.heap.size + 1 + 1, 0, none⟩ (.int .i64 s')).setCell ⟨w.heap.size + 1 + 1, 1, none⟩ (.slice A' l.length c'))) :=
    (K7.out.stored (fun hp ad e => by
      obtain ⟨g, e2, hg, -⟩ := HF.out hp
      rw [hA hp, e2] at e
      cases e
      exact Nat.lt_of_lt_of_le K5.out.lt hg) ⟨HR.out.1, fun hp => by rw [hA hp]; exact ((HR.out.past hB).here).2 hp⟩ (by
      have e : (1 : Int) * (dval l : Int) = ((Int.gcd x y : Nat) : Int) := by
        rw [Int.one_mul, HV.out]
        unfold Int.gcd
        rw [R1.out.abs, R2.out.abs]
      rw [e] at hrep
      exact hrep) hc').ok
  clear hc' hrep hA hB
  go_wp2_with fail
  obtain ⟨e0, e1⟩ := two_cells K7.out.k3 (.int .i64 s') (.slice A' l.length c')
  refine bodyPost_ret (v := .tuple #[.agg #[.int .i64 s', .slice A' l.length c'], .int .i64 0]) (by simp [results, Tryz.results28, go_sem, e0, e1]) rfl ?_
  exact HE.out
end Go.Proofs.YtikfjmdeeknalaaGreatDoor
