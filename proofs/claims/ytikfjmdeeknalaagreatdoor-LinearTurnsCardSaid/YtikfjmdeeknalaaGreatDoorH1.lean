/- The walk of big's divisor, whatever the digits. Conditions: lengths; the table of math/bits as its text lays it. -/
import Derived.Test.YtikfjmdeeknalaaGreatDoorG9
import Derived.Test.YtikfjmdeeknalaaGreatDoorC8
namespace Go.Proofs.YtikfjmdeeknalaaGreatDoor
set_option maxRecDepth 20000
open Go.RowKit

theorem few_lt {l : List Nat} (h : Norm l) (hl : l.length ≤ 3) : dval l < 1152921504606846976 := by
  have e1 := dval_lt h.1
  have e2 : 1048576 ^ l.length ≤ 1048576 ^ 3 := Nat.pow_le_pow_right (by decide) hl
  have e3 : (1048576 : Nat) ^ 3 = 1152921504606846976 := by rfl
  omega
/-- What stands at the end of divisor, at few digits. -/
theorem few_tail {la lb : List Nat} {G : Nat} (na : Norm la) (nb : Norm lb) (h1 : la.length ≤ 3) (h2 : lb.length ≤ 3) (h0 : dval la ≠ 0) (hG : Nat.gcd (dval la) (dval lb) = G) :
    ∃ X Y : Int, 0 ≤ X ∧ X < 1152921504606846976 ∧ 0 ≤ Y ∧ Y < 1152921504606846976 ∧
      (∀ (wx : World) (B : Nat) (A : Option Addr) (n c : Nat), Reads wx B 1 A n (dv la) → Calls Tryz.prog 145 #[.slice A n c] wx fun e w' => e = .returned (.int .i64 X) ∧ wx = w') ∧
      (∀ (wx : World) (B : Nat) (A : Option Addr) (n c : Nat), Reads wx B 1 A n (dv lb) → Calls Tryz.prog 145 #[.slice A n c] wx fun e w' => e = .returned (.int .i64 Y) ∧ wx = w') ∧
      (∀ wx, TabZ wx → Calls Tryz.prog 205 #[.int .u64 X, .int .u64 Y] wx fun e w' => e = .returned (.int .u64 (G : Int)) ∧ wx = w') ∧
      (∀ wx, Calls Tryz.prog 148 #[.int .u64 (G : Int)] wx (DigitsV wx G)) := by
  have ha := few_lt na h1
  have hb := few_lt nb h2
  have hgl : G < 18446744073709551616 := by
    rw [← hG]
    exact Nat.lt_of_le_of_lt (Nat.le_of_dvd (by omega) (Nat.gcd_dvd_left _ _)) (by omega)
  refine ⟨(dval la : Nat), (dval lb : Nat), by omega, by omega, by omega, by omega, fun wx B A n c h => join_any A n c B la wx h na.1 (by have := h.lenD; omega), fun wx B A n c h => join_any A n c B lb wx h nb.1 (by have := h.lenD; omega), fun wx h => ?_, fun wx => ?_⟩
  · rw [← hG]
    exact divisorOfInts_any _ _ wx h0 (by omega) (by omega) h
  · refine (split_any G wx hgl).mono fun e w' h => ?_
    obtain ⟨k1, k2⟩ := digN_norm hgl
    exact ⟨_, k1, k2, h⟩
theorem pos_len {l : List Nat} {m : Nat} (h : Norm l) (hl : l.length = m) (h0 : ¬ m = 0) : dval l ≠ 0 := fun e => h0 (by have := (dval_zero h).1 e; rw [← hl, this]; rfl)
set_option maxHeartbeats 8000000 in
theorem div_ge_short_zero (A1 A2 : Option Addr) (n1 n2 c1 c2 B1 B2 G : Nat) (a b : List Nat) (w : World) (r1 : Reads w B1 1 A1 n1 (dv a)) (r2 : Reads w B2 1 A2 n2 (dv b)) (k1 : Norm a) (k2 : Norm b) (hle : dval b ≤ dval a) (hn2 : n2 ≤ 3) (h0 : n2 = 0) (hn6 : n1 ≤ 1000000) (hT : TabZ w) (hG : Nat.gcd (dval a) (dval b) = G) :
    Calls Tryz.prog 138 #[.slice A1 n1 c1, .slice A2 n2 c2] w (DigitsV w G) := by
  have R1 := Lib.hid r1
  have R2 := Lib.hid r2
  have K1 := Lib.hid k1
  have K2 := Lib.hid k2
  have HN := Lib.hid r1.lenD
  have HM := Lib.hid r2.lenD
  have HG := Lib.hid hG
  have HTB := Lib.hid hT
  have HLE : Hid (dval b ≤ dval a) := by show _ ≤ _; omega
  obtain ⟨r, hr⟩ : ∃ r, ordN (dval a) (dval b) = r := ⟨_, rfl⟩
  have hr0 : 0 ≤ r := by rw [← hr]; exact ordN_nonneg hle
  have HO := Lib.hid hr
  have hn12 : n2 ≤ n1 := by have := len_le k1 k2 HLE.out; have := HN.out; have := HM.out; omega
  clear r1 r2 k1 k2 hle hG hT hr
  subst h0
  go_enter Tryz.func138, Tryz.ntmps138
  go_wp2_with fail
  refine (compare_any A1 A2 n1 _ c1 c2 _ _ a b w R1.out R2.out K1.out K2.out (by omega) (by omega) HO.out).mono ?_
  rintro e wk ⟨rfl, hd⟩
  have HB := Lib.hid hd.below
  have HRA := Lib.hid (R1.out.past hd.below)
  have HRB := Lib.hid (R2.out.past hd.below)
  clear hd
  have HV : Hid (dval a = G) := by
    show _ = _
    have e : b = [] := List.eq_nil_of_length_eq_zero (HM.out)
    have := HG.out
    rw [e] at this
    exact (Nat.gcd_zero_right _).symm.trans this
  go_wp2_with fail
  refine (cloneD_any A1 n1 c1 _ a wk HRA.out (by omega)).mono ?_
  rintro e wz ⟨A', c', rfl, hrest⟩
  have HE := Lib.hid (show DigitsV w G (.returned (.slice A' _ c')) wz from ⟨a, K1.out, HV.out, Digits.from_ ⟨A', c', rfl, hrest⟩ HB.out⟩)
  clear hrest
  go_wp2_with fail
  go_ret
  exact HE.out
set_option maxHeartbeats 8000000 in
theorem div_ge_short_few (A1 A2 : Option Addr) (n1 n2 c1 c2 B1 B2 G : Nat) (a b : List Nat) (w : World) (r1 : Reads w B1 1 A1 n1 (dv a)) (r2 : Reads w B2 1 A2 n2 (dv b)) (k1 : Norm a) (k2 : Norm b) (hle : dval b ≤ dval a) (hn2 : n2 ≤ 3) (h0 : ¬ n2 = 0) (h3 : n1 ≤ 3) (_hn6 : n1 ≤ 1000000) (hT : TabZ w) (hG : Nat.gcd (dval a) (dval b) = G) :
    Calls Tryz.prog 138 #[.slice A1 n1 c1, .slice A2 n2 c2] w (DigitsV w G) := by
  have R1 := Lib.hid r1
  have R2 := Lib.hid r2
  have K1 := Lib.hid k1
  have K2 := Lib.hid k2
  have HN := Lib.hid r1.lenD
  have HM := Lib.hid r2.lenD
  have HG := Lib.hid hG
  have HTB := Lib.hid hT
  have HLE : Hid (dval b ≤ dval a) := by show _ ≤ _; omega
  obtain ⟨r, hr⟩ : ∃ r, ordN (dval a) (dval b) = r := ⟨_, rfl⟩
  have hr0 : 0 ≤ r := by rw [← hr]; exact ordN_nonneg hle
  have HO := Lib.hid hr
  have hn12 : n2 ≤ n1 := by have := len_le k1 k2 HLE.out; have := HN.out; have := HM.out; omega
  clear r1 r2 k1 k2 hle hG hT hr
  have hm3 : (n2 : Int) ≤ 3 := by omega
  have hm3' : decide ((3 : Int) < (n2 : Int)) = false := decide_eq_false (by omega)
  go_enter Tryz.func138, Tryz.ntmps138
  go_wp2_with fail
  refine (compare_any A1 A2 n1 n2 c1 c2 _ _ a b w R1.out R2.out K1.out K2.out (by omega) (by omega) HO.out).mono ?_
  rintro e wk ⟨rfl, hd⟩
  have HB := Lib.hid hd.below
  have HRA := Lib.hid (R1.out.past hd.below)
  have HRB := Lib.hid (R2.out.past hd.below)
  clear hd
  have hn0 : ¬ (n2 : Int) = 0 := by omega
  have hq1 : (n1 : Int) ≤ 3 := by omega
  have hq2 : decide ((3 : Int) < (n1 : Int)) = false := decide_eq_false (by omega)
  obtain ⟨X, Y, x0, x1, y0, y1, J1, J2, JD, JS⟩ := few_tail K1.out K2.out (by have := HN.out; omega) (by have := HM.out; omega) (by have := pos_len K2.out HM.out h0; have := HLE.out; omega) HG.out
  have HJ1 := Lib.hid J1
  have HJ2 := Lib.hid J2
  have HJD := Lib.hid JD
  have HJS := Lib.hid JS
  clear J1 J2 JD JS
  go_wp2_with fail
  refine (HJ1.out _ _ _ _ _ HRA.out).mono ?_
  rintro e w_ ⟨rfl, rfl⟩
  go_wp2_with fail
  refine (HJ2.out _ _ _ _ _ HRB.out).mono ?_
  rintro e w_ ⟨rfl, rfl⟩
  go_wp2_with fail
  refine (HJD.out _ (HTB.out.on HB.out)).mono ?_
  rintro e w_ ⟨rfl, rfl⟩
  go_wp2_with fail
  refine (HJS.out _).mono ?_
  rintro e wz ⟨l, k1, k2, A', c', rfl, hrest⟩
  have HE := Lib.hid (show DigitsV w G (.returned (.slice A' _ c')) wz from ⟨l, k1, k2, Digits.from_ ⟨A', c', rfl, hrest⟩ HB.out⟩)
  clear hrest k1 k2
  go_wp2_with fail
  go_ret
  exact HE.out
set_option maxHeartbeats 8000000 in
theorem div_ge_short_div (A1 A2 : Option Addr) (n1 n2 c1 c2 B1 B2 G : Nat) (a b : List Nat) (w : World) (r1 : Reads w B1 1 A1 n1 (dv a)) (r2 : Reads w B2 1 A2 n2 (dv b)) (k1 : Norm a) (k2 : Norm b) (hle : dval b ≤ dval a) (hn2 : n2 ≤ 3) (h0 : ¬ n2 = 0) (h3 : 3 < n1) (hn6 : n1 ≤ 1000000) (hT : TabZ w) (hG : Nat.gcd (dval a) (dval b) = G) :
    Calls Tryz.prog 138 #[.slice A1 n1 c1, .slice A2 n2 c2] w (DigitsV w G) := by
  have R1 := Lib.hid r1
  have R2 := Lib.hid r2
  have K1 := Lib.hid k1
  have K2 := Lib.hid k2
  have HN := Lib.hid r1.lenD
  have HM := Lib.hid r2.lenD
  have HG := Lib.hid hG
  have HTB := Lib.hid hT
  have HLE : Hid (dval b ≤ dval a) := by show _ ≤ _; omega
  obtain ⟨r, hr⟩ : ∃ r, ordN (dval a) (dval b) = r := ⟨_, rfl⟩
  have hr0 : 0 ≤ r := by rw [← hr]; exact ordN_nonneg hle
  have HO := Lib.hid hr
  have hn12 : n2 ≤ n1 := by have := len_le k1 k2 HLE.out; have := HN.out; have := HM.out; omega
  clear r1 r2 k1 k2 hle hG hT hr
  have hm3 : (n2 : Int) ≤ 3 := by omega
  have hm3' : decide ((3 : Int) < (n2 : Int)) = false := decide_eq_false (by omega)
  go_enter Tryz.func138, Tryz.ntmps138
  go_wp2_with fail
  refine (compare_any A1 A2 n1 n2 c1 c2 _ _ a b w R1.out R2.out K1.out K2.out (by omega) (by omega) HO.out).mono ?_
  rintro e wk ⟨rfl, hd⟩
  have HB := Lib.hid hd.below
  have HRA := Lib.hid (R1.out.past hd.below)
  have HRB := Lib.hid (R2.out.past hd.below)
  clear hd
  have hn0 : ¬ (n2 : Int) = 0 := by omega
  have hq1 : (3 : Int) < (n1 : Int) := by omega
  have hdb := pos_len K2.out HM.out h0
  have HDB := Lib.hid hdb
  clear hdb
  go_wp2_with fail
  refine (divide_any A1 A2 n1 n2 c1 c2 _ _ a b wk HRA.out HRB.out K1.out K2.out (by have := HDB.out; omega) hn6 (by omega)).mono ?_
  rintro e wy ⟨lq, lr, Aq, cq, Ar, cr, rfl, -, hNr, -, hVr, -, hCr, -, hRr, -, -, hBy⟩
  have HBY : Hid (Below w.heap.size w wy) := HB.out.trans (hBy.mono HB.out.size)
  have HRY := Lib.hid hRr
  have HRB2 := Lib.hid (HRB.out.past hBy)
  have HNR := Lib.hid hNr
  have hlt : dval lr < dval b := by rw [hVr]; exact Nat.mod_lt _ (by have := HDB.out; omega)
  have hll : lr.length ≤ 3 := by have := len_le K2.out hNr (by omega); have := HM.out; omega
  have hgg : Nat.gcd (dval b) (dval lr) = G := by rw [hVr, ← HG.out, Nat.gcd_comm, ← Nat.gcd_rec, Nat.gcd_comm]
  have HGG := Lib.hid hgg
  have HLL := Lib.hid hll
  clear hNr hVr hCr hRr hBy hlt hll hgg
  obtain ⟨X, Y, x0, x1, y0, y1, J1, J2, JD, JS⟩ := few_tail K2.out HNR.out (by have := HM.out; omega) HLL.out HDB.out HGG.out
  have HJ1 := Lib.hid J1
  have HJ2 := Lib.hid J2
  have HJD := Lib.hid JD
  have HJS := Lib.hid JS
  clear J1 J2 JD JS
  go_wp2_with fail
  refine (HJ1.out _ _ _ _ _ HRB2.out).mono ?_
  rintro e w_ ⟨rfl, rfl⟩
  go_wp2_with fail
  refine (HJ2.out _ _ _ _ _ HRY.out).mono ?_
  rintro e w_ ⟨rfl, rfl⟩
  go_wp2_with fail
  refine (HJD.out _ (HTB.out.on HBY.out)).mono ?_
  rintro e w_ ⟨rfl, rfl⟩
  go_wp2_with fail
  refine (HJS.out _).mono ?_
  rintro e wz ⟨l, k1, k2, A', c', rfl, hrest⟩
  have HE := Lib.hid (show DigitsV w G (.returned (.slice A' _ c')) wz from ⟨l, k1, k2, Digits.from_ ⟨A', c', rfl, hrest⟩ HBY.out⟩)
  clear hrest k1 k2
  go_wp2_with fail
  go_ret
  exact HE.out
set_option maxHeartbeats 8000000 in
theorem div_ge_long_all (A1 A2 : Option Addr) (n1 n2 c1 c2 B1 B2 G : Nat) (a b : List Nat) (w : World) (r1 : Reads w B1 1 A1 n1 (dv a)) (r2 : Reads w B2 1 A2 n2 (dv b)) (k1 : Norm a) (k2 : Norm b) (hle : dval b ≤ dval a) (hn2 : 3 < n2)  (hn6 : n1 ≤ 1000000) (hT : TabZ w) (hG : Nat.gcd (dval a) (dval b) = G) :
    Calls Tryz.prog 138 #[.slice A1 n1 c1, .slice A2 n2 c2] w (DigitsV w G) := by
  have R1 := Lib.hid r1
  have R2 := Lib.hid r2
  have K1 := Lib.hid k1
  have K2 := Lib.hid k2
  have HN := Lib.hid r1.lenD
  have HM := Lib.hid r2.lenD
  have HG := Lib.hid hG
  have HTB := Lib.hid hT
  have HLE : Hid (dval b ≤ dval a) := by show _ ≤ _; omega
  obtain ⟨r, hr⟩ : ∃ r, ordN (dval a) (dval b) = r := ⟨_, rfl⟩
  have hr0 : 0 ≤ r := by rw [← hr]; exact ordN_nonneg hle
  have HO := Lib.hid hr
  have hn12 : n2 ≤ n1 := by have := len_le k1 k2 HLE.out; have := HN.out; have := HM.out; omega
  clear r1 r2 k1 k2 hle hG hT hr
  have hm3 : (3 : Int) < (n2 : Int) := by omega
  go_enter Tryz.func138, Tryz.ntmps138
  go_wp2_with fail
  refine (compare_any A1 A2 n1 n2 c1 c2 _ _ a b w R1.out R2.out K1.out K2.out (by omega) (by omega) HO.out).mono ?_
  rintro e wk ⟨rfl, hd⟩
  have HB := Lib.hid hd.below
  have HRA := Lib.hid (R1.out.past hd.below)
  have HRB := Lib.hid (R2.out.past hd.below)
  clear hd
  go_wp2_with fail
  refine (cloneD_any A1 n1 c1 _ a wk HRA.out (by omega)).mono ?_
  rintro e w7 ⟨Aa, ca, rfl, hca, hra, hfa, hba⟩
  have HRB7 := Lib.hid (HRB.out.past hba)
  have HCA := Lib.hid hca
  have HFA := Lib.hid hfa
  have HBA := Lib.hid hba
  clear hca hra hfa hba
  go_wp2_with fail
  refine (cloneD_any A2 n2 c2 _ b w7 HRB7.out (by omega)).mono ?_
  rintro e w8 ⟨Ab, cb, rfl, hcb, hrb, hfb, hbb⟩
  have HB8 : Hid (Below w.heap.size w w8) := (HB.out.trans (HBA.out.mono HB.out.size)).trans (hbb.mono (Nat.le_trans HB.out.size HBA.out.size))
  have HS : Hid (ShSt w.heap.size 1000000 G w8 w8 a b Aa Ab ca cb) := by
    refine ⟨K1.out, K2.out, HLE.out, HG.out, fun hp => ?_, fun hp => ?_, fun g g' e e' hp hp' => ?_, by have := HN.out; omega, HCA.out, hcb, Below.refl _ _⟩
    · obtain ⟨g, e, hg, hd⟩ := HFA.out hp
      exact ⟨g, e, Nat.le_trans HB.out.size hg, hd.past hbb⟩
    · obtain ⟨g, e, hg, hd⟩ := hfb hp
      exact ⟨g, e, Nat.le_trans (Nat.le_trans HB.out.size HBA.out.size) hg, hd⟩
    · obtain ⟨q, f, hq, hd⟩ := HFA.out hp
      obtain ⟨q2, f2, hq2, -⟩ := hfb hp'
      rw [e] at f
      rw [e'] at f2
      cases f
      cases f2
      have := hd.lt
      omega
  clear hcb hrb hfb hbb
  go_wp2_with fail
  refine (shorten_any w.heap.size 1000000 G Aa Ab a.length b.length ca cb a b w8 HS.out rfl rfl (Nat.le_refl _) HB8.out.size).mono ?_
  rintro e wk ⟨la, lb, A, B, c, d, rfl, hst, hl3⟩
  have HB : Hid (Below w.heap.size w wk) := HB8.out.trans hst.bel
  have HRA := Lib.hid hst.ra.reads
  have HRB := Lib.hid hst.rb.reads
  have HNA := Lib.hid hst.na
  have HNB := Lib.hid hst.nb
  have HLE := Lib.hid hst.le
  have HG := Lib.hid hst.gcd
  have hl6 := hst.len
  obtain ⟨n, hn⟩ : ∃ n, la.length = n := ⟨_, rfl⟩
  obtain ⟨m, hm⟩ : ∃ m, lb.length = m := ⟨_, rfl⟩
  rw [hn] at hl6 HRA ⊢
  rw [hm] at hl3 HRB ⊢
  have HN := Lib.hid hn
  have HM := Lib.hid hm
  have hn6 := hl6
  have hm3 : m ≤ 3 := hl3
  clear hst hn hm hl3 hl6
  by_cases h0 : m = 0
  · have hz : (m : Int) = 0 := by omega
    have HV : Hid (dval la = G) := by
      show _ = _
      have e : lb = [] := List.eq_nil_of_length_eq_zero (HM.out.trans h0)
      have := HG.out
      rw [e] at this
      exact (Nat.gcd_zero_right _).symm.trans this
    go_wp2_with fail
    refine (cloneD_any A n c _ la wk HRA.out (by omega)).mono ?_
    rintro e wz ⟨A', c', rfl, hrest⟩
    have HE := Lib.hid (show DigitsV w G (.returned (.slice A' _ c')) wz from ⟨la, HNA.out, HV.out, Digits.from_ ⟨A', c', rfl, hrest⟩ HB.out⟩)
    clear hrest
    go_wp2_with fail
    go_ret
    exact HE.out
  · by_cases h3 : n ≤ 3
    · have hn0 : ¬ (m : Int) = 0 := by omega
      have hq1 : (n : Int) ≤ 3 := by omega
      have hq2 : decide ((3 : Int) < (n : Int)) = false := decide_eq_false (by omega)
      obtain ⟨X, Y, x0, x1, y0, y1, J1, J2, JD, JS⟩ := few_tail HNA.out HNB.out (by have := HN.out; omega) (by have := HM.out; omega) (by have := pos_len HNB.out HM.out h0; have := HLE.out; omega) HG.out
      have HJ1 := Lib.hid J1
      have HJ2 := Lib.hid J2
      have HJD := Lib.hid JD
      have HJS := Lib.hid JS
      clear J1 J2 JD JS
      go_wp2_with fail
      refine (HJ1.out _ _ _ _ _ HRA.out).mono ?_
      rintro e w_ ⟨rfl, rfl⟩
      go_wp2_with fail
      refine (HJ2.out _ _ _ _ _ HRB.out).mono ?_
      rintro e w_ ⟨rfl, rfl⟩
      go_wp2_with fail
      refine (HJD.out _ (HTB.out.on HB.out)).mono ?_
      rintro e w_ ⟨rfl, rfl⟩
      go_wp2_with fail
      refine (HJS.out _).mono ?_
      rintro e wz ⟨l, k1, k2, A', c', rfl, hrest⟩
      have HE := Lib.hid (show DigitsV w G (.returned (.slice A' _ c')) wz from ⟨l, k1, k2, Digits.from_ ⟨A', c', rfl, hrest⟩ HB.out⟩)
      clear hrest k1 k2
      go_wp2_with fail
      go_ret
      exact HE.out
    · have hn0 : ¬ (m : Int) = 0 := by omega
      have hq1 : (3 : Int) < (n : Int) := by omega
      have hdb := pos_len HNB.out HM.out h0
      have HDB := Lib.hid hdb
      clear hdb
      go_wp2_with fail
      refine (divide_any A B n m c d _ _ la lb wk HRA.out HRB.out HNA.out HNB.out (by have := HDB.out; omega) hn6 (by omega)).mono ?_
      rintro e wy ⟨lq, lr, Aq, cq, Ar, cr, rfl, -, hNr, -, hVr, -, hCr, -, hRr, -, -, hBy⟩
      have HBY : Hid (Below w.heap.size w wy) := HB.out.trans (hBy.mono HB.out.size)
      have HRY := Lib.hid hRr
      have HRB2 := Lib.hid (HRB.out.past hBy)
      have HNR := Lib.hid hNr
      have hlt : dval lr < dval lb := by rw [hVr]; exact Nat.mod_lt _ (by have := HDB.out; omega)
      have hll : lr.length ≤ 3 := by have := len_le HNB.out hNr (by omega); have := HM.out; omega
      have hgg : Nat.gcd (dval lb) (dval lr) = G := by rw [hVr, ← HG.out, Nat.gcd_comm, ← Nat.gcd_rec, Nat.gcd_comm]
      have HGG := Lib.hid hgg
      have HLL := Lib.hid hll
      clear hNr hVr hCr hRr hBy hlt hll hgg
      obtain ⟨X, Y, x0, x1, y0, y1, J1, J2, JD, JS⟩ := few_tail HNB.out HNR.out (by have := HM.out; omega) HLL.out HDB.out HGG.out
      have HJ1 := Lib.hid J1
      have HJ2 := Lib.hid J2
      have HJD := Lib.hid JD
      have HJS := Lib.hid JS
      clear J1 J2 JD JS
      go_wp2_with fail
      refine (HJ1.out _ _ _ _ _ HRB2.out).mono ?_
      rintro e w_ ⟨rfl, rfl⟩
      go_wp2_with fail
      refine (HJ2.out _ _ _ _ _ HRY.out).mono ?_
      rintro e w_ ⟨rfl, rfl⟩
      go_wp2_with fail
      refine (HJD.out _ (HTB.out.on HBY.out)).mono ?_
      rintro e w_ ⟨rfl, rfl⟩
      go_wp2_with fail
      refine (HJS.out _).mono ?_
      rintro e wz ⟨l, k1, k2, A', c', rfl, hrest⟩
      have HE := Lib.hid (show DigitsV w G (.returned (.slice A' _ c')) wz from ⟨l, k1, k2, Digits.from_ ⟨A', c', rfl, hrest⟩ HBY.out⟩)
      clear hrest k1 k2
      go_wp2_with fail
      go_ret
      exact HE.out
set_option maxHeartbeats 8000000 in
theorem div_lt_short_zero (A1 A2 : Option Addr) (n1 n2 c1 c2 B1 B2 G : Nat) (a b : List Nat) (w : World) (r1 : Reads w B1 1 A1 n1 (dv a)) (r2 : Reads w B2 1 A2 n2 (dv b)) (k1 : Norm a) (k2 : Norm b) (hle : dval b < dval a) (hn2 : n2 ≤ 3) (h0 : n2 = 0) (hn6 : n1 ≤ 1000000) (hT : TabZ w) (hG : Nat.gcd (dval a) (dval b) = G) :
    Calls Tryz.prog 138 #[.slice A2 n2 c2, .slice A1 n1 c1] w (DigitsV w G) := by
  have R1 := Lib.hid r1
  have R2 := Lib.hid r2
  have K1 := Lib.hid k1
  have K2 := Lib.hid k2
  have HN := Lib.hid r1.lenD
  have HM := Lib.hid r2.lenD
  have HG := Lib.hid hG
  have HTB := Lib.hid hT
  have HLE : Hid (dval b ≤ dval a) := by show _ ≤ _; omega
  obtain ⟨r, hr⟩ : ∃ r, ordN (dval b) (dval a) = r := ⟨_, rfl⟩
  have hr0 : r < 0 := by rw [← hr]; rw [ordN_neg hle]; decide
  have HO := Lib.hid hr
  have hn12 : n2 ≤ n1 := by have := len_le k1 k2 HLE.out; have := HN.out; have := HM.out; omega
  clear r1 r2 k1 k2 hle hG hT hr
  subst h0
  go_enter Tryz.func138, Tryz.ntmps138
  go_wp2_with fail
  refine (compare_any A2 A1 _ n1 c2 c1 _ _ b a w R2.out R1.out K2.out K1.out (by omega) (by omega) HO.out).mono ?_
  rintro e wk ⟨rfl, hd⟩
  have HB := Lib.hid hd.below
  have HRA := Lib.hid (R1.out.past hd.below)
  have HRB := Lib.hid (R2.out.past hd.below)
  clear hd
  have HV : Hid (dval a = G) := by
    show _ = _
    have e : b = [] := List.eq_nil_of_length_eq_zero (HM.out)
    have := HG.out
    rw [e] at this
    exact (Nat.gcd_zero_right _).symm.trans this
  go_wp2_with fail
  refine (cloneD_any A1 n1 c1 _ a wk HRA.out (by omega)).mono ?_
  rintro e wz ⟨A', c', rfl, hrest⟩
  have HE := Lib.hid (show DigitsV w G (.returned (.slice A' _ c')) wz from ⟨a, K1.out, HV.out, Digits.from_ ⟨A', c', rfl, hrest⟩ HB.out⟩)
  clear hrest
  go_wp2_with fail
  go_ret
  exact HE.out
set_option maxHeartbeats 8000000 in
theorem div_lt_short_few (A1 A2 : Option Addr) (n1 n2 c1 c2 B1 B2 G : Nat) (a b : List Nat) (w : World) (r1 : Reads w B1 1 A1 n1 (dv a)) (r2 : Reads w B2 1 A2 n2 (dv b)) (k1 : Norm a) (k2 : Norm b) (hle : dval b < dval a) (hn2 : n2 ≤ 3) (h0 : ¬ n2 = 0) (h3 : n1 ≤ 3) (_hn6 : n1 ≤ 1000000) (hT : TabZ w) (hG : Nat.gcd (dval a) (dval b) = G) :
    Calls Tryz.prog 138 #[.slice A2 n2 c2, .slice A1 n1 c1] w (DigitsV w G) := by
  have R1 := Lib.hid r1
  have R2 := Lib.hid r2
  have K1 := Lib.hid k1
  have K2 := Lib.hid k2
  have HN := Lib.hid r1.lenD
  have HM := Lib.hid r2.lenD
  have HG := Lib.hid hG
  have HTB := Lib.hid hT
  have HLE : Hid (dval b ≤ dval a) := by show _ ≤ _; omega
  obtain ⟨r, hr⟩ : ∃ r, ordN (dval b) (dval a) = r := ⟨_, rfl⟩
  have hr0 : r < 0 := by rw [← hr]; rw [ordN_neg hle]; decide
  have HO := Lib.hid hr
  have hn12 : n2 ≤ n1 := by have := len_le k1 k2 HLE.out; have := HN.out; have := HM.out; omega
  clear r1 r2 k1 k2 hle hG hT hr
  have hm3 : (n2 : Int) ≤ 3 := by omega
  have hm3' : decide ((3 : Int) < (n2 : Int)) = false := decide_eq_false (by omega)
  go_enter Tryz.func138, Tryz.ntmps138
  go_wp2_with fail
  refine (compare_any A2 A1 n2 n1 c2 c1 _ _ b a w R2.out R1.out K2.out K1.out (by omega) (by omega) HO.out).mono ?_
  rintro e wk ⟨rfl, hd⟩
  have HB := Lib.hid hd.below
  have HRA := Lib.hid (R1.out.past hd.below)
  have HRB := Lib.hid (R2.out.past hd.below)
  clear hd
  have hn0 : ¬ (n2 : Int) = 0 := by omega
  have hq1 : (n1 : Int) ≤ 3 := by omega
  have hq2 : decide ((3 : Int) < (n1 : Int)) = false := decide_eq_false (by omega)
  obtain ⟨X, Y, x0, x1, y0, y1, J1, J2, JD, JS⟩ := few_tail K1.out K2.out (by have := HN.out; omega) (by have := HM.out; omega) (by have := pos_len K2.out HM.out h0; have := HLE.out; omega) HG.out
  have HJ1 := Lib.hid J1
  have HJ2 := Lib.hid J2
  have HJD := Lib.hid JD
  have HJS := Lib.hid JS
  clear J1 J2 JD JS
  go_wp2_with fail
  refine (HJ1.out _ _ _ _ _ HRA.out).mono ?_
  rintro e w_ ⟨rfl, rfl⟩
  go_wp2_with fail
  refine (HJ2.out _ _ _ _ _ HRB.out).mono ?_
  rintro e w_ ⟨rfl, rfl⟩
  go_wp2_with fail
  refine (HJD.out _ (HTB.out.on HB.out)).mono ?_
  rintro e w_ ⟨rfl, rfl⟩
  go_wp2_with fail
  refine (HJS.out _).mono ?_
  rintro e wz ⟨l, k1, k2, A', c', rfl, hrest⟩
  have HE := Lib.hid (show DigitsV w G (.returned (.slice A' _ c')) wz from ⟨l, k1, k2, Digits.from_ ⟨A', c', rfl, hrest⟩ HB.out⟩)
  clear hrest k1 k2
  go_wp2_with fail
  go_ret
  exact HE.out
set_option maxHeartbeats 8000000 in
theorem div_lt_short_div (A1 A2 : Option Addr) (n1 n2 c1 c2 B1 B2 G : Nat) (a b : List Nat) (w : World) (r1 : Reads w B1 1 A1 n1 (dv a)) (r2 : Reads w B2 1 A2 n2 (dv b)) (k1 : Norm a) (k2 : Norm b) (hle : dval b < dval a) (hn2 : n2 ≤ 3) (h0 : ¬ n2 = 0) (h3 : 3 < n1) (hn6 : n1 ≤ 1000000) (hT : TabZ w) (hG : Nat.gcd (dval a) (dval b) = G) :
    Calls Tryz.prog 138 #[.slice A2 n2 c2, .slice A1 n1 c1] w (DigitsV w G) := by
  have R1 := Lib.hid r1
  have R2 := Lib.hid r2
  have K1 := Lib.hid k1
  have K2 := Lib.hid k2
  have HN := Lib.hid r1.lenD
  have HM := Lib.hid r2.lenD
  have HG := Lib.hid hG
  have HTB := Lib.hid hT
  have HLE : Hid (dval b ≤ dval a) := by show _ ≤ _; omega
  obtain ⟨r, hr⟩ : ∃ r, ordN (dval b) (dval a) = r := ⟨_, rfl⟩
  have hr0 : r < 0 := by rw [← hr]; rw [ordN_neg hle]; decide
  have HO := Lib.hid hr
  have hn12 : n2 ≤ n1 := by have := len_le k1 k2 HLE.out; have := HN.out; have := HM.out; omega
  clear r1 r2 k1 k2 hle hG hT hr
  have hm3 : (n2 : Int) ≤ 3 := by omega
  have hm3' : decide ((3 : Int) < (n2 : Int)) = false := decide_eq_false (by omega)
  go_enter Tryz.func138, Tryz.ntmps138
  go_wp2_with fail
  refine (compare_any A2 A1 n2 n1 c2 c1 _ _ b a w R2.out R1.out K2.out K1.out (by omega) (by omega) HO.out).mono ?_
  rintro e wk ⟨rfl, hd⟩
  have HB := Lib.hid hd.below
  have HRA := Lib.hid (R1.out.past hd.below)
  have HRB := Lib.hid (R2.out.past hd.below)
  clear hd
  have hn0 : ¬ (n2 : Int) = 0 := by omega
  have hq1 : (3 : Int) < (n1 : Int) := by omega
  have hdb := pos_len K2.out HM.out h0
  have HDB := Lib.hid hdb
  clear hdb
  go_wp2_with fail
  refine (divide_any A1 A2 n1 n2 c1 c2 _ _ a b wk HRA.out HRB.out K1.out K2.out (by have := HDB.out; omega) hn6 (by omega)).mono ?_
  rintro e wy ⟨lq, lr, Aq, cq, Ar, cr, rfl, -, hNr, -, hVr, -, hCr, -, hRr, -, -, hBy⟩
  have HBY : Hid (Below w.heap.size w wy) := HB.out.trans (hBy.mono HB.out.size)
  have HRY := Lib.hid hRr
  have HRB2 := Lib.hid (HRB.out.past hBy)
  have HNR := Lib.hid hNr
  have hlt : dval lr < dval b := by rw [hVr]; exact Nat.mod_lt _ (by have := HDB.out; omega)
  have hll : lr.length ≤ 3 := by have := len_le K2.out hNr (by omega); have := HM.out; omega
  have hgg : Nat.gcd (dval b) (dval lr) = G := by rw [hVr, ← HG.out, Nat.gcd_comm, ← Nat.gcd_rec, Nat.gcd_comm]
  have HGG := Lib.hid hgg
  have HLL := Lib.hid hll
  clear hNr hVr hCr hRr hBy hlt hll hgg
  obtain ⟨X, Y, x0, x1, y0, y1, J1, J2, JD, JS⟩ := few_tail K2.out HNR.out (by have := HM.out; omega) HLL.out HDB.out HGG.out
  have HJ1 := Lib.hid J1
  have HJ2 := Lib.hid J2
  have HJD := Lib.hid JD
  have HJS := Lib.hid JS
  clear J1 J2 JD JS
  go_wp2_with fail
  refine (HJ1.out _ _ _ _ _ HRB2.out).mono ?_
  rintro e w_ ⟨rfl, rfl⟩
  go_wp2_with fail
  refine (HJ2.out _ _ _ _ _ HRY.out).mono ?_
  rintro e w_ ⟨rfl, rfl⟩
  go_wp2_with fail
  refine (HJD.out _ (HTB.out.on HBY.out)).mono ?_
  rintro e w_ ⟨rfl, rfl⟩
  go_wp2_with fail
  refine (HJS.out _).mono ?_
  rintro e wz ⟨l, k1, k2, A', c', rfl, hrest⟩
  have HE := Lib.hid (show DigitsV w G (.returned (.slice A' _ c')) wz from ⟨l, k1, k2, Digits.from_ ⟨A', c', rfl, hrest⟩ HBY.out⟩)
  clear hrest k1 k2
  go_wp2_with fail
  go_ret
  exact HE.out
set_option maxHeartbeats 8000000 in
theorem div_lt_long_all (A1 A2 : Option Addr) (n1 n2 c1 c2 B1 B2 G : Nat) (a b : List Nat) (w : World) (r1 : Reads w B1 1 A1 n1 (dv a)) (r2 : Reads w B2 1 A2 n2 (dv b)) (k1 : Norm a) (k2 : Norm b) (hle : dval b < dval a) (hn2 : 3 < n2)  (hn6 : n1 ≤ 1000000) (hT : TabZ w) (hG : Nat.gcd (dval a) (dval b) = G) :
    Calls Tryz.prog 138 #[.slice A2 n2 c2, .slice A1 n1 c1] w (DigitsV w G) := by
  have R1 := Lib.hid r1
  have R2 := Lib.hid r2
  have K1 := Lib.hid k1
  have K2 := Lib.hid k2
  have HN := Lib.hid r1.lenD
  have HM := Lib.hid r2.lenD
  have HG := Lib.hid hG
  have HTB := Lib.hid hT
  have HLE : Hid (dval b ≤ dval a) := by show _ ≤ _; omega
  obtain ⟨r, hr⟩ : ∃ r, ordN (dval b) (dval a) = r := ⟨_, rfl⟩
  have hr0 : r < 0 := by rw [← hr]; rw [ordN_neg hle]; decide
  have HO := Lib.hid hr
  have hn12 : n2 ≤ n1 := by have := len_le k1 k2 HLE.out; have := HN.out; have := HM.out; omega
  clear r1 r2 k1 k2 hle hG hT hr
  have hm3 : (3 : Int) < (n2 : Int) := by omega
  go_enter Tryz.func138, Tryz.ntmps138
  go_wp2_with fail
  refine (compare_any A2 A1 n2 n1 c2 c1 _ _ b a w R2.out R1.out K2.out K1.out (by omega) (by omega) HO.out).mono ?_
  rintro e wk ⟨rfl, hd⟩
  have HB := Lib.hid hd.below
  have HRA := Lib.hid (R1.out.past hd.below)
  have HRB := Lib.hid (R2.out.past hd.below)
  clear hd
  go_wp2_with fail
  refine (cloneD_any A1 n1 c1 _ a wk HRA.out (by omega)).mono ?_
  rintro e w7 ⟨Aa, ca, rfl, hca, hra, hfa, hba⟩
  have HRB7 := Lib.hid (HRB.out.past hba)
  have HCA := Lib.hid hca
  have HFA := Lib.hid hfa
  have HBA := Lib.hid hba
  clear hca hra hfa hba
  go_wp2_with fail
  refine (cloneD_any A2 n2 c2 _ b w7 HRB7.out (by omega)).mono ?_
  rintro e w8 ⟨Ab, cb, rfl, hcb, hrb, hfb, hbb⟩
  have HB8 : Hid (Below w.heap.size w w8) := (HB.out.trans (HBA.out.mono HB.out.size)).trans (hbb.mono (Nat.le_trans HB.out.size HBA.out.size))
  have HS : Hid (ShSt w.heap.size 1000000 G w8 w8 a b Aa Ab ca cb) := by
    refine ⟨K1.out, K2.out, HLE.out, HG.out, fun hp => ?_, fun hp => ?_, fun g g' e e' hp hp' => ?_, by have := HN.out; omega, HCA.out, hcb, Below.refl _ _⟩
    · obtain ⟨g, e, hg, hd⟩ := HFA.out hp
      exact ⟨g, e, Nat.le_trans HB.out.size hg, hd.past hbb⟩
    · obtain ⟨g, e, hg, hd⟩ := hfb hp
      exact ⟨g, e, Nat.le_trans (Nat.le_trans HB.out.size HBA.out.size) hg, hd⟩
    · obtain ⟨q, f, hq, hd⟩ := HFA.out hp
      obtain ⟨q2, f2, hq2, -⟩ := hfb hp'
      rw [e] at f
      rw [e'] at f2
      cases f
      cases f2
      have := hd.lt
      omega
  clear hcb hrb hfb hbb
  go_wp2_with fail
  refine (shorten_any w.heap.size 1000000 G Aa Ab a.length b.length ca cb a b w8 HS.out rfl rfl (Nat.le_refl _) HB8.out.size).mono ?_
  rintro e wk ⟨la, lb, A, B, c, d, rfl, hst, hl3⟩
  have HB : Hid (Below w.heap.size w wk) := HB8.out.trans hst.bel
  have HRA := Lib.hid hst.ra.reads
  have HRB := Lib.hid hst.rb.reads
  have HNA := Lib.hid hst.na
  have HNB := Lib.hid hst.nb
  have HLE := Lib.hid hst.le
  have HG := Lib.hid hst.gcd
  have hl6 := hst.len
  obtain ⟨n, hn⟩ : ∃ n, la.length = n := ⟨_, rfl⟩
  obtain ⟨m, hm⟩ : ∃ m, lb.length = m := ⟨_, rfl⟩
  rw [hn] at hl6 HRA ⊢
  rw [hm] at hl3 HRB ⊢
  have HN := Lib.hid hn
  have HM := Lib.hid hm
  have hn6 := hl6
  have hm3 : m ≤ 3 := hl3
  clear hst hn hm hl3 hl6
  by_cases h0 : m = 0
  · have hz : (m : Int) = 0 := by omega
    have HV : Hid (dval la = G) := by
      show _ = _
      have e : lb = [] := List.eq_nil_of_length_eq_zero (HM.out.trans h0)
      have := HG.out
      rw [e] at this
      exact (Nat.gcd_zero_right _).symm.trans this
    go_wp2_with fail
    refine (cloneD_any A n c _ la wk HRA.out (by omega)).mono ?_
    rintro e wz ⟨A', c', rfl, hrest⟩
    have HE := Lib.hid (show DigitsV w G (.returned (.slice A' _ c')) wz from ⟨la, HNA.out, HV.out, Digits.from_ ⟨A', c', rfl, hrest⟩ HB.out⟩)
    clear hrest
    go_wp2_with fail
    go_ret
    exact HE.out
  · by_cases h3 : n ≤ 3
    · have hn0 : ¬ (m : Int) = 0 := by omega
      have hq1 : (n : Int) ≤ 3 := by omega
      have hq2 : decide ((3 : Int) < (n : Int)) = false := decide_eq_false (by omega)
      obtain ⟨X, Y, x0, x1, y0, y1, J1, J2, JD, JS⟩ := few_tail HNA.out HNB.out (by have := HN.out; omega) (by have := HM.out; omega) (by have := pos_len HNB.out HM.out h0; have := HLE.out; omega) HG.out
      have HJ1 := Lib.hid J1
      have HJ2 := Lib.hid J2
      have HJD := Lib.hid JD
      have HJS := Lib.hid JS
      clear J1 J2 JD JS
      go_wp2_with fail
      refine (HJ1.out _ _ _ _ _ HRA.out).mono ?_
      rintro e w_ ⟨rfl, rfl⟩
      go_wp2_with fail
      refine (HJ2.out _ _ _ _ _ HRB.out).mono ?_
      rintro e w_ ⟨rfl, rfl⟩
      go_wp2_with fail
      refine (HJD.out _ (HTB.out.on HB.out)).mono ?_
      rintro e w_ ⟨rfl, rfl⟩
      go_wp2_with fail
      refine (HJS.out _).mono ?_
      rintro e wz ⟨l, k1, k2, A', c', rfl, hrest⟩
      have HE := Lib.hid (show DigitsV w G (.returned (.slice A' _ c')) wz from ⟨l, k1, k2, Digits.from_ ⟨A', c', rfl, hrest⟩ HB.out⟩)
      clear hrest k1 k2
      go_wp2_with fail
      go_ret
      exact HE.out
    · have hn0 : ¬ (m : Int) = 0 := by omega
      have hq1 : (3 : Int) < (n : Int) := by omega
      have hdb := pos_len HNB.out HM.out h0
      have HDB := Lib.hid hdb
      clear hdb
      go_wp2_with fail
      refine (divide_any A B n m c d _ _ la lb wk HRA.out HRB.out HNA.out HNB.out (by have := HDB.out; omega) hn6 (by omega)).mono ?_
      rintro e wy ⟨lq, lr, Aq, cq, Ar, cr, rfl, -, hNr, -, hVr, -, hCr, -, hRr, -, -, hBy⟩
      have HBY : Hid (Below w.heap.size w wy) := HB.out.trans (hBy.mono HB.out.size)
      have HRY := Lib.hid hRr
      have HRB2 := Lib.hid (HRB.out.past hBy)
      have HNR := Lib.hid hNr
      have hlt : dval lr < dval lb := by rw [hVr]; exact Nat.mod_lt _ (by have := HDB.out; omega)
      have hll : lr.length ≤ 3 := by have := len_le HNB.out hNr (by omega); have := HM.out; omega
      have hgg : Nat.gcd (dval lb) (dval lr) = G := by rw [hVr, ← HG.out, Nat.gcd_comm, ← Nat.gcd_rec, Nat.gcd_comm]
      have HGG := Lib.hid hgg
      have HLL := Lib.hid hll
      clear hNr hVr hCr hRr hBy hlt hll hgg
      obtain ⟨X, Y, x0, x1, y0, y1, J1, J2, JD, JS⟩ := few_tail HNB.out HNR.out (by have := HM.out; omega) HLL.out HDB.out HGG.out
      have HJ1 := Lib.hid J1
      have HJ2 := Lib.hid J2
      have HJD := Lib.hid JD
      have HJS := Lib.hid JS
      clear J1 J2 JD JS
      go_wp2_with fail
      refine (HJ1.out _ _ _ _ _ HRB2.out).mono ?_
      rintro e w_ ⟨rfl, rfl⟩
      go_wp2_with fail
      refine (HJ2.out _ _ _ _ _ HRY.out).mono ?_
      rintro e w_ ⟨rfl, rfl⟩
      go_wp2_with fail
      refine (HJD.out _ (HTB.out.on HBY.out)).mono ?_
      rintro e w_ ⟨rfl, rfl⟩
      go_wp2_with fail
      refine (HJS.out _).mono ?_
      rintro e wz ⟨l, k1, k2, A', c', rfl, hrest⟩
      have HE := Lib.hid (show DigitsV w G (.returned (.slice A' _ c')) wz from ⟨l, k1, k2, Digits.from_ ⟨A', c', rfl, hrest⟩ HBY.out⟩)
      clear hrest k1 k2
      go_wp2_with fail
      go_ret
      exact HE.out
/-- The greatest common divisor of any two numbers' digits. -/
theorem divisor_any (A1 A2 : Option Addr) (n1 n2 c1 c2 B1 B2 : Nat) (a b : List Nat) (w : World) (r1 : Reads w B1 1 A1 n1 (dv a)) (r2 : Reads w B2 1 A2 n2 (dv b)) (k1 : Norm a) (k2 : Norm b) (hn1 : n1 ≤ 1000000) (hn2 : n2 ≤ 1000000) (hT : TabZ w) :
    Calls Tryz.prog 138 #[.slice A1 n1 c1, .slice A2 n2 c2] w (DigitsV w (Nat.gcd (dval a) (dval b))) := by
  rcases Nat.lt_or_ge (dval a) (dval b) with hlt | hge
  · have hG : Nat.gcd (dval b) (dval a) = Nat.gcd (dval a) (dval b) := Nat.gcd_comm _ _
    by_cases h3 : 3 < n1
    · exact div_lt_long_all A2 A1 n2 n1 c2 c1 B2 B1 _ b a w r2 r1 k2 k1 hlt h3 hn2 hT hG
    · by_cases h0 : n1 = 0
      · exact div_lt_short_zero A2 A1 n2 n1 c2 c1 B2 B1 _ b a w r2 r1 k2 k1 hlt (by omega) h0 hn2 hT hG
      · by_cases h4 : n2 ≤ 3
        · exact div_lt_short_few A2 A1 n2 n1 c2 c1 B2 B1 _ b a w r2 r1 k2 k1 hlt (by omega) h0 h4 hn2 hT hG
        · exact div_lt_short_div A2 A1 n2 n1 c2 c1 B2 B1 _ b a w r2 r1 k2 k1 hlt (by omega) h0 (by omega) hn2 hT hG
  · by_cases h3 : 3 < n2
    · exact div_ge_long_all A1 A2 n1 n2 c1 c2 B1 B2 _ a b w r1 r2 k1 k2 hge h3 hn1 hT rfl
    · by_cases h0 : n2 = 0
      · exact div_ge_short_zero A1 A2 n1 n2 c1 c2 B1 B2 _ a b w r1 r2 k1 k2 hge (by omega) h0 hn1 hT rfl
      · by_cases h4 : n1 ≤ 3
        · exact div_ge_short_few A1 A2 n1 n2 c1 c2 B1 B2 _ a b w r1 r2 k1 k2 hge (by omega) h0 h4 hn1 hT rfl
        · exact div_ge_short_div A1 A2 n1 n2 c1 c2 B1 B2 _ a b w r1 r2 k1 k2 hge (by omega) h0 (by omega) hn1 hT rfl
end Go.Proofs.YtikfjmdeeknalaaGreatDoor
