/- The walk of big's divide at digits of any lengths, and Div at right big integers. Conditions: lengths. -/
import Derived.Test.YtikfjmdeeknalaaGreatDoorE4
import Derived.Test.YtikfjmdeeknalaaGreatDoorC6
namespace Go.Proofs.YtikfjmdeeknalaaGreatDoor
set_option maxRecDepth 8000
open Go.RowKit

set_option maxHeartbeats 8000000 in
theorem divide_mid (A1 A2 : Option Addr) (n1 n2 c1 c2 B1 B2 : Nat) (a b : List Nat) (w : World) (h1 : Reads w B1 1 A1 n1 (dv a)) (h2 : Reads w B2 1 A2 n2 (dv b)) (k1 : Norm a) (k2 : Norm b) (hle : dval b ≤ dval a) (hb0 : 0 < dval b) (hn2 : n2 ≤ 2) (hn1 : 4 ≤ n1) (hn : n1 ≤ 1000000) :
    Calls Tryz.prog 128 #[.slice A1 n1 c1, .slice A2 n2 c2] w (QrEnd w (dval a / dval b) (dval a % dval b)) := by
  have hl1 := h1.lenD
  have H1 := Lib.hid h1.here
  have H2 := Lib.hid h2.here
  have K1 := Lib.hid k1
  have K2 := Lib.hid k2
  obtain ⟨r, hr⟩ : ∃ r, ordN (dval a) (dval b) = r := ⟨_, rfl⟩
  have hr0 : 0 ≤ r := by rw [← hr]; exact ordN_nonneg hle
  have HO := Lib.hid hr
  have hbl : dval b < 1099511627776 := by
    have e1 := dval_lt k2.1
    rw [h2.lenD] at e1
    have e2 : 1048576 ^ n2 ≤ 1048576 ^ 2 := Nat.pow_le_pow_right (by decide) hn2
    have e3 : (1048576 : Nat) ^ 2 = 1099511627776 := by rfl
    omega
  have hm := Nat.mod_lt (dval a) hb0
  have HSR := Lib.hid (fun wx => split_any (dval a % dval b) wx (by omega))
  have HNR := Lib.hid (digN_norm (m := dval a % dval b) (by omega))
  have HCL : Hid (∀ wx, Reads wx w.heap.size 1 A1 n1 (dv a) → Calls Tryz.prog 142 #[.slice A1 n1 c1] wx (Digits wx a)) := fun wx h => cloneD_any A1 n1 c1 _ a wx h (by omega)
  have HJ2 : Hid (∀ wx, Reads wx w.heap.size 1 A2 n2 (dv b) → Calls Tryz.prog 145 #[.slice A2 n2 c2] wx fun e w' => e = .returned (.int .i64 (dval b : Nat)) ∧ wx = w') := fun wx h => join_any A2 n2 c2 _ b wx h k2.1 (by omega)
  have HDB : Hid (∀ (g c : Nat) (wx : World), Dig wx g a → n1 ≤ c → Calls Tryz.prog 143 #[.slice (some ⟨g, 0, none⟩) n1 c, .int .i64 (dval b : Nat)] wx (ByEnd wx g a (dval b))) := fun g c wx hd hc => divideBy_any g n1 c a (dval b) wx hd hl1 k1.1 hb0 (by omega) hc (by omega)
  generalize hRR : digN (dval a % dval b) (digits (dval a % dval b)) = lr at HSR HNR
  obtain ⟨Y, hY⟩ : ∃ Y : Int, ((dval b : Nat) : Int) = Y := ⟨_, rfl⟩
  obtain ⟨Z, hZ⟩ : ∃ Z : Int, ((dval a % dval b : Nat) : Int) = Z := ⟨_, rfl⟩
  have hZ0 : 0 ≤ Z := by omega
  have hZ1 : Z < 1099511627776 := by omega
  rw [hY] at HJ2 HDB
  rw [hZ] at HSR
  have HZ := Lib.hid hZ
  have hc1 : ¬ (n1 : Int) ≤ 3 := by omega
  have hc2 : (n2 : Int) ≤ 2 := by omega
  have d3 : IntKind.u64.wrap Z = Z := wraps_u64 _ hZ0 (by omega)
  have HL1 := Lib.hid hl1
  clear h1 h2 k1 k2 hr hm hle hb0 hRR hY hZ hbl hl1
  go_enter Tryz.func128, Tryz.ntmps128
  go_wp2_with fail
  refine (compare_any A1 A2 n1 n2 c1 c2 _ _ a b w H1.out H2.out K1.out K2.out (by omega) (by omega) HO.out).mono ?_
  rintro e w6 ⟨rfl, hd⟩
  have HB := Lib.hid hd.below
  have H16 := Lib.hid (H1.out.past hd.below)
  have H26 := Lib.hid (H2.out.past hd.below)
  clear hd
  go_wp2_with fail
  refine (HCL.out _ H16.out).mono ?_
  rintro e w7 ⟨A, c, rfl, hc, hR, hF, hB⟩
  obtain ⟨g, rfl, hg, hdg⟩ := hF (by rw [HL1.out]; omega)
  have HB7 := Lib.hid hB
  have H27 := Lib.hid (H26.out.past hB)
  have HDG := Lib.hid hdg
  rw [HL1.out] at hc ⊢
  clear hR hF hB hdg
  go_wp2_with fail
  refine (HJ2.out _ H27.out).mono ?_
  rintro e w' ⟨rfl, rfl⟩
  go_wp2_with fail
  refine (HDB.out g c w7 HDG.out hc).mono ?_
  rintro e w8 ⟨E, m, c8, rfl, hm, hc8, hEl, hdE, hsE, hnz, hv, -, hgb⟩
  rw [HZ.out]
  have HM := Lib.hid hm
  have HC8 := Lib.hid hc8
  have HEL := Lib.hid hEl
  have HDE := Lib.hid hdE
  have HSE := Lib.hid hsE
  have HNZ := Lib.hid hnz
  have HV := Lib.hid hv
  have HGB := Lib.hid hgb
  clear hm hc8 hEl hdE hsE hnz hv hgb
  go_wp2_with fail
  refine (HSR.out _).mono ?_
  rintro e w9 ⟨A9, c9, rfl, hc9, hR9, hF9, hB9⟩
  have hml : (E.take m).length = m := by have := HM.out; have := HEL.out; rw [List.length_take]; omega
  have hfin : QrEnd w (dval a / dval b) (dval a % dval b) (.returned (.tuple #[.slice (some ⟨g, 0, none⟩) m c8, .slice A9 lr.length c9])) w9 := by
    have hd9 : Dig w9 g (E.take m) := (HDE.out.take m).past hB9
    have hB8 : Below w.heap.size w w8 := (HB.out.trans (HB7.out.mono HB.out.size)).grown HGB.out (Nat.le_trans HB.out.size HB7.out.size) (fun q e => by cases e; exact Nat.le_trans HB.out.size hg)
    refine ⟨E.take m, lr, some ⟨g, 0, none⟩, c8, A9, c9, by rw [hml], ⟨HSE.out.take m, HNZ.out⟩, HNR.out.1, HV.out, HNR.out.2, by rw [hml]; have := HM.out; have := HC8.out; omega, hc9, by rw [hml]; exact hd9.reads hml hd9.lt, hR9, fun _ ad e => by cases e; exact Nat.le_trans HB.out.size hg, fun hp => ?_, hB8.trans (hB9.mono hB8.size)⟩
    obtain ⟨q, e', hq, hd⟩ := hF9 hp
    exact ⟨q, e', Nat.le_trans hB8.size hq, hd⟩
  have HF := Lib.hid hfin
  clear hfin hc9 hR9 hF9 hB9 hml
  go_wp2_with fail
  go_ret2
  exact HF.out
set_option maxHeartbeats 8000000 in
theorem divide_long (A1 A2 : Option Addr) (n1 n2 c1 c2 B1 B2 : Nat) (a b : List Nat) (w : World) (h1 : Reads w B1 1 A1 n1 (dv a)) (h2 : Reads w B2 1 A2 n2 (dv b)) (k1 : Norm a) (k2 : Norm b) (hle : dval b ≤ dval a) (hn2 : 3 ≤ n2) (hn1 : 4 ≤ n1) (hn : n1 ≤ 1000000) :
    Calls Tryz.prog 128 #[.slice A1 n1 c1, .slice A2 n2 c2] w (QrEnd w (dval a / dval b) (dval a % dval b)) := by
  have hnn : n2 ≤ n1 := by have := len_le k1 k2 hle; rw [h1.lenD, h2.lenD] at this; omega
  have H1 := Lib.hid h1.here
  have H2 := Lib.hid h2.here
  have K1 := Lib.hid k1
  have K2 := Lib.hid k2
  have HLE := Lib.hid hle
  obtain ⟨r, hr⟩ : ∃ r, ordN (dval a) (dval b) = r := ⟨_, rfl⟩
  have hr0 : 0 ≤ r := by rw [← hr]; exact ordN_nonneg hle
  have HO := Lib.hid hr
  have hc1 : ¬ (n1 : Int) ≤ 3 := by omega
  have hc2 : ¬ (n2 : Int) ≤ 2 := by omega
  clear h1 h2 k1 k2 hr hle
  go_enter Tryz.func128, Tryz.ntmps128
  go_wp2_with fail
  refine (compare_any A1 A2 n1 n2 c1 c2 _ _ a b w H1.out H2.out K1.out K2.out (by omega) (by omega) HO.out).mono ?_
  rintro e w6 ⟨rfl, hd⟩
  have HB := Lib.hid hd.below
  have hdl := Lib.hid (divideLong_any A1 A2 n1 n2 c1 c2 _ _ a b w6 (H1.out.past hd.below) (H2.out.past hd.below) K1.out K2.out HLE.out (by omega) hn)
  clear hd
  go_wp2_with fail
  refine hdl.out.mono ?_
  rintro e w7 ⟨lq, lr, A, c, A', c', rfl, q1, q2, q3, q4, q5, q6, q7, q8, q9, q10, q11⟩
  have hfin : QrEnd w (dval a / dval b) (dval a % dval b) (.returned (.tuple #[.slice A lq.length c, .slice A' lr.length c'])) w7 := ⟨lq, lr, A, c, A', c', rfl, q1, q2, q3, q4, q5, q6, q7, q8, fun hp ad e => Nat.le_trans HB.out.size (q9 hp ad e), fun hp => by obtain ⟨g, e', hg, hd⟩ := q10 hp; exact ⟨g, e', Nat.le_trans HB.out.size hg, hd⟩, HB.out.trans (q11.mono HB.out.size)⟩
  have HF := Lib.hid hfin
  clear hfin q1 q2 q3 q4 q5 q6 q7 q8 q9 q10 q11
  go_wp2_with fail
  go_ret2
  exact HF.out
theorem divide_any (A1 A2 : Option Addr) (n1 n2 c1 c2 B1 B2 : Nat) (a b : List Nat) (w : World) (h1 : Reads w B1 1 A1 n1 (dv a)) (h2 : Reads w B2 1 A2 n2 (dv b)) (k1 : Norm a) (k2 : Norm b) (hb0 : 0 < dval b) (hn1 : n1 ≤ 1000000) (hn2 : n2 ≤ 1000000) :
    Calls Tryz.prog 128 #[.slice A1 n1 c1, .slice A2 n2 c2] w (QrEnd w (dval a / dval b) (dval a % dval b)) := by
  rcases Nat.lt_or_ge (dval a) (dval b) with hlt | hge
  · exact divide_less A1 A2 n1 n2 c1 c2 B1 B2 a b w h1 h2 k1 k2 hlt (by omega) (by omega)
  · by_cases e1 : n1 ≤ 3
    · exact divide_few A1 A2 n1 n2 c1 c2 B1 B2 a b w h1 h2 k1 k2 hge hb0 e1
    · by_cases e2 : n2 ≤ 2
      · exact divide_mid A1 A2 n1 n2 c1 c2 B1 B2 a b w h1 h2 k1 k2 hge hb0 e2 (by omega) hn1
      · exact divide_long A1 A2 n1 n2 c1 c2 B1 B2 a b w h1 h2 k1 k2 hge (by omega) (by omega) hn1
theorem Div_any (s1 s2 : Int) (A1 A2 : Option Addr) (n1 n2 c1 c2 B1 B2 : Nat) (l1 l2 : List Nat) (x y : Int) (w : World) (h1 : Reads w B1 1 A1 n1 (dv l1)) (h2 : Reads w B2 1 A2 n2 (dv l2)) (r1 : Rep s1 l1 x) (r2 : Rep s2 l2 y) (hy : y ≠ 0) (hn1 : n1 ≤ 1000000) (hn2 : n2 ≤ 1000000) :
    Calls Tryz.prog 22 #[.agg #[.int .i64 s1, .slice A1 n1 c1], .agg #[.int .i64 s2, .slice A2 n2 c2]] w (DivOk w x y) :=
  Div_by s1 s2 A1 A2 n1 n2 c1 c2 B1 B2 l1 l2 x y w h1 h2 r1 r2 hy (by omega) (by omega) (fun wx k1 k2 => divide_any A1 A2 n1 n2 c1 c2 B1 B2 l1 l2 wx k1 k2 r1.norm r2.norm (by rcases r2.cases with ⟨-, -, a, b⟩ | ⟨-, -, a, b⟩ | ⟨-, -, a⟩ <;> omega) hn1 hn2)
end Go.Proofs.YtikfjmdeeknalaaGreatDoor
