/- The law's function pair, where both are the integers that are asked for. Conditions: the bounds of an int, lengths. -/
import Derived.Test.YtoocdokhljpokaaDoorD1
import Derived.Deep.DeepCutAuto
namespace Go.Proofs.YtoocdokhljpokaaDoor
set_option maxRecDepth 8000
open Go.RowKit

/-- Of, then Same, at any world behind w that keeps what lay in it. -/
theorem same_of {w : World} {s x : Int} {A : Option Addr} {n c B : Nat} {l : List Nat} (h : Reads w B 1 A n (dv l)) (hn : n ≤ 1048576) (r : Rep s l x) {sa : Int} {Aa : Option Addr} {la : List Nat} {ca : Nat} {w1 : World}
    (ra : Rep sa la x) (hra : Reads w1 w1.heap.size 1 Aa la.length (dv la)) (hx : x.natAbs < 1048576 ^ 4) (hb : Below w.heap.size w w1) :
    Calls Tryd.prog 9 #[.agg #[.int .i64 s, .slice A n c], .agg #[.int .i64 sa, .slice Aa la.length ca]] w1 fun e w' => e = .returned (.bool true) ∧ Below w1.heap.size w1 w' :=
  Same_any s sa A Aa n la.length c ca _ _ _ _ w1 (dv_read (h.past hb)) (dv_read hra) (by omega) (by have := ra.len hx; omega) (by rw [sameB_rep r ra]; exact decide_eq_true rfl)
set_option maxHeartbeats 4000000 in
theorem pair_true (s1 s2 x y : Int) (A1 A2 : Option Addr) (n1 n2 c1 c2 B1 B2 : Nat) (l1 l2 : List Nat) (w : World) (h1 : Reads w B1 1 A1 n1 (dv l1)) (h2 : Reads w B2 1 A2 n2 (dv l2)) (hn1 : n1 ≤ 1048576) (hn2 : n2 ≤ 1048576)
    (r1 : Rep s1 l1 x) (r2 : Rep s2 l2 y) (hx0 : -9223372036854775808 ≤ x) (hx1 : x ≤ 9223372036854775807) (hy0 : -9223372036854775808 ≤ y) (hy1 : y ≤ 9223372036854775807) :
    Calls Tryd.prog 17 #[.agg #[.int .i64 s1, .slice A1 n1 c1], .agg #[.int .i64 s2, .slice A2 n2 c2], .int .i64 0, .int .i64 x, .int .i64 y] w fun e w' => e = .returned (.bool true) ∧ Below w.heap.size w w' := by
  have K := TwoC.new w s1 A1 n1 c1 s2 A2 n2 c2
  have HXA : Hid (x.natAbs < 1048576 ^ 4) := by show x.natAbs < 1208925819614629174706176; omega
  have HYA : Hid (y.natAbs < 1048576 ^ 4) := by show y.natAbs < 1208925819614629174706176; omega
  have HOX : Hid (∀ wx, Calls Tryd.prog 12 #[.int .i64 x] wx (BigEnd wx x)) := fun wx => Of_any x wx hx0 hx1
  have HOY : Hid (∀ wx, Calls Tryd.prog 12 #[.int .i64 y] wx (BigEnd wx y)) := fun wx => Of_any y wx hy0 hy1
  have R1 := Lib.hid r1
  have R2 := Lib.hid r2
  have H1 := Lib.hid h1
  have H2 := Lib.hid h2
  clear h1 h2 r1 r2 hx0 hx1 hy0 hy1
  go_enter Tryd.func17, Tryd.ntmps17
  go_upto_region 1 with (fail)
  generalize ((w.alloc (.cells #[.int .i64 s1, .slice A1 n1 c1] 24)).alloc (.cells #[.int .i64 s2, .slice A2 n2 c2] 24)) = wb at K
  obtain ⟨kb1, kb2, kbl⟩ := K
  have z0 : wb.cell? ⟨w.heap.size, 0, none⟩ = some (.int .i64 s1) := (kb1.cell 0).trans rfl
  have z1 : wb.cell? ⟨w.heap.size, 1, none⟩ = some (.slice A1 n1 c1) := (kb1.cell 1).trans rfl
  have z2 : wb.cell? ⟨w.heap.size + 1, 0, none⟩ = some (.int .i64 s2) := (kb2.cell 0).trans rfl
  have z3 : wb.cell? ⟨w.heap.size + 1, 1, none⟩ = some (.slice A2 n2 c2) := (kb2.cell 1).trans rfl
  have HK : Hid (∀ wx, Below wb.heap.size wb wx → wx.cell? ⟨w.heap.size, 0, none⟩ = some (.int .i64 s1) ∧ wx.cell? ⟨w.heap.size, 1, none⟩ = some (.slice A1 n1 c1) ∧ wx.cell? ⟨w.heap.size + 1, 0, none⟩ = some (.int .i64 s2) ∧ wx.cell? ⟨w.heap.size + 1, 1, none⟩ = some (.slice A2 n2 c2)) := fun wx hb =>
    ⟨(hb.cell (p := ⟨w.heap.size, 0, none⟩) kb1.lt).trans z0, (hb.cell (p := ⟨w.heap.size, 1, none⟩) kb1.lt).trans z1, (hb.cell (p := ⟨w.heap.size + 1, 0, none⟩) kb2.lt).trans z2, (hb.cell (p := ⟨w.heap.size + 1, 1, none⟩) kb2.lt).trans z3⟩
  have HBL := Lib.hid kbl
  clear kb1 kb2 kbl
  have HA1 : Hid (Calls Tryd.prog 12 #[.int .i64 x] wb.drew fun e w1 => ∃ va, e = .returned va ∧ Below wb.heap.size wb w1 ∧ Calls Tryd.prog 9 #[.agg #[.int .i64 s1, .slice A1 n1 c1], va] w1 (fun e w' => e = .returned (.bool true) ∧ Below w1.heap.size w1 w')) := by
    refine (HOX.out wb.drew).mono ?_
    rintro e w1 ⟨sa, la, Aa, ca, rfl, -, ra, hra, -, hba⟩
    have hb := (Below.refl wb.heap.size wb).drew.trans hba
    exact ⟨_, rfl, hb, same_of H1.out hn1 R1.out ra hra HXA.out (HBL.out.trans (hb.mono HBL.out.size))⟩
  have HA2 : Hid (∀ w2, Below wb.heap.size wb w2 → Calls Tryd.prog 12 #[.int .i64 y] w2 fun e w1 => ∃ va, e = .returned va ∧ Below wb.heap.size wb w1 ∧ Calls Tryd.prog 9 #[.agg #[.int .i64 s2, .slice A2 n2 c2], va] w1 (fun e w' => e = .returned (.bool true) ∧ Below w1.heap.size w1 w')) := fun w2 h2 => by
    refine (HOY.out w2).mono ?_
    rintro e w1 ⟨sa, la, Aa, ca, rfl, -, ra, hra, -, hba⟩
    have hb := h2.trans (hba.mono h2.size)
    exact ⟨_, rfl, hb, same_of H2.out hn2 R2.out ra hra HYA.out (HBL.out.trans (hb.mono HBL.out.size))⟩
  clear HOX HOY H1 H2 R1 R2 HXA HYA
  go_region_held3 (fun w' => w'.cell? ⟨w.heap.size, 0, none⟩ = some (.int .i64 s1) ∧ w'.cell? ⟨w.heap.size, 1, none⟩ = some (.slice A1 n1 c1) ∧ w'.cell? ⟨w.heap.size + 1, 0, none⟩ = some (.int .i64 s2) ∧ w'.cell? ⟨w.heap.size + 1, 1, none⟩ = some (.slice A2 n2 c2))
    (first | exact ⟨y0, y1, y2, y3⟩ | exact ⟨x0, x1, x2, x3⟩ | exact ⟨v0, v1, v2, v3⟩ | exact ⟨u0, u1, u2, u3⟩ | exact ⟨z0, z1, z2, z3⟩)
    (first | (go_at_call 12; with_reducible refine HA1.out.mono ?_; rintro e w1 ⟨va, rfl, hb1, hs1⟩; have B1 := Lib.hid hb1; have HS1 := Lib.hid hs1; obtain ⟨u0, u1, u2, u3⟩ := HK.out _ hb1; clear hb1 hs1) | (go_at_call 9; with_reducible refine HS1.out.mono ?_; rintro e w2 ⟨rfl, hb2⟩; have B2 := Lib.hid (B1.out.trans (hb2.mono B1.out.size)); obtain ⟨v0, v1, v2, v3⟩ := HK.out _ B2.out; clear hb2) | (go_at_call 12; with_reducible refine (HA2.out _ B2.out).mono ?_; rintro e w3 ⟨vb, rfl, hb3, hs3⟩; have B3 := Lib.hid hb3; have HS2 := Lib.hid hs3; obtain ⟨x0, x1, x2, x3⟩ := HK.out _ hb3; clear hb3 hs3) | (go_at_call 12; with_reducible refine (HA2.out _ B2.out.drew).mono ?_; rintro e w3 ⟨vb, rfl, hb3, hs3⟩; have B3 := Lib.hid hb3; have HS2 := Lib.hid hs3; obtain ⟨x0, x1, x2, x3⟩ := HK.out _ hb3; clear hb3 hs3) | (go_at_call 9; with_reducible refine HS2.out.mono ?_; rintro e w4 ⟨rfl, hb4⟩; have B4 := Lib.hid (B3.out.trans (hb4.mono B3.out.size)); obtain ⟨y0, y1, y2, y3⟩ := HK.out _ B4.out; clear hb4))
  all_goals
    go_wp2_with fail
    go_ret
    exact ⟨rfl, HBL.out.trans (B4.out.mono HBL.out.size)⟩
end Go.Proofs.YtoocdokhljpokaaDoor
