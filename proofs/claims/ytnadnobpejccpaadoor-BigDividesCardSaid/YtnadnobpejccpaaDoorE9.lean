/- The walk of the law BigDivides. Conditions: the arguments' memory, the tables of math/bits and strconv. -/
import Derived.Test.YtnadnobpejccpaaDoorE6
import Derived.Test.YtnadnobpejccpaaDoorE8
import Derived.Deep.DeepCutAuto
namespace Go.Proofs.YtnadnobpejccpaaDoor
set_option maxRecDepth 8000
open Go.RowKit
theorem StB.made {w0 w w' : World} {L : List BoxR} {k : Nat} {x s : Int} {A : Option Addr} {n : Nat} (h : StB w0 w L) (hb : Below w.heap.size w w') (hg : Bg w' k x s A n) (_hf : Fresh w A n) (c : Nat) :
    StB w0 (w'.alloc (.cells #[.int .i64 s, .slice A n c] 24)) (⟨w'.heap.size, k, x, s, A, n, c⟩ :: L) := (h.call hb).box c hg
theorem floor_sz {x y q r : Int} (h : FloorP x y q r) (hy : y ≠ 0) : q.natAbs ≤ x.natAbs ∧ r.natAbs < y.natAbs := by
  obtain ⟨a, b, c⟩ := h
  have hr : r.natAbs < y.natAbs := by
    rcases Int.lt_or_gt_of_ne hy with h | h
    · have := c h; omega
    · have := b h; omega
  refine ⟨?_, hr⟩
  have e : (q * y).natAbs ≤ x.natAbs + r.natAbs := by omega
  rw [Int.natAbs_mul] at e
  rcases Nat.eq_zero_or_pos q.natAbs with h0 | h0
  · omega
  · obtain ⟨k, hk⟩ : ∃ k, q.natAbs = k + 1 := ⟨q.natAbs - 1, by omega⟩
    rw [hk, Nat.add_mul, Nat.one_mul] at e
    have h1 : k * 1 ≤ k * y.natAbs := Nat.mul_le_mul_left _ (by omega)
    omega
/-- How a division ends. -/
def DivF (w : World) (j k : Nat) (x y : Int) (e : Ending) (w' : World) : Prop := ∃ q r s A n c s' A' n' c', e = .returned (.tuple #[.agg #[.int .i64 s, .slice A n c], .agg #[.int .i64 s', .slice A' n' c'], .int .i64 0]) ∧ FloorP x y q r ∧ Bg w' j q s A n ∧ Bg w' k r s' A' n' ∧ Below w.heap.size w w'
section
variable {w : World} {j k : Nat} {x y s1 s2 : Int} {A1 A2 : Option Addr} {n1 n2 : Nat}
theorem div_F (h1 : Bg w j x s1 A1 n1) (h2 : Bg w k y s2 A2 n2) (hy : y ≠ 0) (hj : j ≤ 1000000) (hk : k ≤ 1000000) (c1 c2 : Nat) :
    Calls Tryd.prog 19 #[.agg #[.int .i64 s1, .slice A1 n1 c1], .agg #[.int .i64 s2, .slice A2 n2 c2]] w (DivF w j k x y) := by
  have e1 := h1.len
  have e2 := h2.len
  obtain ⟨z1, l1, g1, r1, m1⟩ := h1
  obtain ⟨z2, l2, g2, r2, m2⟩ := h2
  refine (Div_any s1 s2 A1 A2 n1 n2 c1 c2 _ _ l1 l2 x y w m1 m2 r1 r2 hy (by omega) (by omega)).mono ?_
  rintro e w' ⟨q, r, s, l, A, c, s', l', A', c', rfl, hv, hr, hr', hc, hc', hR, hR', hb⟩
  obtain ⟨f1, f2⟩ := floor_sz hv hy
  exact ⟨q, r, s, A, l.length, c, s', A', l'.length, c', rfl, hv, ⟨z1.of_le f1, l, rfl, hr, hR⟩, ⟨z2.of_le (Nat.le_of_lt f2), l', rfl, hr', hR'⟩, hb⟩
set_option maxHeartbeats 4000000 in
theorem div_Z (h1 : Bg w j x s1 A1 n1) (h2 : Bg w k 0 s2 A2 n2) (hj : j ≤ 1000000) (hk : k ≤ 1000000) (c1 c2 : Nat) :
    Calls Tryd.prog 19 #[.agg #[.int .i64 s1, .slice A1 n1 c1], .agg #[.int .i64 s2, .slice A2 n2 c2]] w fun e w' => e = .returned (.tuple #[.agg #[.int .i64 0, .slice none 0 0], .agg #[.int .i64 0, .slice none 0 0], .int .i64 14]) ∧ Below w.heap.size w w' := by
  have e1 := h1.len
  have e2 := h2.len
  obtain ⟨z1, l1, g1, r1, m1⟩ := h1
  obtain ⟨z2, l2, g2, r2, m2⟩ := h2
  have hs : s2 = 0 := by rcases r2.cases with ⟨-, -, a, -⟩ | ⟨-, -, a, -⟩ | ⟨a, -, -⟩ <;> omega
  subst hs
  have H1 := Lib.hid m1
  have H2 := Lib.hid m2
  have R1 := Lib.hid r1
  have R2 := Lib.hid r2
  have K := Lib.hid (Four.new w s1 A1 n1 c1 0 A2 n2 c2)
  clear m1 m2 r1 r2 g1 g2 z1 z2
  go_enter Tryd.func19, Tryd.ntmps19
  go_wp2_with fail
  refine (right_rep R1.out A1 n1 c1 _ _ (H1.out.past (K.out.t.bl)) (by omega)).mono ?_
  rintro e w4 ⟨rfl, b4⟩
  have K4 := Lib.hid (K.out.past b4)
  obtain ⟨y0, y1, y2, y3, y4, y5, y6, y7, y8, y9, ya, yb⟩ := K4.out.cells
  clear b4 K
  go_wp2_with fail
  refine (right_rep R2.out A2 n2 c2 _ _ (H2.out.past (K4.out.t.bl)) (by omega)).mono ?_
  rintro e w5 ⟨rfl, b5⟩
  have K5 := Lib.hid (K4.out.past b5)
  clear y0 y1 y2 y3 y4 y5 y6 y7 y8 y9 ya yb
  obtain ⟨y0, y1, y2, y3, y4, y5, y6, y7, y8, y9, ya, yb⟩ := K5.out.cells
  clear b5 K4
  go_wp2_with fail
  obtain ⟨e0, e1, e2, e3⟩ := K5.out.cells4 (.int .i64 0) (.slice none 0 0) (.int .i64 0) (.slice none 0 0)
  refine bodyPost_ret (v := .tuple #[.agg #[.int .i64 0, .slice none 0 0], .agg #[.int .i64 0, .slice none 0 0], .int .i64 14]) (by simp [results, Tryd.results19, go_sem, e0, e1, e2, e3]) rfl ?_
  exact ⟨rfl, (((K5.out.t.bl.setCell (p := ⟨w.heap.size + 1 + 1, 0, none⟩) (by show _ ≤ w.heap.size + 1 + 1; omega) _).setCell (p := ⟨w.heap.size + 1 + 1, 1, none⟩) (by show _ ≤ w.heap.size + 1 + 1; omega) _).setCell (p := ⟨w.heap.size + 1 + 1 + 1, 0, none⟩) (by show _ ≤ w.heap.size + 1 + 1 + 1; omega) _).setCell (p := ⟨w.heap.size + 1 + 1 + 1, 1, none⟩) (by show _ ≤ w.heap.size + 1 + 1 + 1; omega) _⟩
end
set_option maxRecDepth 100000 in
set_option maxHeartbeats 4000000 in
theorem divides_e0 (s1a : Int) (A1a : Option Addr) (n1a c1a : Nat) (l1a : List Int) (s2a : Int) (A2a : Option Addr) (n2a c2a : Nat) (l2a : List Int) (w : World) (ha1 : BigArg w ⟨s1a, A1a, n1a, c1a⟩ l1a) (ha2 : BigArg w ⟨s2a, A2a, n2a, c2a⟩ l2a) (hT : Tab w) (hZ : TabZ w)  (t0 : (40 : Int) < (n1a : Int)) :
    Calls Tryd.prog 5 #[.agg #[.int .i64 s1a, .slice A1a n1a c1a], .agg #[.int .i64 s2a, .slice A2a n2a c2a]] w fun e w' => e = .returned (.bool true) ∧ Below w.heap.size w w' := by
  have HR0 := Lib.hid t0
  clear t0
  have HT := Lib.hid hT
  have HZ := Lib.hid hZ
  have HA1 := Lib.hid ha1
  have HA2 := Lib.hid ha2
  clear hT hZ ha1 ha2
  have K := Lib.hid (show BxA w _ [⟨s1a, A1a, n1a, c1a⟩, ⟨s2a, A2a, n2a, c2a⟩] from (((BxA.new w).box (by simp) ⟨s1a, A1a, n1a, c1a⟩).box (by simp) ⟨s2a, A2a, n2a, c2a⟩))
  go_enter Tryd.func5, Tryd.ntmps5
  go_wp2_with fail
  refine (small_any _ (HT.out.on K.out.bl) (HZ.out.on K.out.bl)).mono ?_
  rintro e wa0 ⟨rfl, hb⟩
  have K0 := Lib.hid (K.out.call hb)
  clear hb K
  have zb := K0.out.bx 0 _ rfl
  have z0 := zb.c0
  have z1 := zb.c1
  clear zb
  simp only [Nat.add_zero] at z0 z1
  go_wp2_with fail
  refine (few_F _ HR0.out).mono ?_
  rintro e wa1 ⟨rfl, hb⟩
  have K1 := Lib.hid (K0.out.call hb)
  clear hb z0 z1 K0
  go_wp2_with fail
  go_ret
  exact ⟨rfl, K1.out.bl⟩
set_option maxRecDepth 100000 in
set_option maxHeartbeats 4000000 in
theorem divides_e1 (s1a : Int) (A1a : Option Addr) (n1a c1a : Nat) (l1a : List Int) (s2a : Int) (A2a : Option Addr) (n2a c2a : Nat) (l2a : List Int) (w : World) (ha1 : BigArg w ⟨s1a, A1a, n1a, c1a⟩ l1a) (ha2 : BigArg w ⟨s2a, A2a, n2a, c2a⟩ l2a) (hT : Tab w) (hZ : TabZ w) (t0 : (n1a : Int) ≤ 40) (t1 : (40 : Int) < (n2a : Int)) :
    Calls Tryd.prog 5 #[.agg #[.int .i64 s1a, .slice A1a n1a c1a], .agg #[.int .i64 s2a, .slice A2a n2a c2a]] w fun e w' => e = .returned (.bool true) ∧ Below w.heap.size w w' := by
  have HR1 := Lib.hid t1
  clear t1
  have HT := Lib.hid hT
  have HZ := Lib.hid hZ
  have HA1 := Lib.hid ha1
  have HA2 := Lib.hid ha2
  clear hT hZ ha1 ha2
  have K := Lib.hid (show BxA w _ [⟨s1a, A1a, n1a, c1a⟩, ⟨s2a, A2a, n2a, c2a⟩] from (((BxA.new w).box (by simp) ⟨s1a, A1a, n1a, c1a⟩).box (by simp) ⟨s2a, A2a, n2a, c2a⟩))
  go_enter Tryd.func5, Tryd.ntmps5
  go_wp2_with fail
  refine (small_any _ (HT.out.on K.out.bl) (HZ.out.on K.out.bl)).mono ?_
  rintro e wa0 ⟨rfl, hb⟩
  have K0 := Lib.hid (K.out.call hb)
  clear hb K
  have zb := K0.out.bx 0 _ rfl
  have z0 := zb.c0
  have z1 := zb.c1
  clear zb
  simp only [Nat.add_zero] at z0 z1
  go_wp2_with fail
  refine (few_T _ t0).mono ?_
  rintro e wa1 ⟨rfl, hb⟩
  have K1 := Lib.hid (K0.out.call hb)
  clear hb z0 z1 K0
  have zb := K1.out.bx 1 _ rfl
  have z0 := zb.c0
  have z1 := zb.c1
  clear zb
  go_wp2_with fail
  refine (few_F _ HR1.out).mono ?_
  rintro e wa2 ⟨rfl, hb⟩
  have K2 := Lib.hid (K1.out.call hb)
  clear hb z0 z1 K1
  go_wp2_with fail
  go_ret
  exact ⟨rfl, K2.out.bl⟩
set_option maxRecDepth 100000 in
set_option maxHeartbeats 4000000 in
theorem divides_e2 (s1a : Int) (A1a : Option Addr) (n1a c1a : Nat) (l1a : List Int) (s2a : Int) (A2a : Option Addr) (n2a c2a : Nat) (l2a : List Int) (w : World) (ha1 : BigArg w ⟨s1a, A1a, n1a, c1a⟩ l1a) (ha2 : BigArg w ⟨s2a, A2a, n2a, c2a⟩ l2a) (hT : Tab w) (hZ : TabZ w) (t0 : (n1a : Int) ≤ 40) (t1 : (n2a : Int) ≤ 40) (t2 : rightB s1a l1a = false) :
    Calls Tryd.prog 5 #[.agg #[.int .i64 s1a, .slice A1a n1a c1a], .agg #[.int .i64 s2a, .slice A2a n2a c2a]] w fun e w' => e = .returned (.bool true) ∧ Below w.heap.size w w' := by
  have HR2 := Lib.hid t2
  clear t2
  have HT := Lib.hid hT
  have HZ := Lib.hid hZ
  have HA1 := Lib.hid ha1
  have HA2 := Lib.hid ha2
  clear hT hZ ha1 ha2
  have K := Lib.hid (show BxA w _ [⟨s1a, A1a, n1a, c1a⟩, ⟨s2a, A2a, n2a, c2a⟩] from (((BxA.new w).box (by simp) ⟨s1a, A1a, n1a, c1a⟩).box (by simp) ⟨s2a, A2a, n2a, c2a⟩))
  go_enter Tryd.func5, Tryd.ntmps5
  go_wp2_with fail
  refine (small_any _ (HT.out.on K.out.bl) (HZ.out.on K.out.bl)).mono ?_
  rintro e wa0 ⟨rfl, hb⟩
  have K0 := Lib.hid (K.out.call hb)
  clear hb K
  have zb := K0.out.bx 0 _ rfl
  have z0 := zb.c0
  have z1 := zb.c1
  clear zb
  simp only [Nat.add_zero] at z0 z1
  go_wp2_with fail
  refine (few_T _ t0).mono ?_
  rintro e wa1 ⟨rfl, hb⟩
  have K1 := Lib.hid (K0.out.call hb)
  clear hb z0 z1 K0
  have zb := K1.out.bx 1 _ rfl
  have z0 := zb.c0
  have z1 := zb.c1
  clear zb
  go_wp2_with fail
  refine (few_T _ t1).mono ?_
  rintro e wa2 ⟨rfl, hb⟩
  have K2 := Lib.hid (K1.out.call hb)
  clear hb z0 z1 K1
  have zb := K2.out.bx 0 _ rfl
  have z0 := zb.c0
  have z1 := zb.c1
  clear zb
  simp only [Nat.add_zero] at z0 z1
  go_wp2_with fail
  refine (right_is HA1.out (by dsimp only; omega) K2.out.bl HR2.out).mono ?_
  rintro e wa3 ⟨rfl, hb⟩
  have K3 := Lib.hid (K2.out.call hb)
  clear hb z0 z1 K2
  go_wp2_with fail
  go_ret
  exact ⟨rfl, K3.out.bl⟩
set_option maxRecDepth 100000 in
set_option maxHeartbeats 4000000 in
theorem divides_e3 (s1a : Int) (A1a : Option Addr) (n1a c1a : Nat) (l1a : List Int) (s2a : Int) (A2a : Option Addr) (n2a c2a : Nat) (l2a : List Int) (w : World) (ha1 : BigArg w ⟨s1a, A1a, n1a, c1a⟩ l1a) (ha2 : BigArg w ⟨s2a, A2a, n2a, c2a⟩ l2a) (hT : Tab w) (hZ : TabZ w) (t0 : (n1a : Int) ≤ 40) (t1 : (n2a : Int) ≤ 40) (t2 : rightB s1a l1a = true) (t3 : rightB s2a l2a = false) :
    Calls Tryd.prog 5 #[.agg #[.int .i64 s1a, .slice A1a n1a c1a], .agg #[.int .i64 s2a, .slice A2a n2a c2a]] w fun e w' => e = .returned (.bool true) ∧ Below w.heap.size w w' := by
  have HR2 := Lib.hid t2
  clear t2
  have HR3 := Lib.hid t3
  clear t3
  have HT := Lib.hid hT
  have HZ := Lib.hid hZ
  have HA1 := Lib.hid ha1
  have HA2 := Lib.hid ha2
  clear hT hZ ha1 ha2
  have K := Lib.hid (show BxA w _ [⟨s1a, A1a, n1a, c1a⟩, ⟨s2a, A2a, n2a, c2a⟩] from (((BxA.new w).box (by simp) ⟨s1a, A1a, n1a, c1a⟩).box (by simp) ⟨s2a, A2a, n2a, c2a⟩))
  go_enter Tryd.func5, Tryd.ntmps5
  go_wp2_with fail
  refine (small_any _ (HT.out.on K.out.bl) (HZ.out.on K.out.bl)).mono ?_
  rintro e wa0 ⟨rfl, hb⟩
  have K0 := Lib.hid (K.out.call hb)
  clear hb K
  have zb := K0.out.bx 0 _ rfl
  have z0 := zb.c0
  have z1 := zb.c1
  clear zb
  simp only [Nat.add_zero] at z0 z1
  go_wp2_with fail
  refine (few_T _ t0).mono ?_
  rintro e wa1 ⟨rfl, hb⟩
  have K1 := Lib.hid (K0.out.call hb)
  clear hb z0 z1 K0
  have zb := K1.out.bx 1 _ rfl
  have z0 := zb.c0
  have z1 := zb.c1
  clear zb
  go_wp2_with fail
  refine (few_T _ t1).mono ?_
  rintro e wa2 ⟨rfl, hb⟩
  have K2 := Lib.hid (K1.out.call hb)
  clear hb z0 z1 K1
  have zb := K2.out.bx 0 _ rfl
  have z0 := zb.c0
  have z1 := zb.c1
  clear zb
  simp only [Nat.add_zero] at z0 z1
  go_wp2_with fail
  refine (right_is HA1.out (by dsimp only; omega) K2.out.bl HR2.out).mono ?_
  rintro e wa3 ⟨rfl, hb⟩
  have K3 := Lib.hid (K2.out.call hb)
  clear hb z0 z1 K2
  have zb := K3.out.bx 1 _ rfl
  have z0 := zb.c0
  have z1 := zb.c1
  clear zb
  go_wp2_with fail
  refine (right_is HA2.out (by dsimp only; omega) K3.out.bl HR3.out).mono ?_
  rintro e wa4 ⟨rfl, hb⟩
  have K4 := Lib.hid (K3.out.call hb)
  clear hb z0 z1 K3
  go_wp2_with fail
  go_ret
  exact ⟨rfl, K4.out.bl⟩
set_option maxRecDepth 100000 in
set_option maxHeartbeats 8000000 in
theorem divides_main (s1a : Int) (A1a : Option Addr) (n1a c1a : Nat) (l1a : List Int) (s2a : Int) (A2a : Option Addr) (n2a c2a : Nat) (l2a : List Int) (w : World) (ha1 : BigArg w ⟨s1a, A1a, n1a, c1a⟩ l1a) (ha2 : BigArg w ⟨s2a, A2a, n2a, c2a⟩ l2a) (hT : Tab w) (hZ : TabZ w) (t0 : (n1a : Int) ≤ 40) (t1 : (n2a : Int) ≤ 40) (t2 : rightB s1a l1a = true) (t3 : rightB s2a l2a = true) :
    Calls Tryd.prog 5 #[.agg #[.int .i64 s1a, .slice A1a n1a c1a], .agg #[.int .i64 s2a, .slice A2a n2a c2a]] w fun e w' => e = .returned (.bool true) ∧ Below w.heap.size w w' := by
  obtain ⟨x1, hx1⟩ := ha1.bg t2 (k := 40) (by dsimp only; omega)
  obtain ⟨x2, hx2⟩ := ha2.bg t3 (k := 40) (by dsimp only; omega)
  have HX1 := Lib.hid hx1
  have HX2 := Lib.hid hx2
  clear hx1 hx2
  have HR2 := Lib.hid t2
  clear t2
  have HR3 := Lib.hid t3
  clear t3
  have HT := Lib.hid hT
  have HZ := Lib.hid hZ
  have HA1 := Lib.hid ha1
  have HA2 := Lib.hid ha2
  clear hT hZ ha1 ha2
  have K := Lib.hid (show BxA w _ [⟨s1a, A1a, n1a, c1a⟩, ⟨s2a, A2a, n2a, c2a⟩] from (((BxA.new w).box (by simp) ⟨s1a, A1a, n1a, c1a⟩).box (by simp) ⟨s2a, A2a, n2a, c2a⟩))
  go_enter Tryd.func5, Tryd.ntmps5
  go_wp2_with fail
  refine (small_any _ (HT.out.on K.out.bl) (HZ.out.on K.out.bl)).mono ?_
  rintro e wa0 ⟨rfl, hb⟩
  have K0 := Lib.hid (K.out.call hb)
  clear hb K
  have zb := K0.out.bx 0 _ rfl
  have z0 := zb.c0
  have z1 := zb.c1
  clear zb
  simp only [Nat.add_zero] at z0 z1
  go_wp2_with fail
  refine (few_T _ t0).mono ?_
  rintro e wa1 ⟨rfl, hb⟩
  have K1 := Lib.hid (K0.out.call hb)
  clear hb z0 z1 K0
  have zb := K1.out.bx 1 _ rfl
  have z0 := zb.c0
  have z1 := zb.c1
  clear zb
  go_wp2_with fail
  refine (few_T _ t1).mono ?_
  rintro e wa2 ⟨rfl, hb⟩
  have K2 := Lib.hid (K1.out.call hb)
  clear hb z0 z1 K1
  have zb := K2.out.bx 0 _ rfl
  have z0 := zb.c0
  have z1 := zb.c1
  clear zb
  simp only [Nat.add_zero] at z0 z1
  go_wp2_with fail
  refine (right_is HA1.out (by dsimp only; omega) K2.out.bl HR2.out).mono ?_
  rintro e wa3 ⟨rfl, hb⟩
  have K3 := Lib.hid (K2.out.call hb)
  clear hb z0 z1 K2
  have zb := K3.out.bx 1 _ rfl
  have z0 := zb.c0
  have z1 := zb.c1
  clear zb
  go_wp2_with fail
  refine (right_is HA2.out (by dsimp only; omega) K3.out.bl HR3.out).mono ?_
  rintro e wa4 ⟨rfl, hb⟩
  have K4 := Lib.hid (K3.out.call hb)
  clear hb z0 z1 K3
  have S0 := Lib.hid (K4.out.st2 HX1.out HX2.out)
  clear K4 HX1 HA1 HX2 HA2 HT HZ HR2 HR3
  have T0 := Lib.hid (StB.mk S0.out.bl S0.out.bx)
  clear S0
  have Fa := T0.out.bx _ (List.mem_of_getElem? (i := 0) rfl)
  dsimp only at Fa
  have za0 := Fa.1.c0
  have za1 := Fa.1.c1
  have Ga := Lib.hid Fa.2
  clear Fa
  have Fb := T0.out.bx _ (List.mem_of_getElem? (i := 1) rfl)
  dsimp only at Fb
  have zb0 := Fb.1.c0
  have zb1 := Fb.1.c1
  have Gb := Lib.hid Fb.2
  clear Fb
  by_cases hz : x2 = 0
  · subst hz
    have hs2 : s2a = 0 := by rcases Gb.out.sign with ⟨-, h⟩ | ⟨-, h⟩ | ⟨h, -⟩ <;> omega
    subst hs2
    have M := Lib.hid (div_Z Ga.out Gb.out (by decide) (by decide) c1a c2a)
    go_wp2_with fail
    refine M.out.mono ?_
    rintro e w1 ⟨rfl, hb⟩
    have T1 := Lib.hid ((T0.out.call hb).box2 0 0 (Bg.nil w1 4) (Bg.nil w1 4))
    clear hb M T0 za0 za1 zb0 zb1 Ga Gb
    have Fb := T1.out.bx _ (List.mem_of_getElem? (i := 3) rfl)
    have Fr := T1.out.bx _ (List.mem_of_getElem? (i := 0) rfl)
    have Fq := T1.out.bx _ (List.mem_of_getElem? (i := 1) rfl)
    dsimp only at Fb Fr Fq
    have zb0 := Fb.1.c0
    have zq0 := Fq.1.c0
    have zq1 := Fq.1.c1
    have M := Lib.hid (same_B Fq.2 (Bg.nil _ 4) (by decide) (by decide) 0 0 (r := true) (by decide))
    clear Fb Fr Fq
    go_wp2_with fail
    refine M.out.mono ?_
    rintro e w2 ⟨rfl, hb⟩
    have T2 := Lib.hid (T1.out.call hb)
    clear hb M T1 zb0 zq0 zq1
    have Fr := T2.out.bx _ (List.mem_of_getElem? (i := 0) rfl)
    dsimp only at Fr
    have zr0 := Fr.1.c0
    have zr1 := Fr.1.c1
    have M := Lib.hid (same_B Fr.2 (Bg.nil _ 4) (by decide) (by decide) 0 0 (r := true) (by decide))
    clear Fr
    go_wp2_with fail
    refine M.out.mono ?_
    rintro e w3 ⟨rfl, hb⟩
    have T3 := Lib.hid (T2.out.call hb)
    clear hb M T2 zr0 zr1
    go_wp2_with fail
    go_ret
    exact ⟨rfl, T3.out.bl⟩
  have hsn : ¬ s2a = 0 := fun h => by rcases Gb.out.sign with ⟨a, -⟩ | ⟨a, -⟩ | ⟨-, a⟩ <;> omega
  have M := Lib.hid (div_F Ga.out Gb.out hz (by decide) (by decide) c1a c2a)
  have HZ2 := Lib.hid hz
  clear hz
  go_wp2_with fail
  refine M.out.mono ?_
  rintro e w1 ⟨q, r, s1, A1, n1, c1, s2, A2, n2, c2, rfl, hv, hq, hr, hb⟩
  have HV := Lib.hid hv
  have T1 := Lib.hid ((T0.out.call hb).box2 c1 c2 hq hr)
  clear hb M T0 za0 za1 zb0 zb1 Ga Gb hv hq hr
  have Fbb := T1.out.bx _ (List.mem_of_getElem? (i := 3) rfl)
  dsimp only at Fbb
  have zbs := Fbb.1.c0
  clear Fbb
  have Fq := T1.out.bx _ (List.mem_of_getElem? (i := 1) rfl)
  dsimp only at Fq
  have zq0 := Fq.1.c0
  have zq1 := Fq.1.c1
  have Gq := Lib.hid Fq.2
  clear Fq
  have Fb := T1.out.bx _ (List.mem_of_getElem? (i := 3) rfl)
  dsimp only at Fb
  have zb0 := Fb.1.c0
  have zb1 := Fb.1.c1
  have Gb := Lib.hid Fb.2
  clear Fb
  have M := Lib.hid (mul_F Gq.out Gb.out (by decide) (by decide) c1 c2a)
  go_wp2_with fail
  refine M.out.mono ?_
  rintro e w3 ⟨s3, A3, n3, c3, rfl, -, hg3, hf3, hb3⟩
  have S3 := Lib.hid (T1.out.made hb3 hg3 hf3 c3)
  clear hg3 hf3 hb3 M T1
  clear zq0 zq1 Gq zb0 zb1 Gb
  clear zbs
  have Fp := S3.out.bx _ (List.mem_of_getElem? (i := 0) rfl)
  dsimp only at Fp
  have zp0 := Fp.1.c0
  have zp1 := Fp.1.c1
  have Gp := Lib.hid Fp.2
  clear Fp
  have Fr := S3.out.bx _ (List.mem_of_getElem? (i := 1) rfl)
  dsimp only at Fr
  have zr0 := Fr.1.c0
  have zr1 := Fr.1.c1
  have Gr := Lib.hid Fr.2
  clear Fr
  have M := Lib.hid (add_F Gp.out Gr.out (by decide) (by decide) c3 c2)
  go_wp2_with fail
  refine M.out.mono ?_
  rintro e w4 ⟨s4, A4, n4, c4, rfl, -, hg4, hf4, hb4⟩
  have S4 := Lib.hid (S3.out.made hb4 hg4 hf4 c4)
  clear hg4 hf4 hb4 M S3
  clear zp0 zp1 Gp zr0 zr1 Gr
  have Fq := S4.out.bx _ (List.mem_of_getElem? (i := 3) rfl)
  dsimp only at Fq
  have zq0 := Fq.1.c0
  have zq1 := Fq.1.c1
  have Gq := Lib.hid Fq.2
  clear Fq
  have M := Lib.hid (right_B Gq.out (by decide) c1)
  go_wp2_with fail
  refine M.out.mono ?_
  rintro e w5 ⟨rfl, hb⟩
  have S5 := Lib.hid (S4.out.call hb)
  clear hb M S4
  clear zq0 zq1 Gq
  have Fr := S5.out.bx _ (List.mem_of_getElem? (i := 2) rfl)
  dsimp only at Fr
  have zr0 := Fr.1.c0
  have zr1 := Fr.1.c1
  have Gr := Lib.hid Fr.2
  clear Fr
  have M := Lib.hid (right_B Gr.out (by decide) c2)
  go_wp2_with fail
  refine M.out.mono ?_
  rintro e w6 ⟨rfl, hb⟩
  have S6 := Lib.hid (S5.out.call hb)
  clear hb M S5
  clear zr0 zr1 Gr
  have Fs := S6.out.bx _ (List.mem_of_getElem? (i := 0) rfl)
  dsimp only at Fs
  have zs0 := Fs.1.c0
  have zs1 := Fs.1.c1
  have Gs := Lib.hid Fs.2
  clear Fs
  have Fa := S6.out.bx _ (List.mem_of_getElem? (i := 4) rfl)
  dsimp only at Fa
  have za0 := Fa.1.c0
  have za1 := Fa.1.c1
  have Ga := Lib.hid Fa.2
  clear Fa
  have M := Lib.hid (same_B Gs.out Ga.out (by decide) (by decide) c4 c1a (r := true) (decide_eq_true (HV.out.1)))
  go_wp2_with fail
  refine M.out.mono ?_
  rintro e w7 ⟨rfl, hb7⟩
  have S7 := Lib.hid (S6.out.call hb7)
  clear hb7 M S6
  clear zs0 zs1 Gs za0 za1 Ga
  have Fr := S7.out.bx _ (List.mem_of_getElem? (i := 2) rfl)
  dsimp only at Fr
  have zr0 := Fr.1.c0
  have zr1 := Fr.1.c1
  have Gr := Lib.hid Fr.2
  clear Fr
  have Fb := S7.out.bx _ (List.mem_of_getElem? (i := 5) rfl)
  dsimp only at Fb
  have zb0 := Fb.1.c0
  have zb1 := Fb.1.c1
  have Gb := Lib.hid Fb.2
  clear Fb
  have hcs : (s2a = 1 ∧ ordZ r x2 = -1 ∧ (s2 = 0 ∨ s2 = 1)) ∨ (s2a = -1 ∧ ordZ r x2 = 1 ∧ (s2 = 0 ∨ s2 = -1)) := by
    obtain ⟨v1, v2, v3⟩ := HV.out
    have a := Gb.out.sign
    have c := Gr.out.sign
    rcases a with ⟨a, a2⟩ | ⟨a, a2⟩ | ⟨a, a2⟩
    · have := v2 a2
      exact .inl ⟨a, ordZ_to (by omega), by omega⟩
    · have := v3 a2
      exact .inr ⟨a, ordZ_to (by omega), by omega⟩
    · exact absurd a2 HZ2.out
  rcases hcs with ⟨rfl, ho, hs⟩ | ⟨rfl, ho, hs⟩
  · have M := Lib.hid (compare_B Gr.out Gb.out (by decide) (by decide) c2 c2a ho)
    clear ho hsn
    rcases hs with rfl | rfl
    all_goals
      go_wp2_with fail
      refine M.out.mono ?_
      rintro e w20 ⟨rfl, hb⟩
      have S20 := Lib.hid (S7.out.call hb)
      clear hb M S7 zr0 zr1 zb0 zb1 Gr Gb
      have Fr := S20.out.bx _ (List.mem_of_getElem? (i := 2) rfl)
      have Fb := S20.out.bx _ (List.mem_of_getElem? (i := 5) rfl)
      dsimp only at Fr Fb
      have zr0 := Fr.1.c0
      have zb0 := Fb.1.c0
      clear Fr Fb
      go_wp2_with fail
      go_ret
      exact ⟨rfl, S20.out.bl⟩
  · have M := Lib.hid (compare_B Gr.out Gb.out (by decide) (by decide) c2 c2a ho)
    have HO := Lib.hid ho
    clear ho hsn
    rcases hs with rfl | rfl
    all_goals
      go_wp2_with fail
      refine M.out.mono ?_
      rintro e w20 ⟨rfl, hb⟩
      have S20 := Lib.hid (S7.out.call hb)
      clear hb M S7 zr0 zr1 zb0 zb1 Gr Gb
      have Fr := S20.out.bx _ (List.mem_of_getElem? (i := 2) rfl)
      have Fb := S20.out.bx _ (List.mem_of_getElem? (i := 5) rfl)
      dsimp only at Fr Fb
      have zr0 := Fr.1.c0
      have zr1 := Fr.1.c1
      have zb0 := Fb.1.c0
      have zb1 := Fb.1.c1
      have M := Lib.hid (compare_B Fr.2 Fb.2 (by decide) (by decide) c2 c2a HO.out)
      clear Fr Fb
      go_wp2_with fail
      refine M.out.mono ?_
      rintro e w21 ⟨rfl, hb⟩
      have S21 := Lib.hid (S20.out.call hb)
      clear hb M S20 zr0 zr1 zb0 zb1
      have Fr := S21.out.bx _ (List.mem_of_getElem? (i := 2) rfl)
      have Fb := S21.out.bx _ (List.mem_of_getElem? (i := 5) rfl)
      dsimp only at Fr Fb
      have zr0 := Fr.1.c0
      have zb0 := Fb.1.c0
      clear Fr Fb
      go_wp2_with fail
      go_ret
      exact ⟨rfl, S21.out.bl⟩
theorem divides_walk (s1a : Int) (A1a : Option Addr) (n1a c1a : Nat) (l1a : List Int) (s2a : Int) (A2a : Option Addr) (n2a c2a : Nat) (l2a : List Int) (w : World) (ha1 : BigArg w ⟨s1a, A1a, n1a, c1a⟩ l1a) (ha2 : BigArg w ⟨s2a, A2a, n2a, c2a⟩ l2a) (hT : Tab w) (hZ : TabZ w) :
    Calls Tryd.prog 5 #[.agg #[.int .i64 s1a, .slice A1a n1a c1a], .agg #[.int .i64 s2a, .slice A2a n2a c2a]] w fun e w' => e = .returned (.bool true) ∧ Below w.heap.size w w' := by
  by_cases t0 : (n1a : Int) ≤ 40
  case neg => exact divides_e0 s1a A1a n1a c1a l1a s2a A2a n2a c2a l2a w ha1 ha2 hT hZ  (Int.not_le.1 t0)
  by_cases t1 : (n2a : Int) ≤ 40
  case neg => exact divides_e1 s1a A1a n1a c1a l1a s2a A2a n2a c2a l2a w ha1 ha2 hT hZ t0 (Int.not_le.1 t1)
  cases t2 : rightB s1a l1a
  case false => exact divides_e2 s1a A1a n1a c1a l1a s2a A2a n2a c2a l2a w ha1 ha2 hT hZ t0 t1 t2
  cases t3 : rightB s2a l2a
  case false => exact divides_e3 s1a A1a n1a c1a l1a s2a A2a n2a c2a l2a w ha1 ha2 hT hZ t0 t1 t2 t3
  exact divides_main s1a A1a n1a c1a l1a s2a A2a n2a c2a l2a w ha1 ha2 hT hZ t0 t1 t2 t3
end Go.Proofs.YtnadnobpejccpaaDoor
