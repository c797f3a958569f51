/- The walk of frac's shortened. Conditions: the bounds of an int; the denominator is positive. -/
import Derived.Test.YtikfjmdeeknalaaGreatDoorQ6
namespace Go.Proofs.YtikfjmdeeknalaaGreatDoor
set_option maxRecDepth 20000
open Go.RowKit

theorem fr_cells {w : World} {g : Nat} {t : TypeId} {a b c d : Value} (h : Blk w g t #[a, b, c, d]) : w.cell? ⟨g, 0, none⟩ = some a ∧ w.cell? ⟨g, 1, none⟩ = some b ∧ w.cell? ⟨g, 2, none⟩ = some c ∧ w.cell? ⟨g, 3, none⟩ = some d ∧
    w.frozen? ⟨g, 0, none⟩ = false ∧ w.frozen? ⟨g, 1, none⟩ = false ∧ w.frozen? ⟨g, 2, none⟩ = false ∧ w.frozen? ⟨g, 3, none⟩ = false :=
  ⟨h.cell 0, h.cell 1, h.cell 2, h.cell 3, h.frozen 0, h.frozen 1, h.frozen 2, h.frozen 3⟩
/-- The result's box of a fraction is filled. -/
theorem fr_end {w W w1 : World} {g k : Nat} {t : TypeId} {o1 o2 o3 o4 : Value} {p q : Int} {x : Rat} {s1 s2 : Int} {A1 A2 : Option Addr} {n1 n2 c1 c2 : Nat} (h : Blk w1 g t #[o1, o2, o3, o4]) (hg : w.heap.size ≤ g) (hW : g < W.heap.size) (hb : Below w.heap.size w w1)
    (b1 : Bg w1 k p s1 A1 n1) (b2 : Bg w1 k q s2 A2 n2) (f1 : Fresh W A1 n1) (f2 : Fresh W A2 n2) (hc1 : n1 ≤ c1) (hc2 : n2 ≤ c2) (hl : Low p q x) :
    ∃ wf, wf = (((w1.setCell ⟨g, 0, none⟩ (.int .i64 s1)).setCell ⟨g, 1, none⟩ (.slice A1 n1 c1)).setCell ⟨g, 2, none⟩ (.int .i64 s2)).setCell ⟨g, 3, none⟩ (.slice A2 n2 c2) ∧
      wf.cell? ⟨g, 0, none⟩ = some (.int .i64 s1) ∧ wf.cell? ⟨g, 1, none⟩ = some (.slice A1 n1 c1) ∧ wf.cell? ⟨g, 2, none⟩ = some (.int .i64 s2) ∧ wf.cell? ⟨g, 3, none⟩ = some (.slice A2 n2 c2) ∧
      FrEnd w k x (.returned (.agg #[.int .i64 s1, .slice A1 n1 c1, .int .i64 s2, .slice A2 n2 c2])) wf := by
  have K := (((h.set_ 0 (.int .i64 s1)).set_ 1 (.slice A1 n1 c1)).set_ 2 (.int .i64 s2)).set_ 3 (.slice A2 n2 c2)
  have gr := only_setCell (p := ⟨g, 3, none⟩) (only_setCell (p := ⟨g, 2, none⟩) (only_setCell (p := ⟨g, 1, none⟩) (only_setCell (p := ⟨g, 0, none⟩) (grown_refl w1 (some g)) (.inl rfl) (.int .i64 s1)) (.inl rfl) (.slice A1 n1 c1)) (.inl rfl) (.int .i64 s2)) (.inl rfl) (.slice A2 n2 c2)
  refine ⟨_, rfl, K.cell 0, K.cell 1, K.cell 2, K.cell 3, ⟨s1, A1, n1, c1, s2, A2, n2, c2⟩, rfl, hc1, hc2, ⟨?_, ?_⟩, fun hp ad e => Nat.le_trans (by omega) (f1 hp ad e), fun hp ad e => Nat.le_trans (by omega) (f2 hp ad e), ?_⟩
  · rw [hl.num]
    exact b1.apart gr (fun hp ad e => by have := f1 hp ad e; omega)
  · rw [hl.den]
    exact b2.apart gr (fun hp ad e => by have := f2 hp ad e; omega)
  · exact below_set (below_set (below_set (below_set hb hg _ _) hg _ _) hg _ _) hg _ _
theorem gcd_abs (p q : Int) : Nat.gcd p.natAbs q.natAbs = Int.gcd p q := rfl
set_option maxHeartbeats 4000000 in
theorem shortened_any (p q : Int) (z : Rat) (w : World) (p0 : -9223372036854775808 ≤ p) (p1 : p ≤ 9223372036854775807) (q0 : 0 < q) (q1 : q ≤ 9223372036854775807) (e : z.num * q = p * z.den) :
    Calls Tryz.prog 211 #[.int .i64 p, .int .i64 q] w (FrEnd w 4 z) := by
  have S1 := Lib.hid (fun w => size_any p w p0 p1)
  have S2 := Lib.hid (fun w => size_any q w (by omega) q1)
  have D := Lib.hid (fun w => div64_any p.natAbs q.natAbs w (by omega) (by omega))
  obtain ⟨g, hg⟩ : ∃ g : Int, ((Int.gcd p q : Nat) : Int) = g := ⟨_, rfl⟩
  rw [gcd_abs] at D
  rw [hg] at D
  have HL := Lib.hid (ratio_low q0 hg e)
  have hg0 : 0 < g := by
    have : 0 < Int.gcd p q := Int.gcd_pos_of_ne_zero_right _ (by omega)
    omega
  have hgq : g ≤ q := by
    have : Int.gcd p q ∣ q.natAbs := Nat.gcd_dvd_right _ _
    have := Nat.le_of_dvd (by omega) this
    omega
  have hd1 : g ∣ p := by rw [← hg]; exact Int.gcd_dvd_left ..
  have hd2 : g ∣ q := by rw [← hg]; exact Int.gcd_dvd_right ..
  obtain ⟨P, hP⟩ : ∃ P : Int, ((p.natAbs : Nat) : Int) = P := ⟨_, rfl⟩
  obtain ⟨Q, hQ⟩ : ∃ P : Int, ((q.natAbs : Nat) : Int) = P := ⟨_, rfl⟩
  rw [hP] at S1 D
  rw [hQ] at S2 D
  obtain ⟨X, hX⟩ : ∃ X, X = p / g := ⟨_, rfl⟩
  obtain ⟨Y, hY⟩ : ∃ Y, Y = q / g := ⟨_, rfl⟩
  rw [← hX, ← hY] at HL
  have hXp : X * g = p := by rw [hX]; exact Int.ediv_mul_cancel hd1
  have hYq : Y * g = q := by rw [hY]; exact Int.ediv_mul_cancel hd2
  have hX0 : X.natAbs ≤ p.natAbs := by rw [← hXp, Int.natAbs_mul]; exact Nat.le_mul_of_pos_right _ (by omega)
  have hY0 : Y.natAbs ≤ q.natAbs := by rw [← hYq, Int.natAbs_mul]; exact Nat.le_mul_of_pos_right _ (by omega)
  have hXb : -9223372036854775808 ≤ X ∧ X ≤ 9223372036854775807 := by
    refine ⟨by omega, ?_⟩
    rcases Int.lt_or_le X 9223372036854775808 with h | h
    · omega
    · have h1 : X ≤ X * g := by
        have := Int.mul_le_mul_of_nonneg_left (show 1 ≤ g by omega) (show 0 ≤ X by omega)
        omega
      omega
  have d1 : IntKind.i64.wrap (p.tdiv g) = X := by rw [hX, Int.tdiv_eq_ediv_of_dvd hd1, ← hX]; exact IntWalk.i64_in _ (by omega)
  have d2 : IntKind.i64.wrap (q.tdiv g) = Y := by rw [hY, Int.tdiv_eq_ediv_of_dvd hd2, ← hY]; exact IntWalk.i64_in _ (by omega)
  have d3 : IntKind.i64.wrap g = g := IntWalk.i64_in _ (by omega)
  have O1 := Lib.hid (fun w => of_F X w hXb.1 hXb.2)
  have O2 := Lib.hid (fun w => of_F Y w (by omega) (by omega))
  have KB : Hid (Blk (w.alloc (.cells #[.int .i64 0, .slice none 0 0, .int .i64 0, .slice none 0 0] 43)) w.heap.size 43 #[.int .i64 0, .slice none 0 0, .int .i64 0, .slice none 0 0]) := Blk.new w _ _
  have hg1 : ¬ g = 0 := by omega
  clear e hg hgq hd1 hd2 hP hQ hX hY hXp hYq hX0 hY0 hXb
  have D1 := Lib.hid d1
  have D2 := Lib.hid d2
  clear d1 d2
  go_enter Tryz.func211, Tryz.ntmps211
  go_wp2_with fail
  refine (S1.out _).mono ?_
  rintro e w_ ⟨rfl, rfl⟩
  go_wp2_with fail
  refine (S2.out _).mono ?_
  rintro e w_ ⟨rfl, rfl⟩
  go_wp2_with fail
  refine (D.out _).mono ?_
  rintro e w_ ⟨rfl, d, rfl⟩
  go_wp2_with fail
  have d1 := D1.out
  have d2 := D2.out
  obtain ⟨W1, hW1⟩ : ∃ W1, W1 = w.alloc (.cells #[.int .i64 0, .slice none 0 0, .int .i64 0, .slice none 0 0] 43) := ⟨_, rfl⟩
  rw [← hW1] at KB ⊢
  have HW : Hid (Below w.heap.size w W1) := by show Below _ _ _; rw [hW1]; exact (Below.refl _ _).alloc (Nat.le_refl _) _
  have HWs : Hid (w.heap.size < W1.heap.size) := by show _ < _; rw [hW1]; simp
  clear hW1
  go_region_held3 (fun _ => True) (exact trivial)
    (first | (go_at_call_of 39 (Value.int .i64 X); refine (O1.out _).mono ?_; rintro e w7 ⟨s1, A1, n1, c1, rfl, hc, hg, hf, hb⟩; have HC1 := Lib.hid hc; have HG1 := Lib.hid hg; have HF1 : Hid (Fresh W1 A1 n1) := hf; have HB7 : Hid (Below W1.heap.size W1 w7) := (below_drewN (Below.refl W1.heap.size W1) _).trans hb; clear hc hg hf hb) | (go_at_call_of 39 (Value.int .i64 Y); refine (O2.out _).mono ?_; rintro e w8 ⟨s2, A2, n2, c2, rfl, hc, hg, hf, hb⟩; have HC2 := Lib.hid hc; have HG2 := Lib.hid hg; have HF2 := Lib.hid hf; have HB8 := Lib.hid hb; clear hc hg hf hb; have KB8 := Lib.hid ((KB.out.below HB7.out KB.out.lt).below HB8.out (KB.out.below HB7.out KB.out.lt).lt); obtain ⟨k0, k1, k2, k3, q0, q1, q2, q3⟩ := fr_cells KB8.out))
  have HB : Hid (Below w.heap.size w _) := HW.out.trans ((HB7.out.trans (HB8.out.mono HB7.out.size)).mono (Nat.le_of_lt HWs.out))
  obtain ⟨wf, hwf, r0, r1, r2, r3, kE⟩ := fr_end KB8.out (Nat.le_refl _) HWs.out HB.out (HG1.out.past HB8.out) HG2.out HF1.out (fun hp ad e => Nat.le_trans HB7.out.size (HF2.out hp ad e)) HC1.out HC2.out HL.out
  go_wp2_with fail
  rw [← hwf]
  clear hwf
  exact bodyPost_ret (v := .agg #[.int .i64 s1, .slice A1 n1 c1, .int .i64 s2, .slice A2 n2 c2]) (by simp [results, Tryz.results211, go_sem, r0, r1, r2, r3]) rfl kE
end Go.Proofs.YtikfjmdeeknalaaGreatDoor

/- The walk of frac's smallPair where all four parts are ints. Conditions: sizes. -/
namespace Go.Proofs.YtikfjmdeeknalaaGreatDoor
set_option maxRecDepth 20000
open Go.RowKit

/-- What smallPair says of its ints. -/
def fitP (a b c d : Int) (u v : Bool) : Bool := u && v && decide (bitsP a b + bitsP c d ≤ 62)
/-- Two boxes whose cells are stored again as they were. -/
theorem pair_kept {w : World} {g h : Nat} {t : TypeId} {a b c d : Value} (K : Blk w g t #[a, b]) (J : Blk w h t #[c, d]) (hne : g ≠ h) :
    Blk ((w.setCell ⟨g, 0, none⟩ a).setCell ⟨g, 1, none⟩ b) g t #[a, b] ∧ Blk ((w.setCell ⟨g, 0, none⟩ a).setCell ⟨g, 1, none⟩ b) h t #[c, d] := by
  have K2 := (K.set_ 0 a).set_ 1 b
  exact ⟨by simpa using K2, (J.far (p := ⟨g, 0, none⟩) (fun e => hne e.symm) a).far (p := ⟨g, 1, none⟩) (fun e => hne e.symm) b⟩
theorem pair1 {w : World} {g h : Nat} {t : TypeId} {a b c d : Value} (K : Blk w g t #[a, b]) (J : Blk w h t #[c, d]) (hne : g ≠ h) :
    ((w.setCell ⟨g, 0, none⟩ a).setCell ⟨g, 1, none⟩ b).cell? ⟨g, 0, none⟩ = some a ∧ ((w.setCell ⟨g, 0, none⟩ a).setCell ⟨g, 1, none⟩ b).cell? ⟨g, 1, none⟩ = some b ∧
    ((w.setCell ⟨g, 0, none⟩ a).setCell ⟨g, 1, none⟩ b).cell? ⟨h, 0, none⟩ = some c ∧ ((w.setCell ⟨g, 0, none⟩ a).setCell ⟨g, 1, none⟩ b).cell? ⟨h, 1, none⟩ = some d :=
  have P := pair_kept K J hne
  ⟨P.1.cell 0, P.1.cell 1, P.2.cell 0, P.2.cell 1⟩
theorem pair2 {w : World} {g h : Nat} {t : TypeId} {a b c d : Value} (K : Blk w g t #[a, b]) (J : Blk w h t #[c, d]) (hne : g ≠ h) :
    ((((w.setCell ⟨g, 0, none⟩ a).setCell ⟨g, 1, none⟩ b).setCell ⟨h, 0, none⟩ c).setCell ⟨h, 1, none⟩ d).cell? ⟨g, 0, none⟩ = some a ∧ ((((w.setCell ⟨g, 0, none⟩ a).setCell ⟨g, 1, none⟩ b).setCell ⟨h, 0, none⟩ c).setCell ⟨h, 1, none⟩ d).cell? ⟨g, 1, none⟩ = some b ∧
    ((((w.setCell ⟨g, 0, none⟩ a).setCell ⟨g, 1, none⟩ b).setCell ⟨h, 0, none⟩ c).setCell ⟨h, 1, none⟩ d).cell? ⟨h, 0, none⟩ = some c ∧ ((((w.setCell ⟨g, 0, none⟩ a).setCell ⟨g, 1, none⟩ b).setCell ⟨h, 0, none⟩ c).setCell ⟨h, 1, none⟩ d).cell? ⟨h, 1, none⟩ = some d :=
  have P := pair_kept K J hne
  have Q := pair_kept P.2 P.1 (fun e => hne e.symm)
  ⟨Q.2.cell 0, Q.2.cell 1, Q.1.cell 0, Q.1.cell 1⟩
set_option maxHeartbeats 16000000 in
theorem smallPair_ints {w : World} {j k j2 k2 : Nat} {p q p2 q2 : Int} (r r2 : FrR) (h1 : Bg w j p r.s1 r.A1 r.n1) (h2 : Bg w k q r.s2 r.A2 r.n2) (h3 : Bg w j2 p2 r2.s1 r2.A1 r2.n1) (h4 : Bg w k2 q2 r2.s2 r2.A2 r2.n2)
    (hj : j ≤ 1048576) (hk : k ≤ 1048576) (hj2 : j2 ≤ 1048576) (hk2 : k2 ≤ 1048576) {a b c d : Int} (ea : intP p = (a, true)) (eb : intP q = (b, true)) (ec : intP p2 = (c, true)) (ed : intP q2 = (d, true))
    (ab : -9223372036854775808 ≤ a ∧ a ≤ 9223372036854775807) (bb : -9223372036854775808 ≤ b ∧ b ≤ 9223372036854775807) (cb : -9223372036854775808 ≤ c ∧ c ≤ 9223372036854775807) (db : -9223372036854775808 ≤ d ∧ d ≤ 9223372036854775807) :
    Calls Tryz.prog 210 #[frV r, frV r2] w fun e w' => e = .returned (.tuple #[.agg #[.int .i64 a, .int .i64 b], .agg #[.int .i64 c, .int .i64 d], .bool (fitP a b c d true true)]) ∧ Below w.heap.size w w' := by
  obtain ⟨W0, hW0⟩ : ∃ W0, W0 = (((w.alloc (.cells (frC r) 43)).alloc (.cells (frC r2) 43)).alloc (.cells #[.int .i64 0, .int .i64 0] 135)).alloc (.cells #[.int .i64 0, .int .i64 0] 135) := ⟨_, rfl⟩
  have K0 : Hid (Below w.heap.size w W0) := by
    show Below _ _ _
    rw [hW0]
    exact ((((Below.refl _ _).alloc (Nat.le_refl _) _).alloc (by simp) _).alloc (by simp; omega) _).alloc (by simp; omega) _
  have KA : Hid (Blk W0 w.heap.size 43 (frC r)) := by
    show Blk _ _ _ _
    rw [hW0]
    exact (((Blk.new w _ _).alloc _).alloc _).alloc _
  have KB : Hid (Blk W0 (w.heap.size + 1) 43 (frC r2)) := by
    show Blk _ _ _ _
    rw [hW0]
    have := ((Blk.new (w.alloc (.cells (frC r) 43)) 43 (frC r2)).alloc (.cells #[.int .i64 0, .int .i64 0] 135)).alloc (.cells #[.int .i64 0, .int .i64 0] 135)
    simpa using this
  have KX : Hid (Blk W0 (w.heap.size + 1 + 1) 135 #[.int .i64 0, .int .i64 0]) := by
    show Blk _ _ _ _
    rw [hW0]
    have := (Blk.new ((w.alloc (.cells (frC r) 43)).alloc (.cells (frC r2) 43)) 135 #[.int .i64 0, .int .i64 0]).alloc (.cells #[.int .i64 0, .int .i64 0] 135)
    simpa using this
  have KY : Hid (Blk W0 (w.heap.size + 1 + 1 + 1) 135 #[.int .i64 0, .int .i64 0]) := by
    show Blk _ _ _ _
    rw [hW0]
    have := Blk.new (((w.alloc (.cells (frC r) 43)).alloc (.cells (frC r2) 43)).alloc (.cells #[.int .i64 0, .int .i64 0] 135)) 135 #[.int .i64 0, .int .i64 0]
    simpa using this
  have M1 := Lib.hid (fun W (hb : Below w.heap.size w W) => smallOf_any r (h1.past hb) (h2.past hb) hj hk ea eb)
  have M2 := Lib.hid (fun W (hb : Below w.heap.size w W) => smallOf_any r2 (h3.past hb) (h4.past hb) hj2 hk2 ec ed)
  clear h1 h2 h3 h4 ea eb ec ed hj hk hj2 hk2
  simp only [Bool.and_self] at M1 M2
  obtain ⟨s1, A1, n1, c1, s2, A2, n2, c2⟩ := r
  obtain ⟨s3, A3, n3, c3, s4, A4, n4, c4⟩ := r2
  dsimp only [frV, frC] at *
  obtain ⟨ka0, ka1, ka2, ka3, -, -, -, -⟩ := fr_cells KA.out
  go_enter Tryz.func210, Tryz.ntmps210
  go_wp2_with fail
  rw [← hW0]
  clear hW0
  go_wp2_with fail
  refine (M1.out _ K0.out).mono ?_
  rintro e w1 ⟨rfl, hb⟩
  have B1 : Hid (Below w.heap.size w w1) := K0.out.trans (hb.mono K0.out.size)
  have KB1 := Lib.hid (KB.out.below hb KB.out.lt)
  have KX1 := Lib.hid (KX.out.below hb KX.out.lt)
  have KY1 := Lib.hid (KY.out.below hb KY.out.lt)
  obtain ⟨kb0, kb1, kb2, kb3, -, -, -, -⟩ := fr_cells KB1.out
  obtain ⟨kx0, kx1, kx2, kx3⟩ := sm_cells KX1.out
  clear hb KA KB KX KY K0 ka0 ka1 ka2 ka3 M1
  go_wp2_with fail
  obtain ⟨w2, hw2, -, -, kx, kbd⟩ := sm_end KX1.out (.int .i64 a) (.int .i64 b)
  have B2 : Hid (Below w.heap.size w w2) := kbd B1.out (by omega)
  have KX2 := Lib.hid kx
  have KY2 : Hid (Blk w2 (w.heap.size + 1 + 1 + 1) 135 #[.int .i64 0, .int .i64 0]) := by
    show Blk _ _ _ _
    rw [hw2]
    exact (KY1.out.far (p := ⟨w.heap.size + 1 + 1, 0, none⟩) (by simp) _).far (p := ⟨w.heap.size + 1 + 1, 1, none⟩) (by simp) _
  rw [← hw2]
  clear hw2 kx kbd kb0 kb1 kb2 kb3 kx0 kx1 kx2 kx3 KB1 KX1 KY1 B1
  refine (M2.out _ B2.out).mono ?_
  rintro e w3 ⟨rfl, hb⟩
  have B3 : Hid (Below w.heap.size w w3) := B2.out.trans (hb.mono B2.out.size)
  have KX3 := Lib.hid (KX2.out.below hb KX2.out.lt)
  have KY3 := Lib.hid (KY2.out.below hb KY2.out.lt)
  obtain ⟨kx0, kx1, kx2, kx3⟩ := sm_cells KX3.out
  obtain ⟨ky0, ky1, ky2, ky3⟩ := sm_cells KY3.out
  clear hb KX2 KY2 B2 M2
  go_wp2_with fail
  obtain ⟨w4, hw4, ky4, ky5, ky, kbd⟩ := sm_end KY3.out (.int .i64 c) (.int .i64 d)
  have B4 : Hid (Below w.heap.size w w4) := kbd B3.out (by omega)
  have KX4 : Hid (Blk w4 (w.heap.size + 1 + 1) 135 #[.int .i64 a, .int .i64 b]) := by
    show Blk _ _ _ _
    rw [hw4]
    exact (KX3.out.far (p := ⟨w.heap.size + 1 + 1 + 1, 0, none⟩) (by simp) _).far (p := ⟨w.heap.size + 1 + 1 + 1, 1, none⟩) (by simp) _
  have KY4 := Lib.hid ky
  rw [← hw4]
  clear hw4 ky kbd kx0 kx1 kx2 kx3 ky0 ky1 ky2 ky3 KX3 KY3 B3
  obtain ⟨kx0, kx1, kx2, kx3⟩ := sm_cells KX4.out
  obtain ⟨ky0, ky1, ky2, ky3⟩ := sm_cells KY4.out
  clear ky4 ky5
  have c1 := Lib.hid (fun w => bits_any a b w ab.1 ab.2 bb.1 bb.2)
  have c2 := Lib.hid (fun w => bits_any c d w cb.1 cb.2 db.1 db.2)
  have hn1 : bitsP a b ≤ 64 := Lib.bitLen_le _ 64 (Nat.le_refl _) (Nat.or_lt_two_pow (by omega) (by omega))
  have hn2 : bitsP c d ≤ 64 := Lib.bitLen_le _ 64 (Nat.le_refl _) (Nat.or_lt_two_pow (by omega) (by omega))
  have hf : Hid (fitP a b c d true true = decide (((bitsP a b : Nat) : Int) + ((bitsP c d : Nat) : Int) ≤ 62)) := by
    show _ = _
    unfold fitP
    rw [Bool.and_self, Bool.true_and]
    exact decide_eq_decide.2 (by omega)
  obtain ⟨N1, hN1⟩ : ∃ N : Int, ((bitsP a b : Nat) : Int) = N := ⟨_, rfl⟩
  obtain ⟨N2, hN2⟩ : ∃ N : Int, ((bitsP c d : Nat) : Int) = N := ⟨_, rfl⟩
  rw [hN1] at c1
  rw [hN2] at c2
  rw [hN1, hN2] at hf
  have hs : IntKind.i64.wrap (N1 + N2) = N1 + N2 := IntWalk.i64_in _ (by omega)
  clear hn1 hn2 hN1 hN2 ab bb cb db
  have ne12 : Hid (w.heap.size + 1 + 1 ≠ w.heap.size + 1 + 1 + 1) := by show _ ≠ _; omega
  go_region_held3 (fun w' => w'.cell? ⟨w.heap.size + 1 + 1, 0, none⟩ = some (.int .i64 a) ∧ w'.cell? ⟨w.heap.size + 1 + 1, 1, none⟩ = some (.int .i64 b) ∧ w'.cell? ⟨w.heap.size + 1 + 1 + 1, 0, none⟩ = some (.int .i64 c) ∧ w'.cell? ⟨w.heap.size + 1 + 1 + 1, 1, none⟩ = some (.int .i64 d))
    (first | with_reducible exact pair2 KX6.out KY6.out ne12.out | with_reducible exact pair1 KX6.out KY6.out ne12.out | with_reducible exact ⟨y0, y1, y4, y5⟩ | with_reducible exact ⟨x0, x1, x4, x5⟩ | exact ⟨kx0, kx1, ky0, ky1⟩)
    (first | (go_at_call_of 243 (Value.agg #[.int .i64 a, .int .i64 b]); refine (c1.out _).mono ?_; rintro e w5 ⟨rfl, hb⟩; have B5 : Hid (Below w.heap.size w w5) := (below_drewN B4.out _).trans (hb.mono B4.out.size); have KX5 := Lib.hid ((KX4.out.drewN _).below hb KX4.out.lt); have KY5 := Lib.hid ((KY4.out.drewN _).below hb KY4.out.lt); obtain ⟨x0, x1, x2, x3⟩ := sm_cells KX5.out; obtain ⟨x4, x5, x6, x7⟩ := sm_cells KY5.out; clear hb) | (go_at_call_of 243 (Value.agg #[.int .i64 c, .int .i64 d]); refine (c2.out _).mono ?_; rintro e w6 ⟨rfl, hb⟩; have B6 := Lib.hid (B5.out.trans (hb.mono B5.out.size)); have KX6 := Lib.hid (KX5.out.below hb KX5.out.lt); have KY6 := Lib.hid (KY5.out.below hb KY5.out.lt); obtain ⟨y0, y1, y2, y3⟩ := sm_cells KX6.out; obtain ⟨y4, y5, y6, y7⟩ := sm_cells KY6.out; clear hb))
  go_wp2_with fail
  obtain ⟨z0, z1, z2, z3⟩ := pair2 KX6.out KY6.out ne12.out
  exact bodyPost_ret (v := .tuple #[.agg #[.int .i64 a, .int .i64 b], .agg #[.int .i64 c, .int .i64 d], .bool (decide (N1 + N2 ≤ 62))]) (by simp [results, Tryz.results210, go_sem, z0, z1, z2, z3]) rfl
    ⟨by rw [hf.out], below_set (below_set (below_set (below_set B6.out (by omega) _ _) (by omega) _ _) (by omega) _ _) (by omega) _ _⟩
end Go.Proofs.YtikfjmdeeknalaaGreatDoor
