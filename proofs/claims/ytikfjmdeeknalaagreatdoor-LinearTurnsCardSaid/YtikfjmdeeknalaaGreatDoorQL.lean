/- The walks of frac's New, Of, Int, Neg, Sign, Compare, Min, Max and Floor. Conditions: sizes; the table of math/bits as its text lays it. -/
import Derived.Test.YtikfjmdeeknalaaGreatDoorQI
import Derived.Deep.DeepCutAuto
namespace Go.Proofs.YtikfjmdeeknalaaGreatDoor
set_option maxRecDepth 20000
open Go.RowKit

theorem floor_exact_ne {x g z : Int} (hg : g ≠ 0) (e : x = g * z) : ∀ q' r, FloorP x g q' r → q' = z := by
  rcases Int.lt_or_gt_of_ne hg with h | h
  · intro q' r hf
    obtain ⟨h1, -, h3⟩ := hf
    have h4 := h3 h
    have e2 : r = g * (z - q') := by grind
    have h5 : z - q' = 0 := by
      rcases Int.lt_trichotomy (z - q') 0 with h | h | h
      · have := Int.mul_le_mul_of_nonneg_left (show 1 ≤ -(z - q') by omega) (show 0 ≤ -g by omega)
        have e3 : -g * -(z - q') = g * (z - q') := Int.neg_mul_neg _ _
        omega
      · exact h
      · have := Int.mul_le_mul_of_nonneg_left (show 1 ≤ z - q' by omega) (show 0 ≤ -g by omega)
        have e3 : -g * (z - q') = -(g * (z - q')) := Int.neg_mul _ _
        omega
    omega
  · exact floor_exact h e
/-- The fraction of two integers. -/
def ratio (p q : Int) : Rat := Rat.divInt p q
/-- Its parts, by the divisor with the sign of the denominator. -/
theorem ratio_parts {p q : Int} (hq : q ≠ 0) : ∃ g, g ≠ 0 ∧ ((0 < q ∧ g = ((Int.gcd p q : Nat) : Int)) ∨ (q < 0 ∧ g = -((Int.gcd p q : Nat) : Int))) ∧ p = g * (ratio p q).num ∧ q = g * ((ratio p q).den : Int) := by
  have key : ∀ {p q : Int}, 0 < q → p = ((Int.gcd p q : Nat) : Int) * (ratio p q).num ∧ q = ((Int.gcd p q : Nat) : Int) * ((ratio p q).den : Int) ∧ 0 < Int.gcd p q := by
    intro p q hq
    have h0 : 0 < Int.gcd p q := Int.gcd_pos_of_ne_zero_right _ (by omega)
    have e : (ratio p q).num * q = p * ((ratio p q).den : Int) := by
      have h := Rat.num_divInt_den (ratio p q)
      exact (Rat.divInt_eq_divInt_iff (by have := (ratio p q).den_pos; omega) (by omega)).1 h
    have hl := ratio_low hq rfl e
    have d1 : ((Int.gcd p q : Nat) : Int) ∣ p := Int.gcd_dvd_left ..
    have d2 : ((Int.gcd p q : Nat) : Int) ∣ q := Int.gcd_dvd_right ..
    refine ⟨?_, ?_, h0⟩
    · rw [hl.num]; exact (Int.mul_ediv_cancel' d1).symm
    · rw [hl.den]; exact (Int.mul_ediv_cancel' d2).symm
  rcases Int.lt_or_gt_of_ne hq with h | h
  · have e : ratio p q = ratio (-p) (-q) := by unfold ratio; rw [Rat.neg_divInt_neg]
    obtain ⟨k1, k2, k3⟩ := key (p := -p) (q := -q) (by omega)
    rw [Int.gcd_neg, Int.neg_gcd] at k1 k2 k3
    rw [← e] at k1 k2
    refine ⟨-((Int.gcd p q : Nat) : Int), by omega, .inr ⟨h, rfl⟩, ?_, ?_⟩
    · rw [Int.neg_mul]; omega
    · rw [Int.neg_mul]; omega
  · obtain ⟨k1, k2, k3⟩ := key (p := p) (q := q) h
    exact ⟨_, by omega, .inl ⟨h, rfl⟩, k1, k2⟩
theorem sz_part {k : Nat} {p g z : Int} (h : Sz k p) (hg : g ≠ 0) (e : p = g * z) : Sz k z := by
  refine h.of_le ?_
  rw [e, Int.natAbs_mul]
  exact Nat.le_mul_of_pos_left _ (by omega)
/-- The box of a fraction, and that of the result. -/
structure UnoF (w W : World) (r : FrR) : Prop where
  k1 : Blk W w.heap.size 43 (frC r)
  k3 : Blk W (w.heap.size + 1) 43 #[.int .i64 0, .slice none 0 0, .int .i64 0, .slice none 0 0]
  bl : Below w.heap.size w W
theorem UnoF.new (w : World) (r : FrR) : UnoF w ((w.alloc (.cells (frC r) 43)).alloc (.cells #[.int .i64 0, .slice none 0 0, .int .i64 0, .slice none 0 0] 43)) r :=
  ⟨(Blk.new w _ _).alloc _, Blk.new_ (by simp), ((Below.refl _ _).alloc (Nat.le_refl _) _).alloc (by simp) _⟩
theorem UnoF.call {w W W' : World} {r : FrR} (h : UnoF w W r) (hb : Below W.heap.size W W') : UnoF w W' r :=
  ⟨h.k1.below hb h.k1.lt, h.k3.below hb h.k3.lt, h.bl.trans (hb.mono h.bl.size)⟩
theorem UnoF.cells {w W : World} {r : FrR} (h : UnoF w W r) : W.cell? ⟨w.heap.size, 0, none⟩ = some (.int .i64 r.s1) ∧ W.cell? ⟨w.heap.size, 1, none⟩ = some (.slice r.A1 r.n1 r.c1) ∧ W.cell? ⟨w.heap.size, 2, none⟩ = some (.int .i64 r.s2) ∧ W.cell? ⟨w.heap.size, 3, none⟩ = some (.slice r.A2 r.n2 r.c2) :=
  ⟨h.k1.cell 0, h.k1.cell 1, h.k1.cell 2, h.k1.cell 3⟩
/-- The boxes of two integers, and that of the result, a fraction. -/
structure NewF (w W : World) (r : FrR) : Prop where
  k1 : Blk W w.heap.size 24 #[.int .i64 r.s1, .slice r.A1 r.n1 r.c1]
  k2 : Blk W (w.heap.size + 1) 24 #[.int .i64 r.s2, .slice r.A2 r.n2 r.c2]
  k3 : Blk W (w.heap.size + 1 + 1) 43 #[.int .i64 0, .slice none 0 0, .int .i64 0, .slice none 0 0]
  bl : Below w.heap.size w W
theorem NewF.new (w : World) (r : FrR) : NewF w (((w.alloc (.cells #[.int .i64 r.s1, .slice r.A1 r.n1 r.c1] 24)).alloc (.cells #[.int .i64 r.s2, .slice r.A2 r.n2 r.c2] 24)).alloc (.cells #[.int .i64 0, .slice none 0 0, .int .i64 0, .slice none 0 0] 43)) r :=
  ⟨((Blk.new w _ _).alloc _).alloc _, (Blk.new_ (by simp)).alloc _, Blk.new_ (by simp), (((Below.refl _ _).alloc (Nat.le_refl _) _).alloc (by simp) _).alloc (by simp; omega) _⟩
theorem NewF.call {w W W' : World} {r : FrR} (h : NewF w W r) (hb : Below W.heap.size W W') : NewF w W' r :=
  ⟨h.k1.below hb h.k1.lt, h.k2.below hb h.k2.lt, h.k3.below hb h.k3.lt, h.bl.trans (hb.mono h.bl.size)⟩
section
variable {w : World} {k : Nat} {x y : Rat}
theorem cast_low (n : Int) : Low n 1 ((n : Int) : Rat) := ⟨rfl, rfl⟩
set_option maxHeartbeats 4000000 in
theorem int_R (n : Int) (w : World) (h0 : -9223372036854775808 ≤ n) (h1 : n ≤ 9223372036854775807) :
    Calls Tryz.prog 71 #[.int .i64 n] w (FrEnd w 4 (n : Rat)) := by
  obtain ⟨W, hW⟩ : ∃ W, W = w.alloc (.cells #[.int .i64 0, .slice none 0 0, .int .i64 0, .slice none 0 0] 43) := ⟨_, rfl⟩
  have HB : Hid (Below w.heap.size w W) := by show Below _ _ _; rw [hW]; exact bal (Below.refl _ _)
  have K : Hid (Blk W w.heap.size 43 #[.int .i64 0, .slice none 0 0, .int .i64 0, .slice none 0 0]) := by show Blk _ _ _ _; rw [hW]; exact Blk.new _ _ _
  have O1 := Lib.hid (of_F n W h0 h1)
  have O2 := Lib.hid (fun w => of_F 1 w (by decide) (by decide))
  clear h0 h1
  go_enter Tryz.func71, Tryz.ntmps71
  go_wp2_with fail
  rw [← hW]
  clear hW
  refine O1.out.mono ?_
  rintro e w1 ⟨s1, A1, n1, c1, rfl, hc1, hg1, hf1, hb⟩
  have B1 := Lib.hid (HB.out.trans (hb.mono HB.out.size))
  have X1 := Lib.hid hb
  have K1 := Lib.hid (K.out.below hb K.out.lt)
  have G1 := Lib.hid hg1
  have F1 := Lib.hid hf1
  have C1 := Lib.hid hc1
  clear hc1 hg1 hf1 hb O1
  go_wp2_with fail
  refine (O2.out _).mono ?_
  rintro e w2 ⟨s2, A2, n2, c2, rfl, hc2, hg2, hf2, hb⟩
  have B2 := Lib.hid (B1.out.trans (hb.mono B1.out.size))
  have K2 := Lib.hid (K1.out.below hb K1.out.lt)
  obtain ⟨kr0, kr1, kr2, kr3, q0, q1, q2, q3⟩ := fr_cells K2.out
  obtain ⟨wf, hwf, r0, r1, r2, r3, kE⟩ := fr_end K2.out (Nat.le_refl _) K.out.lt B2.out (G1.out.past hb) hg2 F1.out (fun hp ad e => Nat.le_trans X1.out.size (hf2 hp ad e)) C1.out hc2 (cast_low n)
  have HE := Lib.hid kE
  clear kE hc2 hg2 hf2 hb
  go_wp2_with fail
  rw [← hwf]
  clear hwf
  exact bodyPost_ret (v := .agg #[.int .i64 s1, .slice A1 n1 c1, .int .i64 s2, .slice A2 n2 c2]) (by simp [results, Tryz.results71, go_sem, r0, r1, r2, r3]) rfl HE.out
set_option maxHeartbeats 4000000 in
theorem sign_R (r : FrR) (h1 : Fg w k x r) (hT : TabZ w) (hk : k ≤ 100000) {o : Int} (ho : sgnR x = o) :
    Calls Tryz.prog 69 #[frV r] w fun e w' => e = .returned (.int .i64 o) ∧ Below w.heap.size w w' := by
  have HB : Hid (Below w.heap.size w (w.alloc (.cells (frC r) 43))) := (Below.refl _ _).alloc (Nat.le_refl _) _
  have KA : Hid (Blk (w.alloc (.cells (frC r) 43)) w.heap.size 43 (frC r)) := Blk.new w _ _
  have R1 := Lib.hid (right_T r (h1.past HB.out) (hT.on HB.out) (by omega))
  have HE : Hid (r.s1 = o) := h1.1.sgn.trans ho
  obtain ⟨s1, A1, n1, c1, s2, A2, n2, c2⟩ := r
  dsimp only [frV, frC] at *
  clear h1 hT ho
  go_enter Tryz.func69, Tryz.ntmps69
  go_wp2_with fail
  refine R1.out.mono ?_
  rintro e w1 ⟨rfl, hb⟩
  have B1 := Lib.hid (HB.out.trans (hb.mono HB.out.size))
  obtain ⟨k0, k1, k2, k3, -, -, -, -⟩ := fr_cells (KA.out.below hb KA.out.lt)
  clear hb KA R1
  go_wp2_with fail
  go_ret
  exact ⟨by rw [HE.out]; rfl, B1.out⟩
set_option maxHeartbeats 4000000 in
theorem sign_no (r : FrR) {l1 l2 : List Int} (ha : FrArg w r l1 l2) (hT : TabZ w) (hn1 : r.n1 ≤ 500000) (hn2 : r.n2 ≤ 500000) (hno : ∀ W x, Below w.heap.size w W → ¬ IsFr W r x) :
    Calls Tryz.prog 69 #[frV r] w fun e w' => e = .returned (.int .i64 0) ∧ Below w.heap.size w w' := by
  have HB : Hid (Below w.heap.size w (w.alloc (.cells (frC r) 43))) := (Below.refl _ _).alloc (Nat.le_refl _) _
  have R1 := Lib.hid (right_F r ⟨ha.p.past HB.out, ha.q.past HB.out⟩ (hT.on HB.out) hn1 hn2 (fun x => hno _ x HB.out))
  obtain ⟨s1, A1, n1, c1, s2, A2, n2, c2⟩ := r
  dsimp only [frV, frC] at *
  clear ha hT hno
  go_enter Tryz.func69, Tryz.ntmps69
  go_wp2_with fail
  refine R1.out.mono ?_
  rintro e w1 ⟨rfl, hb⟩
  have B1 := Lib.hid (HB.out.trans (hb.mono HB.out.size))
  clear hb R1
  go_wp2_with fail
  go_ret
  exact ⟨rfl, B1.out⟩
set_option maxHeartbeats 4000000 in
theorem compare_R (r r2 : FrR) (h1 : Fg w k x r) (h2 : Fg w k y r2) (hT : TabZ w) (hk : k ≤ 100000) {o : Int} (ho : ordR x y = o) :
    Calls Tryz.prog 60 #[frV r, frV r2] w fun e w' => e = .returned (.int .i64 o) ∧ Below w.heap.size w w' := by
  have S := Lib.hid (DuoF.new w r r2)
  obtain ⟨W0, hW0⟩ : ∃ W0, W0 = ((w.alloc (.cells (frC r) 43)).alloc (.cells (frC r2) 43)) := ⟨_, rfl⟩
  rw [← hW0] at S
  have R1 := Lib.hid (right_T r (h1.past S.out.bl) (hT.on S.out.bl) (by omega))
  have R2 := Lib.hid (fun W (hb : Below w.heap.size w W) => right_T r2 (h2.past hb) (hT.on hb) (by omega))
  have C := Lib.hid (fun W (hb : Below w.heap.size w W) => compare_F r r2 (h1.past hb) (h2.past hb) hk ho)
  clear h1 h2 hT ho
  obtain ⟨s1, A1, n1, c1, s2, A2, n2, c2⟩ := r
  obtain ⟨s3, A3, n3, c3, s4, A4, n4, c4⟩ := r2
  dsimp only [frV, frC] at *
  obtain ⟨⟨ka0, ka1, ka2, ka3⟩, kb0, kb1, kb2, kb3⟩ := S.out.cells
  dsimp only at ka0 ka1 ka2 ka3 kb0 kb1 kb2 kb3
  go_enter Tryz.func60, Tryz.ntmps60
  go_wp2_with fail
  rw [← hW0]
  clear hW0
  go_wp2_with fail
  refine R1.out.mono ?_
  rintro e w1 ⟨rfl, hb⟩
  have S1 := Lib.hid (S.out.call hb)
  clear ka0 ka1 ka2 ka3 kb0 kb1 kb2 kb3 hb S R1
  obtain ⟨⟨ka0, ka1, ka2, ka3⟩, kb0, kb1, kb2, kb3⟩ := S1.out.cells
  dsimp only at ka0 ka1 ka2 ka3 kb0 kb1 kb2 kb3
  go_wp2_with fail
  refine (R2.out _ S1.out.bl).mono ?_
  rintro e w2 ⟨rfl, hb⟩
  have S2 := Lib.hid (S1.out.call hb)
  clear ka0 ka1 ka2 ka3 kb0 kb1 kb2 kb3 hb S1 R2
  obtain ⟨⟨ka0, ka1, ka2, ka3⟩, kb0, kb1, kb2, kb3⟩ := S2.out.cells
  dsimp only at ka0 ka1 ka2 ka3 kb0 kb1 kb2 kb3
  go_wp2_with fail
  refine (C.out _ S2.out.bl).mono ?_
  rintro e w3 ⟨rfl, hb⟩
  have B3 := Lib.hid (S2.out.bl.trans (hb.mono S2.out.bl.size))
  clear hb C ka0 ka1 ka2 ka3 kb0 kb1 kb2 kb3
  go_wp2_with fail
  go_ret
  exact ⟨rfl, B3.out⟩
end
end Go.Proofs.YtikfjmdeeknalaaGreatDoor

/- The walks of frac's New, Of, Min and Max. Conditions: sizes; the table of math/bits as its text lays it. -/
namespace Go.Proofs.YtikfjmdeeknalaaGreatDoor
set_option maxRecDepth 20000
open Go.RowKit

section
variable {w : World} {k : Nat} {x y : Rat} {p q : Int}
set_option maxHeartbeats 8000000 in
theorem new_R (r : FrR) (h1 : Bg w k p r.s1 r.A1 r.n1) (h2 : Bg w k q r.s2 r.A2 r.n2) (hq : q ≠ 0) (hT : TabZ w) (hk : k ≤ 100000) :
    Calls Tryz.prog 56 #[.agg #[.int .i64 r.s1, .slice r.A1 r.n1 r.c1], .agg #[.int .i64 r.s2, .slice r.A2 r.n2 r.c2]] w (OkR w k (ratio p q)) := by
  have S := Lib.hid (NewF.new w r)
  obtain ⟨W0, hW0⟩ : ∃ W0, W0 = (((w.alloc (.cells #[.int .i64 r.s1, .slice r.A1 r.n1 r.c1] 24)).alloc (.cells #[.int .i64 r.s2, .slice r.A2 r.n2 r.c2] 24)).alloc (.cells #[.int .i64 0, .slice none 0 0, .int .i64 0, .slice none 0 0] 43)) := ⟨_, rfl⟩
  rw [← hW0] at S
  have G := Lib.hid (gcd_F (h1.past S.out.bl) (h2.past S.out.bl) (hT.on S.out.bl) (by omega) (by omega) r.c1 r.c2 k _ rfl (gcd_sz h1.1 h2.1))
  obtain ⟨g, hg0, hgs, ep, eq⟩ := ratio_parts (p := p) hq
  have HP := Lib.hid (floor_exact_ne hg0 ep)
  have HQ := Lib.hid (floor_exact_ne hg0 eq)
  have Z1 := Lib.hid (sz_part h1.1 hg0 ep)
  have Z2 := Lib.hid (sz_part h2.1 hg0 eq)
  have hs2 : r.s2 = 1 ∧ 0 < q ∨ r.s2 = -1 ∧ q < 0 := by
    rcases h2.sign with ⟨a, b⟩ | ⟨a, b⟩ | ⟨-, b⟩
    · exact .inl ⟨a, b⟩
    · exact .inr ⟨a, b⟩
    · exact absurd b hq
  have H1 := Lib.hid h1
  have H2 := Lib.hid h2
  clear h1 h2 hT ep eq hq
  obtain ⟨s1, A1, n1, c1, s2, A2, n2, c2⟩ := r
  dsimp only at *
  rcases hs2 with ⟨rfl, hpos⟩ | ⟨rfl, hneg⟩
  · have hg : ((Int.gcd p q : Nat) : Int) = g := by rcases hgs with ⟨-, h⟩ | ⟨h, -⟩; exact h.symm; omega
    rw [hg] at G
    clear hgs hg hpos
    obtain ⟨ka0, ka1, -, -⟩ := sm_cells S.out.k1
    obtain ⟨kb0, kb1, -, -⟩ := sm_cells S.out.k2
    dsimp only at ka0 ka1 kb0 kb1
    go_enter Tryz.func56, Tryz.ntmps56
    go_wp2_with fail
    rw [← hW0]
    clear hW0
    go_wp2_with fail
    refine G.out.mono ?_
    rintro e w1 ⟨sg, Ag, ng, cg, rfl, hcg, hgg, hfg, hb⟩
    have S1 := Lib.hid (S.out.call hb)
    obtain ⟨w2, hw2⟩ : ∃ w2, w2 = w1.alloc (.cells #[.int .i64 sg, .slice Ag ng cg] 24) := ⟨_, rfl⟩
    obtain ⟨b6, hb6⟩ : ∃ b, b = w1.heap.size := ⟨_, rfl⟩
    have X2 := Lib.hid (bal (Below.refl w1.heap.size w1) (o := .cells #[.int .i64 sg, .slice Ag ng cg] 24))
    rw [← hw2] at X2
    have S2 := Lib.hid (S1.out.call X2.out)
    have K6 : Hid (Blk w2 b6 24 #[.int .i64 sg, .slice Ag ng cg]) := by show Blk _ _ _ _; rw [hw2, hb6]; exact Blk.new _ _ _
    have GG := Lib.hid (hgg.past X2.out)
    have hlo6 : w.heap.size + 1 + 1 < b6 := by rw [hb6]; exact S1.out.k3.lt
    clear ka0 ka1 kb0 kb1 hb S G hcg hgg hfg
    obtain ⟨ka0, ka1, -, -⟩ := sm_cells S2.out.k1
    obtain ⟨kb0, kb1, -, -⟩ := sm_cells S2.out.k2
    obtain ⟨kg0, kg1, -, -⟩ := sm_cells K6.out
    dsimp only at ka0 ka1 kb0 kb1
    clear X2 S1
    go_upto_region 2 with (fail)
    rw [← hw2, ← hb6]
    clear hw2 hb6
    go_upto_region 8 with (fail)
    have HC := Lib.hid (fun (w' : World) (h : Below w2.heap.size w2 w') => (⟨(h.cell (p := ⟨w.heap.size, 0, none⟩) (World.block_lt_of_cell? _ _ ka0)).trans ka0, (h.cell (p := ⟨w.heap.size, 1, none⟩) (World.block_lt_of_cell? _ _ ka1)).trans ka1, (h.cell (p := ⟨w.heap.size + 1, 0, none⟩) (World.block_lt_of_cell? _ _ kb0)).trans kb0, (h.cell (p := ⟨w.heap.size + 1, 1, none⟩) (World.block_lt_of_cell? _ _ kb1)).trans kb1, (h.cell (p := ⟨b6, 0, none⟩) (World.block_lt_of_cell? _ _ kg0)).trans kg0, (h.cell (p := ⟨b6, 1, none⟩) (World.block_lt_of_cell? _ _ kg1)).trans kg1⟩ : w'.cell? ⟨w.heap.size, 0, none⟩ = some (.int .i64 s1) ∧ w'.cell? ⟨w.heap.size, 1, none⟩ = some (.slice A1 n1 c1) ∧ w'.cell? ⟨w.heap.size + 1, 0, none⟩ = some (.int .i64 1) ∧ w'.cell? ⟨w.heap.size + 1, 1, none⟩ = some (.slice A2 n2 c2) ∧ w'.cell? ⟨b6, 0, none⟩ = some (.int .i64 sg) ∧ w'.cell? ⟨b6, 1, none⟩ = some (.slice Ag ng cg)))
    have D1 := Lib.hid (fun (W : World) (hb : Below w2.heap.size w2 W) => divided_F (H1.out.past (S2.out.call hb).bl) (GG.out.past hb) hg0 (by omega) (by omega) c1 cg HP.out)
    have D2 := Lib.hid (fun (W : World) (hb : Below w2.heap.size w2 W) => divided_F (H2.out.past (S2.out.call hb).bl) (GG.out.past hb) hg0 (by omega) (by omega) c2 cg HQ.out)
    have hlt0 := Lib.hid S2.out.k3.lt
    have hres := S2.out.k3.lt
    clear ka0 ka1 kb0 kb1 kg0 kg1
    have Bv0 := Lib.hid (Below.refl w2.heap.size w2).drew
    have Tv0 := Lib.hid (S2.out.call (Below.refl w2.heap.size w2).drew)
    refine wp_region_held_drew (S := fun w' => w'.cell? ⟨w.heap.size, 0, none⟩ = some (.int .i64 s1) ∧ w'.cell? ⟨w.heap.size, 1, none⟩ = some (.slice A1 n1 c1) ∧ w'.cell? ⟨w.heap.size + 1, 0, none⟩ = some (.int .i64 1) ∧ w'.cell? ⟨w.heap.size + 1, 1, none⟩ = some (.slice A2 n2 c2) ∧ w'.cell? ⟨b6, 0, none⟩ = some (.int .i64 sg) ∧ w'.cell? ⟨b6, 1, none⟩ = some (.slice Ag ng cg)) (by kernel_rfl) (HC.out _ Bv0.out) (fun hHeld => ?_)
    obtain ⟨vw0, hw⟩ : ∃ W, W = w2.drew := ⟨_, rfl⟩
    rw [← hw] at hHeld Bv0 Tv0 ⊢
    clear hw
    refine take_at (i := 0) (v := ?vv1) rfl (by kernel_rfl) (by kernel_rfl) (by kernel_rfl) (fun _ _ _ h => h) (Or.inl ⟨by rfl, ?vy1⟩) (by assumption) ?vr1
    case vy1 => (intro w hSw; (try dsimp only at hSw); obtain ⟨cc0, cc1, cc2, cc3, cc4, cc5⟩ := hSw; go_simp; (try with_reducible rfl))
    simp only [Act.put, uA, uB, uC]
    refine take_at (i := 1) (v := ?vv2) rfl (by kernel_rfl) (by kernel_rfl) (by kernel_rfl) (fun _ _ _ h => h) (Or.inl ⟨by rfl, ?vy2⟩) (by assumption) ?vr2
    case vy2 => (intro w hSw; (try dsimp only at hSw); obtain ⟨cc0, cc1, cc2, cc3, cc4, cc5⟩ := hSw; go_simp; (try with_reducible rfl))
    simp only [Act.put, uA, uB, uC]
    refine take_at (i := 3) (v := ?vv3) rfl (by kernel_rfl) (by kernel_rfl) (by kernel_rfl) (fun _ _ _ h => h) (Or.inl ⟨by rfl, ?vy3⟩) (by assumption) ?vr3
    case vy3 => (intro w hSw; (try dsimp only at hSw); obtain ⟨cc0, cc1, cc2, cc3, cc4, cc5⟩ := hSw; go_simp; (try with_reducible rfl))
    simp only [Act.put, uA, uB, uC]
    refine take_at (i := 4) (v := ?vv4) rfl (by kernel_rfl) (by kernel_rfl) (by kernel_rfl) (fun _ _ _ h => h) (Or.inl ⟨by rfl, ?vy4⟩) (by assumption) ?vr4
    case vy4 => (intro w hSw; (try dsimp only at hSw); obtain ⟨cc0, cc1, cc2, cc3, cc4, cc5⟩ := hSw; go_simp; (try with_reducible rfl))
    simp only [Act.put, uA, uB, uC]
    refine wpAnyH_ready (rs := [2]) (by kernel_rfl) (by simp) ?_
    refine cons_at (i := 2) rfl (fun K hK => ?_) AllReadyH.nil
    go_simp
    refine (D1.out _ Bv0.out).mono ?_
    rintro e vw5 ⟨sp, Ap, np, cp, rfl, hc, hg, hf, hb⟩
    try dsimp only
    have X5 := Lib.hid hb
    have Gv2_5 := Lib.hid hg
    have HCv2 := Lib.hid hc
    have FRv2 : Hid (Fresh w2 Ap np) := fun hp ad e => Nat.le_trans Bv0.out.size (hf hp ad e)
    have Bv6 := Lib.hid (Bv0.out.trans (X5.out.mono Bv0.out.size))
    have Tv6 := Lib.hid (Tv0.out.call X5.out)
    refine hK.out _ _ ?_ (fun hHeld => ?_)
    · exact HC.out _ Bv6.out
    clear Bv0 Tv0 X5 hc hg hf hb
    clear hK K
    (try simp only [Act.put, uA, uB, uC])
    refine wpAnyH_ready (rs := [5]) (by kernel_rfl) (by simp) ?_
    refine cons_at (i := 5) rfl (fun K hK => ?_) AllReadyH.nil
    go_simp
    refine (D2.out _ Bv6.out).mono ?_
    rintro e vw7 ⟨sq, Aq, nq, cq, rfl, hc, hg, hf, hb⟩
    try dsimp only
    have X7 := Lib.hid hb
    have Gv5_7 := Lib.hid hg
    have HCv5 := Lib.hid hc
    have FRv5 : Hid (Fresh w2 Aq nq) := fun hp ad e => Nat.le_trans Bv6.out.size (hf hp ad e)
    have Bv8 := Lib.hid (Bv6.out.trans (X7.out.mono Bv6.out.size))
    have Gv2_8 := Lib.hid (Gv2_5.out.past X7.out)
    have Tv8 := Lib.hid (Tv6.out.call X7.out)
    refine hK.out _ _ ?_ (fun hHeld => ?_)
    · exact HC.out _ Bv8.out
    clear Bv6 Gv2_5 Tv6 X7 hc hg hf hb
    clear hK K
    (try simp only [Act.put, uA, uB, uC])
    refine take_at (i := 6) (v := ?vv9) rfl (by kernel_rfl) (by kernel_rfl) (by kernel_rfl) (fun _ _ _ h => h) (Or.inl ⟨by rfl, ?vy9⟩) (by assumption) ?vr9
    case vy9 => (intro w hSw; (try dsimp only at hSw); go_simp; (try with_reducible rfl))
    simp only [Act.put, uA, uB, uC]
    refine wpAnyH_ready (rs := [7]) (by kernel_rfl) (by simp) ?_
    refine cons_at (i := 7) rfl (fun K hK => ?_) AllReadyH.nil
    obtain ⟨f0, f1, f2, f3, f4, f5, f6, f7⟩ := fr_cells Tv8.out.k3
    go_simp
    clear f0 f1 f2 f3 f4 f5 f6 f7
    obtain ⟨wf, hwf, r0, r1, r2, r3, kE⟩ := fr_end Tv8.out.k3 (by omega) hlt0.out Tv8.out.bl (Gv2_8.out.as Z1.out) (Gv5_7.out.as Z2.out) FRv2.out FRv5.out HCv2.out HCv5.out (Low.self _)
    have HE := Lib.hid kE
    clear kE
    refine hK.out _ _ ?_ (fun hHeld => ?_)
    · obtain ⟨cc0, cc1, cc2, cc3, cc4, cc5⟩ := HC.out _ Bv8.out
      exact ⟨stc4 cc0 (by dsimp only; omega), stc4 cc1 (by dsimp only; omega), stc4 cc2 (by dsimp only; omega), stc4 cc3 (by dsimp only; omega), stc4 cc4 (by dsimp only; omega), stc4 cc5 (by dsimp only; omega)⟩
    clear hK K
    (try simp only [Act.put, uA, uB, uC])
    refine take_at (i := 8) (v := ?vv11) rfl (by kernel_rfl) (by kernel_rfl) (by kernel_rfl) (fun _ _ _ h => h) (Or.inl ⟨by rfl, ?vy11⟩) (by assumption) ?vr11
    case vy11 => (intro w hSw; (try dsimp only at hSw); go_simp; (try with_reducible rfl))
    simp only [Act.put, uA, uB, uC]
    refine wpAnyH_done (by kernel_rfl) ?_ _
    go_wp2_with fail
    rw [← hwf]
    clear hwf
    exact bodyPost_ret (v := .tuple #[.agg #[.int .i64 sp, .slice Ap np cp, .int .i64 sq, .slice Aq nq cq], .int .i64 0]) (by simp [results, Tryz.results56, go_sem, r0, r1, r2, r3]) rfl HE.out.ok
  · have hg : ((Int.gcd p q : Nat) : Int) = -g := by rcases hgs with ⟨h, -⟩ | ⟨-, h⟩; omega; rw [h, Int.neg_neg]
    rw [hg] at G
    clear hgs hg hneg
    obtain ⟨ka0, ka1, -, -⟩ := sm_cells S.out.k1
    obtain ⟨kb0, kb1, -, -⟩ := sm_cells S.out.k2
    dsimp only at ka0 ka1 kb0 kb1
    go_enter Tryz.func56, Tryz.ntmps56
    go_wp2_with fail
    rw [← hW0]
    clear hW0
    go_wp2_with fail
    refine G.out.mono ?_
    rintro e w1 ⟨sg, Ag, ng, cg, rfl, hcg, hgg, hfg, hb⟩
    have S1 := Lib.hid (S.out.call hb)
    obtain ⟨w2, hw2⟩ : ∃ w2, w2 = w1.alloc (.cells #[.int .i64 sg, .slice Ag ng cg] 24) := ⟨_, rfl⟩
    obtain ⟨b6, hb6⟩ : ∃ b, b = w1.heap.size := ⟨_, rfl⟩
    have X2 := Lib.hid (bal (Below.refl w1.heap.size w1) (o := .cells #[.int .i64 sg, .slice Ag ng cg] 24))
    rw [← hw2] at X2
    have S2 := Lib.hid (S1.out.call X2.out)
    have K6 : Hid (Blk w2 b6 24 #[.int .i64 sg, .slice Ag ng cg]) := by show Blk _ _ _ _; rw [hw2, hb6]; exact Blk.new _ _ _
    have GG := Lib.hid (hgg.past X2.out)
    have hlo6 : w.heap.size + 1 + 1 < b6 := by rw [hb6]; exact S1.out.k3.lt
    clear ka0 ka1 kb0 kb1 hb S G hcg hgg hfg
    obtain ⟨ka0, ka1, -, -⟩ := sm_cells S2.out.k1
    obtain ⟨kb0, kb1, -, -⟩ := sm_cells S2.out.k2
    obtain ⟨kg0, kg1, -, -⟩ := sm_cells K6.out
    dsimp only at ka0 ka1 kb0 kb1
    clear X2 S1
    go_upto_region 2 with (fail)
    rw [← hw2, ← hb6]
    clear hw2 hb6
    go_wp2_with fail
    have NN := neg_F GG.out (by omega) cg
    rw [Int.neg_neg] at NN
    refine NN.mono ?_
    rintro e w3 ⟨sh, Ah, nh, ch, rfl, hch, hgh, hfh, hb⟩
    have S3 := Lib.hid (S2.out.call hb)
    have K63 := Lib.hid (K6.out.below hb K6.out.lt)
    obtain ⟨f0, f1, f2, f3⟩ := sm_cells K63.out
    obtain ⟨w4, hw4⟩ : ∃ w4, w4 = (w3.setCell ⟨b6, 0, none⟩ (.int .i64 sh)).setCell ⟨b6, 1, none⟩ (.slice Ah nh ch) := ⟨_, rfl⟩
    have K64 : Hid (Blk w4 b6 24 #[.int .i64 sh, .slice Ah nh ch]) := by show Blk _ _ _ _; rw [hw4]; exact K63.out.set2
    have GG4 : Hid (Bg w4 k g sh Ah nh) := by show Bg _ _ _ _ _ _; rw [hw4]; exact hgh.far2 (fun hp ad e => by have := hfh hp ad e; have := K6.out.lt; omega)
    have S4 : Hid (NewF w w4 ⟨s1, A1, n1, c1, -1, A2, n2, c2⟩) := by
      show NewF _ _ _
      rw [hw4]
      exact ⟨S3.out.k1.far2 (by omega), S3.out.k2.far2 (by omega), S3.out.k3.far2 (by omega), below_2 S3.out.bl (by omega)⟩
    clear hch hgh hfh hb NN ka0 ka1 kb0 kb1 kg0 kg1 S2 K6 GG S3
    have K6 := K64
    have GG := GG4
    clear K64 GG4
    obtain ⟨ka0, ka1, -, -⟩ := sm_cells S4.out.k1
    obtain ⟨kb0, kb1, -, -⟩ := sm_cells S4.out.k2
    obtain ⟨kg0, kg1, -, -⟩ := sm_cells K6.out
    dsimp only at ka0 ka1 kb0 kb1
    go_upto_region 8 with (fail)
    rw [← hw4]
    clear hw4 f0 f1 f2 f3 K63
    have HC := Lib.hid (fun (w' : World) (h : Below w4.heap.size w4 w') => (⟨(h.cell (p := ⟨w.heap.size, 0, none⟩) (World.block_lt_of_cell? _ _ ka0)).trans ka0, (h.cell (p := ⟨w.heap.size, 1, none⟩) (World.block_lt_of_cell? _ _ ka1)).trans ka1, (h.cell (p := ⟨w.heap.size + 1, 0, none⟩) (World.block_lt_of_cell? _ _ kb0)).trans kb0, (h.cell (p := ⟨w.heap.size + 1, 1, none⟩) (World.block_lt_of_cell? _ _ kb1)).trans kb1, (h.cell (p := ⟨b6, 0, none⟩) (World.block_lt_of_cell? _ _ kg0)).trans kg0, (h.cell (p := ⟨b6, 1, none⟩) (World.block_lt_of_cell? _ _ kg1)).trans kg1⟩ : w'.cell? ⟨w.heap.size, 0, none⟩ = some (.int .i64 s1) ∧ w'.cell? ⟨w.heap.size, 1, none⟩ = some (.slice A1 n1 c1) ∧ w'.cell? ⟨w.heap.size + 1, 0, none⟩ = some (.int .i64 (-1)) ∧ w'.cell? ⟨w.heap.size + 1, 1, none⟩ = some (.slice A2 n2 c2) ∧ w'.cell? ⟨b6, 0, none⟩ = some (.int .i64 sh) ∧ w'.cell? ⟨b6, 1, none⟩ = some (.slice Ah nh ch)))
    have D1 := Lib.hid (fun (W : World) (hb : Below w4.heap.size w4 W) => divided_F (H1.out.past (S4.out.call hb).bl) (GG.out.past hb) hg0 (by omega) (by omega) c1 ch HP.out)
    have D2 := Lib.hid (fun (W : World) (hb : Below w4.heap.size w4 W) => divided_F (H2.out.past (S4.out.call hb).bl) (GG.out.past hb) hg0 (by omega) (by omega) c2 ch HQ.out)
    have hlt0 := Lib.hid S4.out.k3.lt
    have hres := S4.out.k3.lt
    clear ka0 ka1 kb0 kb1 kg0 kg1
    have Bu0 := Lib.hid (Below.refl w4.heap.size w4).drew
    have Tu0 := Lib.hid (S4.out.call (Below.refl w4.heap.size w4).drew)
    refine wp_region_held_drew (S := fun w' => w'.cell? ⟨w.heap.size, 0, none⟩ = some (.int .i64 s1) ∧ w'.cell? ⟨w.heap.size, 1, none⟩ = some (.slice A1 n1 c1) ∧ w'.cell? ⟨w.heap.size + 1, 0, none⟩ = some (.int .i64 (-1)) ∧ w'.cell? ⟨w.heap.size + 1, 1, none⟩ = some (.slice A2 n2 c2) ∧ w'.cell? ⟨b6, 0, none⟩ = some (.int .i64 sh) ∧ w'.cell? ⟨b6, 1, none⟩ = some (.slice Ah nh ch)) (by kernel_rfl) (HC.out _ Bu0.out) (fun hHeld => ?_)
    obtain ⟨uw0, hw⟩ : ∃ W, W = w4.drew := ⟨_, rfl⟩
    rw [← hw] at hHeld Bu0 Tu0 ⊢
    clear hw
    refine take_at (i := 0) (v := ?uv1) rfl (by kernel_rfl) (by kernel_rfl) (by kernel_rfl) (fun _ _ _ h => h) (Or.inl ⟨by rfl, ?uy1⟩) (by assumption) ?ur1
    case uy1 => (intro w hSw; (try dsimp only at hSw); obtain ⟨cc0, cc1, cc2, cc3, cc4, cc5⟩ := hSw; go_simp; (try with_reducible rfl))
    simp only [Act.put, uA, uB, uC]
    refine take_at (i := 1) (v := ?uv2) rfl (by kernel_rfl) (by kernel_rfl) (by kernel_rfl) (fun _ _ _ h => h) (Or.inl ⟨by rfl, ?uy2⟩) (by assumption) ?ur2
    case uy2 => (intro w hSw; (try dsimp only at hSw); obtain ⟨cc0, cc1, cc2, cc3, cc4, cc5⟩ := hSw; go_simp; (try with_reducible rfl))
    simp only [Act.put, uA, uB, uC]
    refine take_at (i := 3) (v := ?uv3) rfl (by kernel_rfl) (by kernel_rfl) (by kernel_rfl) (fun _ _ _ h => h) (Or.inl ⟨by rfl, ?uy3⟩) (by assumption) ?ur3
    case uy3 => (intro w hSw; (try dsimp only at hSw); obtain ⟨cc0, cc1, cc2, cc3, cc4, cc5⟩ := hSw; go_simp; (try with_reducible rfl))
    simp only [Act.put, uA, uB, uC]
    refine take_at (i := 4) (v := ?uv4) rfl (by kernel_rfl) (by kernel_rfl) (by kernel_rfl) (fun _ _ _ h => h) (Or.inl ⟨by rfl, ?uy4⟩) (by assumption) ?ur4
    case uy4 => (intro w hSw; (try dsimp only at hSw); obtain ⟨cc0, cc1, cc2, cc3, cc4, cc5⟩ := hSw; go_simp; (try with_reducible rfl))
    simp only [Act.put, uA, uB, uC]
    refine wpAnyH_ready (rs := [2]) (by kernel_rfl) (by simp) ?_
    refine cons_at (i := 2) rfl (fun K hK => ?_) AllReadyH.nil
    go_simp
    refine (D1.out _ Bu0.out).mono ?_
    rintro e uw5 ⟨sp, Ap, np, cp, rfl, hc, hg, hf, hb⟩
    try dsimp only
    have X5 := Lib.hid hb
    have Gu2_5 := Lib.hid hg
    have HCu2 := Lib.hid hc
    have FRu2 : Hid (Fresh w4 Ap np) := fun hp ad e => Nat.le_trans Bu0.out.size (hf hp ad e)
    have Bu6 := Lib.hid (Bu0.out.trans (X5.out.mono Bu0.out.size))
    have Tu6 := Lib.hid (Tu0.out.call X5.out)
    refine hK.out _ _ ?_ (fun hHeld => ?_)
    · exact HC.out _ Bu6.out
    clear Bu0 Tu0 X5 hc hg hf hb
    clear hK K
    (try simp only [Act.put, uA, uB, uC])
    refine wpAnyH_ready (rs := [5]) (by kernel_rfl) (by simp) ?_
    refine cons_at (i := 5) rfl (fun K hK => ?_) AllReadyH.nil
    go_simp
    refine (D2.out _ Bu6.out).mono ?_
    rintro e uw7 ⟨sq, Aq, nq, cq, rfl, hc, hg, hf, hb⟩
    try dsimp only
    have X7 := Lib.hid hb
    have Gu5_7 := Lib.hid hg
    have HCu5 := Lib.hid hc
    have FRu5 : Hid (Fresh w4 Aq nq) := fun hp ad e => Nat.le_trans Bu6.out.size (hf hp ad e)
    have Bu8 := Lib.hid (Bu6.out.trans (X7.out.mono Bu6.out.size))
    have Gu2_8 := Lib.hid (Gu2_5.out.past X7.out)
    have Tu8 := Lib.hid (Tu6.out.call X7.out)
    refine hK.out _ _ ?_ (fun hHeld => ?_)
    · exact HC.out _ Bu8.out
    clear Bu6 Gu2_5 Tu6 X7 hc hg hf hb
    clear hK K
    (try simp only [Act.put, uA, uB, uC])
    refine take_at (i := 6) (v := ?uv9) rfl (by kernel_rfl) (by kernel_rfl) (by kernel_rfl) (fun _ _ _ h => h) (Or.inl ⟨by rfl, ?uy9⟩) (by assumption) ?ur9
    case uy9 => (intro w hSw; (try dsimp only at hSw); go_simp; (try with_reducible rfl))
    simp only [Act.put, uA, uB, uC]
    refine wpAnyH_ready (rs := [7]) (by kernel_rfl) (by simp) ?_
    refine cons_at (i := 7) rfl (fun K hK => ?_) AllReadyH.nil
    obtain ⟨f0, f1, f2, f3, f4, f5, f6, f7⟩ := fr_cells Tu8.out.k3
    go_simp
    clear f0 f1 f2 f3 f4 f5 f6 f7
    obtain ⟨wf, hwf, r0, r1, r2, r3, kE⟩ := fr_end Tu8.out.k3 (by omega) hlt0.out Tu8.out.bl (Gu2_8.out.as Z1.out) (Gu5_7.out.as Z2.out) FRu2.out FRu5.out HCu2.out HCu5.out (Low.self _)
    have HE := Lib.hid kE
    clear kE
    refine hK.out _ _ ?_ (fun hHeld => ?_)
    · obtain ⟨cc0, cc1, cc2, cc3, cc4, cc5⟩ := HC.out _ Bu8.out
      exact ⟨stc4 cc0 (by dsimp only; omega), stc4 cc1 (by dsimp only; omega), stc4 cc2 (by dsimp only; omega), stc4 cc3 (by dsimp only; omega), stc4 cc4 (by dsimp only; omega), stc4 cc5 (by dsimp only; omega)⟩
    clear hK K
    (try simp only [Act.put, uA, uB, uC])
    refine take_at (i := 8) (v := ?uv11) rfl (by kernel_rfl) (by kernel_rfl) (by kernel_rfl) (fun _ _ _ h => h) (Or.inl ⟨by rfl, ?uy11⟩) (by assumption) ?ur11
    case uy11 => (intro w hSw; (try dsimp only at hSw); go_simp; (try with_reducible rfl))
    simp only [Act.put, uA, uB, uC]
    refine wpAnyH_done (by kernel_rfl) ?_ _
    go_wp2_with fail
    rw [← hwf]
    clear hwf
    exact bodyPost_ret (v := .tuple #[.agg #[.int .i64 sp, .slice Ap np cp, .int .i64 sq, .slice Aq nq cq], .int .i64 0]) (by simp [results, Tryz.results56, go_sem, r0, r1, r2, r3]) rfl HE.out.ok
end
end Go.Proofs.YtikfjmdeeknalaaGreatDoor

/- The walks of frac's Of, Min and Max, and of the laws' of. Conditions: sizes; the table of math/bits as its text lays it. -/
namespace Go.Proofs.YtikfjmdeeknalaaGreatDoor
set_option maxRecDepth 20000
open Go.RowKit

section
variable {w : World} {k : Nat} {x y : Rat} {p q : Int}
theorem FrEnd.alloc {w w' : World} {k : Nat} {x : Rat} {e : Ending} (h : FrEnd w k x e w') (o : Obj) : FrEnd w k x e (w'.alloc o) := by
  obtain ⟨r, rfl, c1, c2, hf, f1, f2, hb⟩ := h
  exact ⟨r, rfl, c1, c2, hf.past ((Below.refl _ _).alloc (Nat.le_refl _) o), f1, f2, hb.alloc hb.size o⟩
set_option maxHeartbeats 4000000 in
theorem of_R (p q : Int) (w : World) (p0 : -9223372036854775808 ≤ p) (p1 : p ≤ 9223372036854775807) (q0 : -9223372036854775808 ≤ q) (q1 : q ≤ 9223372036854775807) (hq : q ≠ 0) (hT : TabZ w) :
    Calls Tryz.prog 52 #[.int .i64 p, .int .i64 q] w (OkR w 4 (ratio p q)) := by
  obtain ⟨W, hW⟩ : ∃ W, W = w.alloc (.cells #[.int .i64 0, .slice none 0 0, .int .i64 0, .slice none 0 0] 43) := ⟨_, rfl⟩
  have HB : Hid (Below w.heap.size w W) := by show Below _ _ _; rw [hW]; exact bal (Below.refl _ _)
  have K : Hid (Blk W w.heap.size 43 #[.int .i64 0, .slice none 0 0, .int .i64 0, .slice none 0 0]) := by show Blk _ _ _ _; rw [hW]; exact Blk.new _ _ _
  have O1 := Lib.hid (of_F p W p0 p1)
  have O2 := Lib.hid (fun w => of_F q w q0 q1)
  have HQ := Lib.hid hq
  have HT := Lib.hid (hT.on HB.out)
  clear p0 p1 q0 q1 hq hT
  go_enter Tryz.func52, Tryz.ntmps52
  go_wp2_with fail
  rw [← hW]
  clear hW
  refine O1.out.mono ?_
  rintro e w1 ⟨s1, A1, n1, c1, rfl, hc1, hg1, hf1, hb⟩
  have B1 := Lib.hid (HB.out.trans (hb.mono HB.out.size))
  have X1 := Lib.hid hb
  have K1 := Lib.hid (K.out.below hb K.out.lt)
  have T1 := Lib.hid (HT.out.on hb)
  have G1 := Lib.hid hg1
  clear hc1 hg1 hf1 hb O1
  go_wp2_with fail
  refine (O2.out _).mono ?_
  rintro e w2 ⟨s2, A2, n2, c2, rfl, hc2, hg2, hf2, hb⟩
  have B2 := Lib.hid (B1.out.trans (hb.mono B1.out.size))
  have K2 := Lib.hid (K1.out.below hb K1.out.lt)
  have N := Lib.hid (new_R ⟨s1, A1, n1, c1, s2, A2, n2, c2⟩ (G1.out.past hb) hg2 HQ.out (T1.out.on hb) (by decide))
  clear hc2 hg2 hf2 hb G1 T1 HQ
  dsimp only at N
  go_wp2_with fail
  refine N.out.mono ?_
  rintro e w3 ⟨⟨s5, A5, n5, c5, s6, A6, n6, c6⟩, rfl, hc1, hc2, hf, f1, f2, hb⟩
  have K3 := Lib.hid (K2.out.below hb K2.out.lt)
  have B3 := Lib.hid (B2.out.trans (hb.mono B2.out.size))
  obtain ⟨kr0, kr1, kr2, kr3, q0, q1, q2, q3⟩ := fr_cells K3.out
  obtain ⟨wf, hwf, r0, r1, r2, r3, kE⟩ := fr_end K3.out (Nat.le_refl _) K2.out.lt B3.out hf.1 hf.2 f1 f2 hc1 hc2 (Low.self _)
  have HE := Lib.hid kE.ok
  clear kE hc1 hc2 hf f1 f2 hb N
  dsimp only [frV]
  go_wp2_with fail
  rw [← hwf]
  clear hwf
  exact bodyPost_ret (v := .tuple #[.agg #[.int .i64 s5, .slice A5 n5 c5, .int .i64 s6, .slice A6 n6 c6], .int .i64 0]) (by simp [results, Tryz.results52, go_sem, r0, r1, r2, r3]) rfl HE.out
set_option maxHeartbeats 4000000 in
theorem lof8 (p q : Int) (w : World) (p0 : -9223372036854775808 ≤ p) (p1 : p ≤ 9223372036854775807) (q0 : -9223372036854775808 ≤ q) (q1 : q ≤ 9223372036854775807) (hq : q ≠ 0) (hT : TabZ w) :
    Calls Tryz.prog 165 #[.int .i64 p, .int .i64 q] w (FrEnd w 4 (ratio p q)) := by
  obtain ⟨W, hW⟩ : ∃ W, W = w.alloc (.cells #[.int .i64 0, .slice none 0 0, .int .i64 0, .slice none 0 0] 43) := ⟨_, rfl⟩
  have HB : Hid (Below w.heap.size w W) := by show Below _ _ _; rw [hW]; exact bal (Below.refl _ _)
  have K : Hid (Blk W w.heap.size 43 #[.int .i64 0, .slice none 0 0, .int .i64 0, .slice none 0 0]) := by show Blk _ _ _ _; rw [hW]; exact Blk.new _ _ _
  have O := Lib.hid (of_R p q W p0 p1 q0 q1 hq (hT.on HB.out))
  clear p0 p1 q0 q1 hq hT
  go_enter Tryz.func165, Tryz.ntmps165
  go_wp2_with fail
  rw [← hW]
  clear hW
  refine O.out.mono ?_
  rintro e w3 ⟨⟨s5, A5, n5, c5, s6, A6, n6, c6⟩, rfl, hc1, hc2, hf, f1, f2, hb⟩
  have K3 := Lib.hid (K.out.below hb K.out.lt)
  have B3 := Lib.hid (HB.out.trans (hb.mono HB.out.size))
  obtain ⟨kr0, kr1, kr2, kr3, q0, q1, q2, q3⟩ := fr_cells K3.out
  have hlt : w.heap.size < w3.heap.size := K3.out.lt
  obtain ⟨wf, hwf, r0, r1, r2, r3, kE⟩ := fr_end K3.out (Nat.le_refl _) K.out.lt B3.out hf.1 hf.2 f1 f2 hc1 hc2 (Low.self _)
  have r0' := alc (o := .cells #[.int .i64 s5, .slice A5 n5 c5, .int .i64 s6, .slice A6 n6 c6] 43) r0
  have r1' := alc (o := .cells #[.int .i64 s5, .slice A5 n5 c5, .int .i64 s6, .slice A6 n6 c6] 43) r1
  have r2' := alc (o := .cells #[.int .i64 s5, .slice A5 n5 c5, .int .i64 s6, .slice A6 n6 c6] 43) r2
  have r3' := alc (o := .cells #[.int .i64 s5, .slice A5 n5 c5, .int .i64 s6, .slice A6 n6 c6] 43) r3
  have HE := Lib.hid (kE.alloc (.cells #[.int .i64 s5, .slice A5 n5 c5, .int .i64 s6, .slice A6 n6 c6] 43))
  rw [hwf] at HE r0' r1' r2' r3'
  clear kE hc1 hc2 hf f1 f2 hb O r0 r1 r2 r3 hwf wf
  dsimp only [frV]
  go_wp2_with fail
  exact bodyPost_ret (v := .agg #[.int .i64 s5, .slice A5 n5 c5, .int .i64 s6, .slice A6 n6 c6]) (by simp [results, Tryz.results165, go_sem, r0', r1', r2', r3']) rfl HE.out
end
end Go.Proofs.YtikfjmdeeknalaaGreatDoor
