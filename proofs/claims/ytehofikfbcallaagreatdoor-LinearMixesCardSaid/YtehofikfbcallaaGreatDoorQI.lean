/- The walks of frac's Add, Sub, Mul and Div at right fractions. Conditions: sizes; the table of math/bits as its text lays it. -/
import Derived.Test.YtehofikfbcallaaGreatDoorQH
import Derived.Deep.DeepCutAuto
namespace Go.Proofs.YtehofikfbcallaaGreatDoor
set_option maxRecDepth 20000
open Go.RowKit

/-- How a function ends that returns a right fraction, and OK. -/
def OkR (w : World) (k : Nat) (x : Rat) (e : Ending) (w' : World) : Prop := ∃ r : FrR, e = .returned (.tuple #[frV r, .int .i64 0]) ∧ r.n1 ≤ r.c1 ∧ r.n2 ≤ r.c2 ∧ Fg w' k x r ∧ Fresh w r.A1 r.n1 ∧ Fresh w r.A2 r.n2 ∧ Below w.heap.size w w'
theorem FrEnd.ok {w w' : World} {k : Nat} {x : Rat} {v : Value} (h : FrEnd w k x (.returned v) w') : OkR w k x (.returned (.tuple #[v, .int .i64 0])) w' := by
  obtain ⟨r, e, h⟩ := h
  cases e
  exact ⟨r, rfl, h⟩
theorem Fg.sign_neg {w : World} {k : Nat} {x : Rat} {s1 s2 : Int} {A1 A2 : Option Addr} {n1 c1 n2 c2 : Nat} (h : Fg w k x ⟨s1, A1, n1, c1, s2, A2, n2, c2⟩) : Fg w k (-x) ⟨-1 * s1, A1, n1, c1, s2, A2, n2, c2⟩ := by
  refine ⟨?_, ?_⟩
  · rw [Rat.neg_num, Int.neg_one_mul]
    exact h.1.sign_neg
  · rw [Rat.neg_den]
    exact h.2
theorem Fg.den_one {w : World} {k : Nat} {x : Rat} {r : FrR} (h : Fg w k x r) : r.s2 = 1 := by
  rcases h.2.sign with ⟨a, -⟩ | ⟨-, a⟩ | ⟨-, a⟩
  · exact a
  · omega
  · have := x.den_pos; omega
/-- The parts of a fraction that is not 0, exchanged. -/
theorem Fg.turn {w : World} {k : Nat} {x : Rat} {s1 s2 : Int} {A1 A2 : Option Addr} {n1 c1 n2 c2 : Nat} (h : Fg w k x ⟨s1, A1, n1, c1, s2, A2, n2, c2⟩) (hx : x ≠ 0) : Fg w k x⁻¹ ⟨s1 * s2, A2, n2, c2, s1 * s1, A1, n1, c1⟩ := by
  have hn : x.num ≠ 0 := fun e => hx (Rat.num_eq_zero.1 e)
  have e2 : s2 = 1 := h.den_one
  obtain ⟨h1, h2⟩ := h
  dsimp only at h1 h2
  subst e2
  have hnum : (x⁻¹).num = x.num.sign * (x.den : Int) := Rat.num_inv x
  have hden : ((x⁻¹).den : Int) = (x.num.natAbs : Int) := by rw [Rat.den_inv, if_neg hn]
  refine ⟨?_, ?_⟩
  · rw [hnum, Int.mul_one]
    dsimp only
    rcases h1.sign with ⟨rfl, hp⟩ | ⟨rfl, hp⟩ | ⟨-, hp⟩
    · rw [Int.sign_eq_one_of_pos hp, Int.one_mul]; exact h2
    · rw [Int.sign_eq_neg_one_of_neg hp, Int.neg_one_mul]; exact h2.sign_neg
    · exact absurd hp hn
  · rw [hden]
    dsimp only
    rcases h1.sign with ⟨rfl, hp⟩ | ⟨rfl, hp⟩ | ⟨-, hp⟩
    · rw [show ((x.num.natAbs : Nat) : Int) = x.num by omega]; exact h1
    · rw [show ((x.num.natAbs : Nat) : Int) = -x.num by omega]; exact h1.sign_neg
    · exact absurd hp hn
section
variable {w : World} {k : Nat} {x y : Rat}
set_option maxHeartbeats 8000000 in
theorem add_R (r r2 : FrR) (h1 : Fg w k x r) (h2 : Fg w k y r2) (hT : TabZ w) (hk : k ≤ 100000) :
    Calls Tryz.prog 15 #[frV r, frV r2] w (OkR w (k + k + 1) (x + y)) := by
  have S := Lib.hid (TriF.new w r r2)
  obtain ⟨W0, hW0⟩ : ∃ W0, W0 = (((w.alloc (.cells (frC r) 27)).alloc (.cells (frC r2) 27)).alloc (.cells #[.int .i64 0, .slice none 0 0, .int .i64 0, .slice none 0 0] 27)) := ⟨_, rfl⟩
  rw [← hW0] at S
  have R1 := Lib.hid (right_T r (h1.past S.out.bl) (hT.on S.out.bl) (by omega))
  have R2 := Lib.hid (fun W (hb : Below w.heap.size w W) => right_T r2 (h2.past hb) (hT.on hb) (by omega))
  have H1 := Lib.hid h1
  have H2 := Lib.hid h2
  have HT := Lib.hid hT
  have C := Lib.hid (fun W (hb : Below w.heap.size w W) => sum_F r r2 (h1.past hb) (h2.past hb) (hT.on hb) hk)
  clear h1 h2 hT
  obtain ⟨s1, A1, n1, c1, s2, A2, n2, c2⟩ := r
  obtain ⟨s3, A3, n3, c3, s4, A4, n4, c4⟩ := r2
  dsimp only [frV, frC] at *
  obtain ⟨⟨ka0, ka1, ka2, ka3⟩, kb0, kb1, kb2, kb3⟩ := S.out.cells
  dsimp only at ka0 ka1 ka2 ka3 kb0 kb1 kb2 kb3
  go_enter Tryz.func15, Tryz.ntmps15
  go_wp2_with fail
  rw [← hW0]
  clear hW0
  go_wp2_with fail
  refine R1.out.mono ?_
  rintro e w1 ⟨rfl, hb⟩
  have S1 := Lib.hid (S.out.call hb)
  clear ka0 ka1 ka2 ka3 kb0 kb1 kb2 kb3 hb S R1
  obtain ⟨⟨ka0, ka1, ka2, ka3⟩, kb0, kb1, kb2, kb3⟩ := S1.out.cells
  dsimp only at ka0 ka1 ka2 ka3 kb0 kb1 kb2 kb3
  go_wp2_with fail
  refine (R2.out _ S1.out.bl).mono ?_
  rintro e w2 ⟨rfl, hb⟩
  have S2 := Lib.hid (S1.out.call hb)
  clear ka0 ka1 ka2 ka3 kb0 kb1 kb2 kb3 hb S1 R2
  obtain ⟨⟨ka0, ka1, ka2, ka3⟩, kb0, kb1, kb2, kb3⟩ := S2.out.cells
  dsimp only at ka0 ka1 ka2 ka3 kb0 kb1 kb2 kb3
  go_wp2_with fail
  refine (C.out _ S2.out.bl).mono ?_
  rintro e w3 ⟨⟨s5, A5, n5, c5, s6, A6, n6, c6⟩, rfl, hc1, hc2, hf, f1, f2, hb⟩
  have S3 := Lib.hid (S2.out.call hb)
  obtain ⟨kr0, kr1, kr2, kr3, q0, q1, q2, q3⟩ := fr_cells S3.out.k3
  obtain ⟨wf, hwf, r0, r1, r2, r3, kE⟩ := fr_end S3.out.k3 (by omega) S2.out.k3.lt S3.out.bl hf.1 hf.2 f1 f2 hc1 hc2 (Low.self _)
  have HE := Lib.hid kE.ok
  clear kE hc1 hc2 hf f1 f2 hb C ka0 ka1 ka2 ka3 kb0 kb1 kb2 kb3
  dsimp only [frV]
  go_wp2_with fail
  rw [← hwf]
  clear hwf
  exact bodyPost_ret (v := .tuple #[.agg #[.int .i64 s5, .slice A5 n5 c5, .int .i64 s6, .slice A6 n6 c6], .int .i64 0]) (by simp [results, Tryz.results15, go_sem, r0, r1, r2, r3]) rfl HE.out
set_option maxHeartbeats 8000000 in
theorem mul_R (r r2 : FrR) (h1 : Fg w k x r) (h2 : Fg w k y r2) (hT : TabZ w) (hk : k ≤ 100000) :
    Calls Tryz.prog 16 #[frV r, frV r2] w (OkR w (k + k) (x * y)) := by
  have S := Lib.hid (TriF.new w r r2)
  obtain ⟨W0, hW0⟩ : ∃ W0, W0 = (((w.alloc (.cells (frC r) 27)).alloc (.cells (frC r2) 27)).alloc (.cells #[.int .i64 0, .slice none 0 0, .int .i64 0, .slice none 0 0] 27)) := ⟨_, rfl⟩
  rw [← hW0] at S
  have R1 := Lib.hid (right_T r (h1.past S.out.bl) (hT.on S.out.bl) (by omega))
  have R2 := Lib.hid (fun W (hb : Below w.heap.size w W) => right_T r2 (h2.past hb) (hT.on hb) (by omega))
  have H1 := Lib.hid h1
  have H2 := Lib.hid h2
  have HT := Lib.hid hT
  have C := Lib.hid (fun W (hb : Below w.heap.size w W) => product_F r r2 (h1.past hb) (h2.past hb) (hT.on hb) hk)
  clear h1 h2 hT
  obtain ⟨s1, A1, n1, c1, s2, A2, n2, c2⟩ := r
  obtain ⟨s3, A3, n3, c3, s4, A4, n4, c4⟩ := r2
  dsimp only [frV, frC] at *
  obtain ⟨⟨ka0, ka1, ka2, ka3⟩, kb0, kb1, kb2, kb3⟩ := S.out.cells
  dsimp only at ka0 ka1 ka2 ka3 kb0 kb1 kb2 kb3
  go_enter Tryz.func16, Tryz.ntmps16
  go_wp2_with fail
  rw [← hW0]
  clear hW0
  go_wp2_with fail
  refine R1.out.mono ?_
  rintro e w1 ⟨rfl, hb⟩
  have S1 := Lib.hid (S.out.call hb)
  clear ka0 ka1 ka2 ka3 kb0 kb1 kb2 kb3 hb S R1
  obtain ⟨⟨ka0, ka1, ka2, ka3⟩, kb0, kb1, kb2, kb3⟩ := S1.out.cells
  dsimp only at ka0 ka1 ka2 ka3 kb0 kb1 kb2 kb3
  go_wp2_with fail
  refine (R2.out _ S1.out.bl).mono ?_
  rintro e w2 ⟨rfl, hb⟩
  have S2 := Lib.hid (S1.out.call hb)
  clear ka0 ka1 ka2 ka3 kb0 kb1 kb2 kb3 hb S1 R2
  obtain ⟨⟨ka0, ka1, ka2, ka3⟩, kb0, kb1, kb2, kb3⟩ := S2.out.cells
  dsimp only at ka0 ka1 ka2 ka3 kb0 kb1 kb2 kb3
  go_wp2_with fail
  refine (C.out _ S2.out.bl).mono ?_
  rintro e w3 ⟨⟨s5, A5, n5, c5, s6, A6, n6, c6⟩, rfl, hc1, hc2, hf, f1, f2, hb⟩
  have S3 := Lib.hid (S2.out.call hb)
  obtain ⟨kr0, kr1, kr2, kr3, q0, q1, q2, q3⟩ := fr_cells S3.out.k3
  obtain ⟨wf, hwf, r0, r1, r2, r3, kE⟩ := fr_end S3.out.k3 (by omega) S2.out.k3.lt S3.out.bl hf.1 hf.2 f1 f2 hc1 hc2 (Low.self _)
  have HE := Lib.hid kE.ok
  clear kE hc1 hc2 hf f1 f2 hb C ka0 ka1 ka2 ka3 kb0 kb1 kb2 kb3
  dsimp only [frV]
  go_wp2_with fail
  rw [← hwf]
  clear hwf
  exact bodyPost_ret (v := .tuple #[.agg #[.int .i64 s5, .slice A5 n5 c5, .int .i64 s6, .slice A6 n6 c6], .int .i64 0]) (by simp [results, Tryz.results16, go_sem, r0, r1, r2, r3]) rfl HE.out
set_option maxHeartbeats 8000000 in
theorem sub_R (r r2 : FrR) (h1 : Fg w k x r) (h2 : Fg w k y r2) (hT : TabZ w) (hk : k ≤ 100000) :
    Calls Tryz.prog 46 #[frV r, frV r2] w (OkR w (k + k + 1) (x - y)) := by
  have S := Lib.hid (TriF.new w r r2)
  obtain ⟨W0, hW0⟩ : ∃ W0, W0 = (((w.alloc (.cells (frC r) 27)).alloc (.cells (frC r2) 27)).alloc (.cells #[.int .i64 0, .slice none 0 0, .int .i64 0, .slice none 0 0] 27)) := ⟨_, rfl⟩
  rw [← hW0] at S
  have R1 := Lib.hid (right_T r (h1.past S.out.bl) (hT.on S.out.bl) (by omega))
  have R2 := Lib.hid (fun W (hb : Below w.heap.size w W) => right_T r2 (h2.past hb) (hT.on hb) (by omega))
  have H1 := Lib.hid h1
  have H2 := Lib.hid h2
  have HT := Lib.hid hT
  have hsg : -1 ≤ r2.s1 ∧ r2.s1 ≤ 1 := by rcases h2.1.sign with ⟨h, -⟩ | ⟨h, -⟩ | ⟨h, -⟩ <;> omega
  clear h1 h2 hT
  obtain ⟨s1, A1, n1, c1, s2, A2, n2, c2⟩ := r
  obtain ⟨s3, A3, n3, c3, s4, A4, n4, c4⟩ := r2
  dsimp only [frV, frC] at *
  obtain ⟨⟨ka0, ka1, ka2, ka3⟩, kb0, kb1, kb2, kb3⟩ := S.out.cells
  dsimp only at ka0 ka1 ka2 ka3 kb0 kb1 kb2 kb3
  go_enter Tryz.func46, Tryz.ntmps46
  go_wp2_with fail
  rw [← hW0]
  clear hW0
  go_wp2_with fail
  refine R1.out.mono ?_
  rintro e w1 ⟨rfl, hb⟩
  have S1 := Lib.hid (S.out.call hb)
  clear ka0 ka1 ka2 ka3 kb0 kb1 kb2 kb3 hb S R1
  obtain ⟨⟨ka0, ka1, ka2, ka3⟩, kb0, kb1, kb2, kb3⟩ := S1.out.cells
  dsimp only at ka0 ka1 ka2 ka3 kb0 kb1 kb2 kb3
  go_wp2_with fail
  refine (R2.out _ S1.out.bl).mono ?_
  rintro e w2 ⟨rfl, hb⟩
  have S2 := Lib.hid (S1.out.call hb)
  clear ka0 ka1 ka2 ka3 kb0 kb1 kb2 kb3 hb S1 R2
  obtain ⟨⟨ka0, ka1, ka2, ka3⟩, kb0, kb1, kb2, kb3⟩ := S2.out.cells
  dsimp only at ka0 ka1 ka2 ka3 kb0 kb1 kb2 kb3
  have D1 := Lib.hid (fun (W : World) => timesSign_any W s3 (-1) A3 n3 c3 hsg (.inr rfl))
  have D2 := Lib.hid (fun (W : World) (hb : Below w2.heap.size w2 W) => sum_F ⟨s1, A1, n1, c1, s2, A2, n2, c2⟩ ⟨-1 * s3, A3, n3, c3, s4, A4, n4, c4⟩ (H1.out.past (S2.out.call hb).bl) ((H2.out.past (S2.out.call hb).bl).sign_neg) (HT.out.on (S2.out.call hb).bl) hk)
  obtain ⟨m3, hm3⟩ : ∃ m, -1 * s3 = m := ⟨_, rfl⟩
  rw [hm3] at D1 D2
  clear hsg hm3
  have hres := S2.out.k3.lt
  go_upto_region 3 with (fail)
  have HC := Lib.hid (fun (w' : World) (h : Below w2.heap.size w2 w') => (⟨(h.cell (p := ⟨w.heap.size, 0, none⟩) (World.block_lt_of_cell? _ _ ka0)).trans ka0, (h.cell (p := ⟨w.heap.size, 1, none⟩) (World.block_lt_of_cell? _ _ ka1)).trans ka1, (h.cell (p := ⟨w.heap.size, 2, none⟩) (World.block_lt_of_cell? _ _ ka2)).trans ka2, (h.cell (p := ⟨w.heap.size, 3, none⟩) (World.block_lt_of_cell? _ _ ka3)).trans ka3, (h.cell (p := ⟨w.heap.size + 1, 0, none⟩) (World.block_lt_of_cell? _ _ kb0)).trans kb0, (h.cell (p := ⟨w.heap.size + 1, 1, none⟩) (World.block_lt_of_cell? _ _ kb1)).trans kb1, (h.cell (p := ⟨w.heap.size + 1, 2, none⟩) (World.block_lt_of_cell? _ _ kb2)).trans kb2, (h.cell (p := ⟨w.heap.size + 1, 3, none⟩) (World.block_lt_of_cell? _ _ kb3)).trans kb3⟩ : w'.cell? ⟨w.heap.size, 0, none⟩ = some (.int .i64 s1) ∧ w'.cell? ⟨w.heap.size, 1, none⟩ = some (.slice A1 n1 c1) ∧ w'.cell? ⟨w.heap.size, 2, none⟩ = some (.int .i64 s2) ∧ w'.cell? ⟨w.heap.size, 3, none⟩ = some (.slice A2 n2 c2) ∧ w'.cell? ⟨w.heap.size + 1, 0, none⟩ = some (.int .i64 s3) ∧ w'.cell? ⟨w.heap.size + 1, 1, none⟩ = some (.slice A3 n3 c3) ∧ w'.cell? ⟨w.heap.size + 1, 2, none⟩ = some (.int .i64 s4) ∧ w'.cell? ⟨w.heap.size + 1, 3, none⟩ = some (.slice A4 n4 c4)))
  clear ka0 ka1 ka2 ka3 kb0 kb1 kb2 kb3
  have Bv0 := Lib.hid (Below.refl w2.heap.size w2).drew
  have Tv0 := Lib.hid (S2.out.call (Below.refl w2.heap.size w2).drew)
  refine wp_region_held_drew (S := fun w' => w'.cell? ⟨w.heap.size, 0, none⟩ = some (.int .i64 s1) ∧ w'.cell? ⟨w.heap.size, 1, none⟩ = some (.slice A1 n1 c1) ∧ w'.cell? ⟨w.heap.size, 2, none⟩ = some (.int .i64 s2) ∧ w'.cell? ⟨w.heap.size, 3, none⟩ = some (.slice A2 n2 c2) ∧ w'.cell? ⟨w.heap.size + 1, 0, none⟩ = some (.int .i64 s3) ∧ w'.cell? ⟨w.heap.size + 1, 1, none⟩ = some (.slice A3 n3 c3) ∧ w'.cell? ⟨w.heap.size + 1, 2, none⟩ = some (.int .i64 s4) ∧ w'.cell? ⟨w.heap.size + 1, 3, none⟩ = some (.slice A4 n4 c4)) (by kernel_rfl) (HC.out _ Bv0.out) (fun hHeld => ?_)
  obtain ⟨vw0, hw⟩ : ∃ W, W = w2.drew := ⟨_, rfl⟩
  rw [← hw] at hHeld Bv0 Tv0 ⊢
  clear hw
  refine take_at (i := 0) (v := ?vv1) rfl (by kernel_rfl) (by kernel_rfl) (by kernel_rfl) (fun _ _ _ h => h) (Or.inl ⟨by rfl, ?vy1⟩) (by assumption) ?vr1
  case vy1 => (intro w hSw; (try dsimp only at hSw); obtain ⟨cc0, cc1, cc2, cc3, cc4, cc5, cc6, cc7⟩ := hSw; go_simp; (try with_reducible rfl))
  simp only [Act.put, uA, uB, uC]
  refine take_at (i := 1) (v := ?vv2) rfl (by kernel_rfl) (by kernel_rfl) (by kernel_rfl) (fun _ _ _ h => h) (Or.inl ⟨by rfl, ?vy2⟩) (by assumption) ?vr2
  case vy2 => (intro w hSw; (try dsimp only at hSw); go_simp; (try with_reducible rfl))
  simp only [Act.put, uA, uB, uC]
  refine take_at (i := 2) (v := ?vv3) rfl (by kernel_rfl) (by kernel_rfl) (by kernel_rfl) (fun _ _ _ h => h) (Or.inl ⟨by rfl, ?vy3⟩) (by assumption) ?vr3
  case vy3 => (intro w hSw; (try dsimp only at hSw); obtain ⟨cc0, cc1, cc2, cc3, cc4, cc5, cc6, cc7⟩ := hSw; go_simp; (try with_reducible rfl))
  simp only [Act.put, uA, uB, uC]
  refine take_at (i := 4) (v := ?vv4) rfl (by kernel_rfl) (by kernel_rfl) (by kernel_rfl) (fun _ _ _ h => h) (Or.inl ⟨by rfl, ?vy4⟩) (by assumption) ?vr4
  case vy4 => (intro w hSw; (try dsimp only at hSw); go_simp; (try with_reducible rfl))
  simp only [Act.put, uA, uB, uC]
  refine take_at (i := 5) (v := ?vv5) rfl (by kernel_rfl) (by kernel_rfl) (by kernel_rfl) (fun _ _ _ h => h) (Or.inl ⟨by rfl, ?vy5⟩) (by assumption) ?vr5
  case vy5 => (intro w hSw; (try dsimp only at hSw); obtain ⟨cc0, cc1, cc2, cc3, cc4, cc5, cc6, cc7⟩ := hSw; go_simp; (try with_reducible rfl))
  simp only [Act.put, uA, uB, uC]
  refine wpAnyH_ready (rs := [3]) (by kernel_rfl) (by simp) ?_
  refine cons_at (i := 3) rfl (fun K hK => ?_) AllReadyH.nil
  go_simp
  refine (D1.out _).mono ?_
  rintro e vw6 ⟨rfl, hb⟩
  try dsimp only
  have X6 := Lib.hid hb
  have Bv7 := Lib.hid (Bv0.out.trans (X6.out.mono Bv0.out.size))
  have Tv7 := Lib.hid (Tv0.out.call X6.out)
  refine hK.out _ _ ?_ (fun hHeld => ?_)
  · exact HC.out _ Bv7.out
  clear Bv0 Tv0 X6 hb
  clear hK K
  (try simp only [Act.put, uA, uB, uC])
  refine take_at (i := 6) (v := ?vv8) rfl (by kernel_rfl) (by kernel_rfl) (by kernel_rfl) (fun _ _ _ h => h) (Or.inl ⟨by rfl, ?vy8⟩) (by assumption) ?vr8
  case vy8 => (intro w hSw; (try dsimp only at hSw); go_simp; (try with_reducible rfl))
  simp only [Act.put, uA, uB, uC]
  refine wpAnyH_ready (rs := [7]) (by kernel_rfl) (by simp) ?_
  refine cons_at (i := 7) rfl (fun K hK => ?_) AllReadyH.nil
  have hltF7 := Lib.hid Tv7.out.k3.lt
  go_simp
  refine (D2.out _ Bv7.out).mono ?_
  rintro e vw9 ⟨⟨spF7, ApF7, npF7, cpF7, sqF7, AqF7, nqF7, cqF7⟩, rfl, hc1, hc2, hf, f1, f2, hb⟩
  try dsimp only [frV]
  try dsimp only
  have X9 := Lib.hid hb
  have HC1F7 := Lib.hid hc1
  have HC2F7 := Lib.hid hc2
  have FGF7 := Lib.hid hf
  have FR1F7 := Lib.hid f1
  have FR2F7 := Lib.hid f2
  have Bv10 := Lib.hid (Bv7.out.trans (X9.out.mono Bv7.out.size))
  have Tv10 := Lib.hid (Tv7.out.call X9.out)
  refine hK.out _ _ ?_ (fun hHeld => ?_)
  · exact HC.out _ Bv10.out
  clear Bv7 Tv7 X9 hc1 hc2 hf f1 f2 hb
  clear hK K
  (try simp only [Act.put, uA, uB, uC])
  refine wpAnyH_ready (rs := [8]) (by kernel_rfl) (by simp) ?_
  refine cons_at (i := 8) rfl (fun K hK => ?_) AllReadyH.nil
  obtain ⟨f0, f1, f2, f3, f4, f5, f6, f7⟩ := fr_cells Tv10.out.k3
  go_simp
  clear f0 f1 f2 f3 f4 f5 f6 f7
  obtain ⟨wf, hwf, r0, r1, r2, r3, kE⟩ := fr_end Tv10.out.k3 (by omega) hltF7.out Tv10.out.bl FGF7.out.1 FGF7.out.2 FR1F7.out FR2F7.out HC1F7.out HC2F7.out (Low.self _)
  have HE := Lib.hid kE
  clear kE
  refine hK.out _ _ ?_ (fun hHeld => ?_)
  · obtain ⟨cc0, cc1, cc2, cc3, cc4, cc5, cc6, cc7⟩ := HC.out _ Bv10.out
    exact ⟨stc4 cc0 (by dsimp only; omega), stc4 cc1 (by dsimp only; omega), stc4 cc2 (by dsimp only; omega), stc4 cc3 (by dsimp only; omega), stc4 cc4 (by dsimp only; omega), stc4 cc5 (by dsimp only; omega), stc4 cc6 (by dsimp only; omega), stc4 cc7 (by dsimp only; omega)⟩
  clear hK K
  (try simp only [Act.put, uA, uB, uC])
  refine take_at (i := 9) (v := ?vv12) rfl (by kernel_rfl) (by kernel_rfl) (by kernel_rfl) (fun _ _ _ h => h) (Or.inl ⟨by rfl, ?vy12⟩) (by assumption) ?vr12
  case vy12 => (intro w hSw; (try dsimp only at hSw); go_simp; (try with_reducible rfl))
  simp only [Act.put, uA, uB, uC]
  refine wpAnyH_done (by kernel_rfl) ?_ _
  rw [← Rat.sub_eq_add_neg] at HE
  go_wp2_with fail
  rw [← hwf]
  clear hwf
  exact bodyPost_ret (v := .tuple #[.agg #[.int .i64 spF7, .slice ApF7 npF7 cpF7, .int .i64 sqF7, .slice AqF7 nqF7 cqF7], .int .i64 0]) (by simp [results, Tryz.results46, go_sem, r0, r1, r2, r3]) rfl HE.out.ok
end
end Go.Proofs.YtehofikfbcallaaGreatDoor
