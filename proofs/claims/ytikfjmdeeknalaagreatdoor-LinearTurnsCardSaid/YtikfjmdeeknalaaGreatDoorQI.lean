/- The walks of frac's Add, Sub, Mul and Div at right fractions. Conditions: sizes; the table of math/bits as its text lays it. -/
import Derived.Test.YtikfjmdeeknalaaGreatDoorQH
import Derived.Deep.DeepCutAuto
namespace Go.Proofs.YtikfjmdeeknalaaGreatDoor
set_option maxRecDepth 20000
open Go.RowKit

/-- How a function ends that returns a right fraction, and OK. -/
def OkR (w : World) (k : Nat) (x : Rat) (e : Ending) (w' : World) : Prop := ∃ r : FrR, e = .returned (.tuple #[frV r, .int .i64 0]) ∧ r.n1 ≤ r.c1 ∧ r.n2 ≤ r.c2 ∧ Fg w' k x r ∧ Fresh w r.A1 r.n1 ∧ Fresh w r.A2 r.n2 ∧ Below w.heap.size w w'
theorem FrEnd.ok {w w' : World} {k : Nat} {x : Rat} {v : Value} (h : FrEnd w k x (.returned v) w') : OkR w k x (.returned (.tuple #[v, .int .i64 0])) w' := by
  obtain ⟨r, e, h⟩ := h
  cases e
  exact ⟨r, rfl, h⟩
theorem Fg.sign_neg {w : World} {k : Nat} {x : Rat} {s1 s2 : Int} {A1 A2 : Option Addr} {n1 c1 n2 c2 : Nat} (h : Fg w k x ⟨s1, A1, n1, c1, s2, A2, n2, c2⟩) : Fg w k (-x) ⟨-1 * s1, A1, n1, c1, s2, A2, n2, c2⟩ := by
  refine ⟨?_, ?_⟩
  · rw [Rat.neg_num, Int.neg_one_mul]
    exact h.1.sign_neg
  · rw [Rat.neg_den]
    exact h.2
theorem Fg.den_one {w : World} {k : Nat} {x : Rat} {r : FrR} (h : Fg w k x r) : r.s2 = 1 := by
  rcases h.2.sign with ⟨a, -⟩ | ⟨-, a⟩ | ⟨-, a⟩
  · exact a
  · omega
  · have := x.den_pos; omega
/-- The parts of a fraction that is not 0, exchanged. -/
theorem Fg.turn {w : World} {k : Nat} {x : Rat} {s1 s2 : Int} {A1 A2 : Option Addr} {n1 c1 n2 c2 : Nat} (h : Fg w k x ⟨s1, A1, n1, c1, s2, A2, n2, c2⟩) (hx : x ≠ 0) : Fg w k x⁻¹ ⟨s1 * s2, A2, n2, c2, s1 * s1, A1, n1, c1⟩ := by
  have hn : x.num ≠ 0 := fun e => hx (Rat.num_eq_zero.1 e)
  have e2 : s2 = 1 := h.den_one
  obtain ⟨h1, h2⟩ := h
  dsimp only at h1 h2
  subst e2
  have hnum : (x⁻¹).num = x.num.sign * (x.den : Int) := Rat.num_inv x
  have hden : ((x⁻¹).den : Int) = (x.num.natAbs : Int) := by rw [Rat.den_inv, if_neg hn]
  refine ⟨?_, ?_⟩
  · rw [hnum, Int.mul_one]
    dsimp only
    rcases h1.sign with ⟨rfl, hp⟩ | ⟨rfl, hp⟩ | ⟨-, hp⟩
    · rw [Int.sign_eq_one_of_pos hp, Int.one_mul]; exact h2
    · rw [Int.sign_eq_neg_one_of_neg hp, Int.neg_one_mul]; exact h2.sign_neg
    · exact absurd hp hn
  · rw [hden]
    dsimp only
    rcases h1.sign with ⟨rfl, hp⟩ | ⟨rfl, hp⟩ | ⟨-, hp⟩
    · rw [show ((x.num.natAbs : Nat) : Int) = x.num by omega]; exact h1
    · rw [show ((x.num.natAbs : Nat) : Int) = -x.num by omega]; exact h1.sign_neg
    · exact absurd hp hn
section
variable {w : World} {k : Nat} {x y : Rat}
set_option maxHeartbeats 8000000 in
theorem add_R (r r2 : FrR) (h1 : Fg w k x r) (h2 : Fg w k y r2) (hT : TabZ w) (hk : k ≤ 100000) :
    Calls Tryz.prog 43 #[frV r, frV r2] w (OkR w (k + k + 1) (x + y)) := by
  have S := Lib.hid (TriF.new w r r2)
  obtain ⟨W0, hW0⟩ : ∃ W0, W0 = (((w.alloc (.cells (frC r) 43)).alloc (.cells (frC r2) 43)).alloc (.cells #[.int .i64 0, .slice none 0 0, .int .i64 0, .slice none 0 0] 43)) := ⟨_, rfl⟩
  rw [← hW0] at S
  have R1 := Lib.hid (right_T r (h1.past S.out.bl) (hT.on S.out.bl) (by omega))
  have R2 := Lib.hid (fun W (hb : Below w.heap.size w W) => right_T r2 (h2.past hb) (hT.on hb) (by omega))
  have H1 := Lib.hid h1
  have H2 := Lib.hid h2
  have HT := Lib.hid hT
  have C := Lib.hid (fun W (hb : Below w.heap.size w W) => sum_F r r2 (h1.past hb) (h2.past hb) (hT.on hb) hk)
  clear h1 h2 hT
  obtain ⟨s1, A1, n1, c1, s2, A2, n2, c2⟩ := r
  obtain ⟨s3, A3, n3, c3, s4, A4, n4, c4⟩ := r2
  dsimp only [frV, frC] at *
  obtain ⟨⟨ka0, ka1, ka2, ka3⟩, kb0, kb1, kb2, kb3⟩ := S.out.cells
  dsimp only at ka0 ka1 ka2 ka3 kb0 kb1 kb2 kb3
  go_enter Tryz.func43, Tryz.ntmps43
  go_wp2_with fail
  rw [← hW0]
  clear hW0
  go_wp2_with fail
  refine R1.out.mono ?_
  rintro e w1 ⟨rfl, hb⟩
  have S1 := Lib.hid (S.out.call hb)
  clear ka0 ka1 ka2 ka3 kb0 kb1 kb2 kb3 hb S R1
  obtain ⟨⟨ka0, ka1, ka2, ka3⟩, kb0, kb1, kb2, kb3⟩ := S1.out.cells
  dsimp only at ka0 ka1 ka2 ka3 kb0 kb1 kb2 kb3
  go_wp2_with fail
  refine (R2.out _ S1.out.bl).mono ?_
  rintro e w2 ⟨rfl, hb⟩
  have S2 := Lib.hid (S1.out.call hb)
  clear ka0 ka1 ka2 ka3 kb0 kb1 kb2 kb3 hb S1 R2
  obtain ⟨⟨ka0, ka1, ka2, ka3⟩, kb0, kb1, kb2, kb3⟩ := S2.out.cells
  dsimp only at ka0 ka1 ka2 ka3 kb0 kb1 kb2 kb3
  go_wp2_with fail
  refine (C.out _ S2.out.bl).mono ?_
  rintro e w3 ⟨⟨s5, A5, n5, c5, s6, A6, n6, c6⟩, rfl, hc1, hc2, hf, f1, f2, hb⟩
  have S3 := Lib.hid (S2.out.call hb)
  obtain ⟨kr0, kr1, kr2, kr3, q0, q1, q2, q3⟩ := fr_cells S3.out.k3
  obtain ⟨wf, hwf, r0, r1, r2, r3, kE⟩ := fr_end S3.out.k3 (by omega) S2.out.k3.lt S3.out.bl hf.1 hf.2 f1 f2 hc1 hc2 (Low.self _)
  have HE := Lib.hid kE.ok
  clear kE hc1 hc2 hf f1 f2 hb C ka0 ka1 ka2 ka3 kb0 kb1 kb2 kb3
  dsimp only [frV]
  go_wp2_with fail
  rw [← hwf]
  clear hwf
  exact bodyPost_ret (v := .tuple #[.agg #[.int .i64 s5, .slice A5 n5 c5, .int .i64 s6, .slice A6 n6 c6], .int .i64 0]) (by simp [results, Tryz.results43, go_sem, r0, r1, r2, r3]) rfl HE.out
set_option maxHeartbeats 8000000 in
theorem mul_R (r r2 : FrR) (h1 : Fg w k x r) (h2 : Fg w k y r2) (hT : TabZ w) (hk : k ≤ 100000) :
    Calls Tryz.prog 48 #[frV r, frV r2] w (OkR w (k + k) (x * y)) := by
  have S := Lib.hid (TriF.new w r r2)
  obtain ⟨W0, hW0⟩ : ∃ W0, W0 = (((w.alloc (.cells (frC r) 43)).alloc (.cells (frC r2) 43)).alloc (.cells #[.int .i64 0, .slice none 0 0, .int .i64 0, .slice none 0 0] 43)) := ⟨_, rfl⟩
  rw [← hW0] at S
  have R1 := Lib.hid (right_T r (h1.past S.out.bl) (hT.on S.out.bl) (by omega))
  have R2 := Lib.hid (fun W (hb : Below w.heap.size w W) => right_T r2 (h2.past hb) (hT.on hb) (by omega))
  have H1 := Lib.hid h1
  have H2 := Lib.hid h2
  have HT := Lib.hid hT
  have C := Lib.hid (fun W (hb : Below w.heap.size w W) => product_F r r2 (h1.past hb) (h2.past hb) (hT.on hb) hk)
  clear h1 h2 hT
  obtain ⟨s1, A1, n1, c1, s2, A2, n2, c2⟩ := r
  obtain ⟨s3, A3, n3, c3, s4, A4, n4, c4⟩ := r2
  dsimp only [frV, frC] at *
  obtain ⟨⟨ka0, ka1, ka2, ka3⟩, kb0, kb1, kb2, kb3⟩ := S.out.cells
  dsimp only at ka0 ka1 ka2 ka3 kb0 kb1 kb2 kb3
  go_enter Tryz.func48, Tryz.ntmps48
  go_wp2_with fail
  rw [← hW0]
  clear hW0
  go_wp2_with fail
  refine R1.out.mono ?_
  rintro e w1 ⟨rfl, hb⟩
  have S1 := Lib.hid (S.out.call hb)
  clear ka0 ka1 ka2 ka3 kb0 kb1 kb2 kb3 hb S R1
  obtain ⟨⟨ka0, ka1, ka2, ka3⟩, kb0, kb1, kb2, kb3⟩ := S1.out.cells
  dsimp only at ka0 ka1 ka2 ka3 kb0 kb1 kb2 kb3
  go_wp2_with fail
  refine (R2.out _ S1.out.bl).mono ?_
  rintro e w2 ⟨rfl, hb⟩
  have S2 := Lib.hid (S1.out.call hb)
  clear ka0 ka1 ka2 ka3 kb0 kb1 kb2 kb3 hb S1 R2
  obtain ⟨⟨ka0, ka1, ka2, ka3⟩, kb0, kb1, kb2, kb3⟩ := S2.out.cells
  dsimp only at ka0 ka1 ka2 ka3 kb0 kb1 kb2 kb3
  go_wp2_with fail
  refine (C.out _ S2.out.bl).mono ?_
  rintro e w3 ⟨⟨s5, A5, n5, c5, s6, A6, n6, c6⟩, rfl, hc1, hc2, hf, f1, f2, hb⟩
  have S3 := Lib.hid (S2.out.call hb)
  obtain ⟨kr0, kr1, kr2, kr3, q0, q1, q2, q3⟩ := fr_cells S3.out.k3
  obtain ⟨wf, hwf, r0, r1, r2, r3, kE⟩ := fr_end S3.out.k3 (by omega) S2.out.k3.lt S3.out.bl hf.1 hf.2 f1 f2 hc1 hc2 (Low.self _)
  have HE := Lib.hid kE.ok
  clear kE hc1 hc2 hf f1 f2 hb C ka0 ka1 ka2 ka3 kb0 kb1 kb2 kb3
  dsimp only [frV]
  go_wp2_with fail
  rw [← hwf]
  clear hwf
  exact bodyPost_ret (v := .tuple #[.agg #[.int .i64 s5, .slice A5 n5 c5, .int .i64 s6, .slice A6 n6 c6], .int .i64 0]) (by simp [results, Tryz.results48, go_sem, r0, r1, r2, r3]) rfl HE.out
end
end Go.Proofs.YtikfjmdeeknalaaGreatDoor
