/- Words on the order of fractions, and the walks of frac's Min and Max, for the law FracOrder. Conditions: sizes; the table of math/bits as its text lays it. -/
import Derived.Test.YtmkhoofeekollaaGreatDoorQ9
import Derived.Test.YtmkhoofeekollaaGreatDoorR0
import Derived.Deep.DeepCutAuto
namespace Go.Proofs.YtmkhoofeekollaaGreatDoor
set_option maxRecDepth 20000
open Go.RowKit

theorem ordR_cases (x y : Rat) : (x < y ∧ ordR x y = -1) ∨ (x = y ∧ ordR x y = 0) ∨ (y < x ∧ ordR x y = 1) := by
  unfold ordR
  by_cases h : x < y
  · exact .inl ⟨h, by rw [if_pos h]⟩
  · rw [if_neg h]
    by_cases h2 : x = y
    · exact .inr (.inl ⟨h2, by rw [if_pos h2]⟩)
    · have := Rat.lt_of_le_of_ne (Rat.not_lt.1 h) (Ne.symm h2)
      exact .inr (.inr ⟨this, by rw [if_neg h2]⟩)
theorem ordR_self (x : Rat) : ordR x x = 0 := by unfold ordR; rw [if_neg Rat.lt_irrefl, if_pos rfl]
theorem ordR_zero {x y : Rat} : ordR x y = 0 ↔ x = y := by
  rcases ordR_cases x y with ⟨h, e⟩ | ⟨h, e⟩ | ⟨h, e⟩
  · rw [e]; exact ⟨fun h2 => by omega, fun h2 => by subst h2; exact absurd h Rat.lt_irrefl⟩
  · rw [e]; exact ⟨fun _ => h, fun _ => rfl⟩
  · rw [e]; exact ⟨fun h2 => by omega, fun h2 => by subst h2; exact absurd h Rat.lt_irrefl⟩
theorem ordR_swap (x y : Rat) : ordR y x = - ordR x y := by
  rcases ordR_cases x y with ⟨h, e⟩ | ⟨h, e⟩ | ⟨h, e⟩
  · rw [e, ordR_gt h]; rfl
  · subst h; rw [ordR_self]; rfl
  · rw [e, ordR_lt h]
theorem ordR_range (x y : Rat) : -1 ≤ ordR x y ∧ ordR x y ≤ 1 := by
  rcases ordR_cases x y with ⟨-, e⟩ | ⟨-, e⟩ | ⟨-, e⟩ <;> rw [e] <;> decide
theorem ordR_le {x y : Rat} : ordR x y ≤ 0 ↔ x ≤ y := by
  rcases ordR_cases x y with ⟨h, e⟩ | ⟨h, e⟩ | ⟨h, e⟩
  · rw [e]; exact ⟨fun _ => Rat.le_of_lt h, fun _ => by decide⟩
  · subst h; rw [e]; exact ⟨fun _ => Rat.le_refl, fun _ => by decide⟩
  · rw [e]; exact ⟨fun h2 => absurd h2 (by decide), fun h2 => absurd h (Rat.not_lt.2 h2)⟩
theorem ordR_ge {x y : Rat} : 0 ≤ ordR x y ↔ y ≤ x := by
  rw [← ordR_le, ordR_swap x y]; omega
theorem ordR_trans {x y z : Rat} (h : ordR x y ≤ 0) (h' : ordR y z ≤ 0) : ordR x z ≤ 0 := ordR_le.2 (Rat.le_trans (ordR_le.1 h) (ordR_le.1 h'))
theorem add_lt {x y z : Rat} (h : x < y) : x + z < y + z := Rat.add_lt_add_right.2 h
theorem ordR_add (x y z : Rat) : ordR (x + z) (y + z) = ordR x y := by
  rcases ordR_cases x y with ⟨h, e⟩ | ⟨h, e⟩ | ⟨h, e⟩
  · rw [e, ordR_lt (add_lt h)]
  · subst h; rw [ordR_self, ordR_self]
  · rw [e, ordR_gt (add_lt h)]
theorem ordR_neg (x y : Rat) : ordR (-x) (-y) = - ordR x y := by
  rcases ordR_cases x y with ⟨h, e⟩ | ⟨h, e⟩ | ⟨h, e⟩
  · rw [e, ordR_gt (Rat.neg_lt_neg h)]; rfl
  · subst h; rw [ordR_self, ordR_self]; rfl
  · rw [e, ordR_lt (Rat.neg_lt_neg h)]
theorem sgnR_ord (x : Rat) : sgnR x = ordR x 0 := by
  rcases sgnR_cases x with ⟨h, e⟩ | ⟨h, e⟩ | ⟨h, e⟩
  · rw [e, ordR_lt h]
  · subst h; rw [ordR_self]; rfl
  · rw [e, ordR_gt h]
theorem sgnR_sub (x y : Rat) : sgnR (x - y) = ordR x y := by
  rw [sgnR_ord, ← ordR_add (x - y) 0 y, Rat.zero_add, Rat.sub_eq_add_neg, Rat.add_assoc, Rat.neg_add_cancel, Rat.add_zero]
theorem mul_lt {x y z : Rat} (hz : 0 < z) (h : x < y) : x * z < y * z := Rat.mul_lt_mul_of_pos_right h hz
theorem mul_lt_neg {x y z : Rat} (hz : z < 0) (h : x < y) : y * z < x * z := by
  have h1 := mul_lt (z := -z) (by have := Rat.neg_lt_neg hz; rwa [Rat.neg_zero] at this) h
  rw [Rat.mul_neg, Rat.mul_neg] at h1
  have h2 := Rat.neg_lt_neg h1
  rwa [Rat.neg_neg, Rat.neg_neg] at h2
theorem ordR_mul (x y z : Rat) : ordR (x * z) (y * z) = ordR x y * sgnR z := by
  rcases sgnR_cases z with ⟨hz, ez⟩ | ⟨hz, ez⟩ | ⟨hz, ez⟩
  · rw [ez]
    rcases ordR_cases x y with ⟨h, e⟩ | ⟨h, e⟩ | ⟨h, e⟩
    · rw [e, ordR_gt (mul_lt_neg hz h)]; rfl
    · subst h; rw [ordR_self, ordR_self]; rfl
    · rw [e, ordR_lt (mul_lt_neg hz h)]; rfl
  · subst hz; rw [ez, Rat.mul_zero, Rat.mul_zero, ordR_self]; omega
  · rw [ez, Int.mul_one]
    rcases ordR_cases x y with ⟨h, e⟩ | ⟨h, e⟩ | ⟨h, e⟩
    · rw [e, ordR_lt (mul_lt hz h)]
    · subst h; rw [ordR_self, ordR_self]
    · rw [e, ordR_gt (mul_lt hz h)]
theorem sub_undo (x y : Rat) : x + y - y = x := by
  rw [Rat.sub_eq_add_neg, Rat.add_assoc, Rat.add_neg_cancel, Rat.add_zero]
theorem div_undo {x y : Rat} (h : y ≠ 0) : x * y / y = x := by
  rw [Rat.div_def, Rat.mul_assoc, Rat.mul_inv_cancel y h, Rat.mul_one]
section
variable {w : World} {k : Nat} {x y : Rat}
set_option maxHeartbeats 4000000 in
theorem min_b (r r2 : FrR) (h1 : Fg w k x r) (h2 : Fg w k y r2) (hT : TabZ w) (hk : k ≤ 100000) (ho : ordR y x = -1) :
    Calls Tryz.prog 24 #[frV r, frV r2] w (OkR w k y) := by
  have S := Lib.hid (TriF.new w r r2)
  obtain ⟨W0, hW0⟩ : ∃ W0, W0 = (((w.alloc (.cells (frC r) 26)).alloc (.cells (frC r2) 26)).alloc (.cells #[.int .i64 0, .slice none 0 0, .int .i64 0, .slice none 0 0] 26)) := ⟨_, rfl⟩
  rw [← hW0] at S
  have C := Lib.hid (choose_b r r2 (h1.past S.out.bl) (h2.past S.out.bl) (hT.on S.out.bl) hk (-1) ho)
  clear h1 h2 hT ho
  obtain ⟨s1, A1, n1, c1, s2, A2, n2, c2⟩ := r
  obtain ⟨s3, A3, n3, c3, s4, A4, n4, c4⟩ := r2
  dsimp only [frV, frC] at *
  obtain ⟨⟨ka0, ka1, ka2, ka3⟩, kb0, kb1, kb2, kb3⟩ := S.out.cells
  dsimp only at ka0 ka1 ka2 ka3 kb0 kb1 kb2 kb3
  go_enter Tryz.func24, Tryz.ntmps24
  go_wp2_with fail
  rw [← hW0]
  clear hW0
  go_wp2_with fail
  refine C.out.mono ?_
  rintro e w3 ⟨⟨s5, A5, n5, c5, s6, A6, n6, c6⟩, rfl, hc1, hc2, hf, f1, f2, hb⟩
  have S3 := Lib.hid (S.out.call hb)
  obtain ⟨kr0, kr1, kr2, kr3, q0, q1, q2, q3⟩ := fr_cells S3.out.k3
  obtain ⟨wf, hwf, r0, r1, r2, r3, kE⟩ := fr_end S3.out.k3 (by omega) S.out.k3.lt S3.out.bl hf.1 hf.2 f1 f2 hc1 hc2 (Low.self _)
  have HE := Lib.hid kE.ok
  clear kE hc1 hc2 hf f1 f2 hb C ka0 ka1 ka2 ka3 kb0 kb1 kb2 kb3
  dsimp only [frV]
  go_wp2_with fail
  rw [← hwf]
  clear hwf
  exact bodyPost_ret (v := .tuple #[.agg #[.int .i64 s5, .slice A5 n5 c5, .int .i64 s6, .slice A6 n6 c6], .int .i64 0]) (by simp [results, Tryz.results24, go_sem, r0, r1, r2, r3]) rfl HE.out
set_option maxHeartbeats 4000000 in
theorem max_a (r r2 : FrR) (h1 : Fg w k x r) (h2 : Fg w k y r2) (hT : TabZ w) (hk : k ≤ 100000) (ho : ordR y x ≠ 1) :
    Calls Tryz.prog 25 #[frV r, frV r2] w (OkR w k x) := by
  have S := Lib.hid (TriF.new w r r2)
  obtain ⟨W0, hW0⟩ : ∃ W0, W0 = (((w.alloc (.cells (frC r) 26)).alloc (.cells (frC r2) 26)).alloc (.cells #[.int .i64 0, .slice none 0 0, .int .i64 0, .slice none 0 0] 26)) := ⟨_, rfl⟩
  rw [← hW0] at S
  have C := Lib.hid (choose_a r r2 (h1.past S.out.bl) (h2.past S.out.bl) (hT.on S.out.bl) hk (1) ho)
  clear h1 h2 hT ho
  obtain ⟨s1, A1, n1, c1, s2, A2, n2, c2⟩ := r
  obtain ⟨s3, A3, n3, c3, s4, A4, n4, c4⟩ := r2
  dsimp only [frV, frC] at *
  obtain ⟨⟨ka0, ka1, ka2, ka3⟩, kb0, kb1, kb2, kb3⟩ := S.out.cells
  dsimp only at ka0 ka1 ka2 ka3 kb0 kb1 kb2 kb3
  go_enter Tryz.func25, Tryz.ntmps25
  go_wp2_with fail
  rw [← hW0]
  clear hW0
  go_wp2_with fail
  refine C.out.mono ?_
  rintro e w3 ⟨⟨s5, A5, n5, c5, s6, A6, n6, c6⟩, rfl, hc1, hc2, hf, f1, f2, hb⟩
  have S3 := Lib.hid (S.out.call hb)
  obtain ⟨kr0, kr1, kr2, kr3, q0, q1, q2, q3⟩ := fr_cells S3.out.k3
  obtain ⟨wf, hwf, r0, r1, r2, r3, kE⟩ := fr_end S3.out.k3 (by omega) S.out.k3.lt S3.out.bl hf.1 hf.2 f1 f2 hc1 hc2 (Low.self _)
  have HE := Lib.hid kE.ok
  clear kE hc1 hc2 hf f1 f2 hb C ka0 ka1 ka2 ka3 kb0 kb1 kb2 kb3
  dsimp only [frV]
  go_wp2_with fail
  rw [← hwf]
  clear hwf
  exact bodyPost_ret (v := .tuple #[.agg #[.int .i64 s5, .slice A5 n5 c5, .int .i64 s6, .slice A6 n6 c6], .int .i64 0]) (by simp [results, Tryz.results25, go_sem, r0, r1, r2, r3]) rfl HE.out
end
/-- The lower of two, and the higher. -/
def lowR (x y : Rat) : Rat := if ordR y x = -1 then y else x
def highR (x y : Rat) : Rat := if ordR y x = 1 then y else x
theorem low_high (x y : Rat) : (ordR y x = -1 ∧ lowR x y = y ∧ highR x y = x ∧ x ≠ y) ∨ (ordR y x ≠ -1 ∧ lowR x y = x ∧ highR x y = y) := by
  unfold lowR highR
  rcases ordR_cases y x with ⟨h, e⟩ | ⟨h, e⟩ | ⟨h, e⟩
  · refine .inl ⟨e, by rw [if_pos e], by rw [e]; exact if_neg (by decide), fun g => ?_⟩
    subst g
    exact lt_irr h h
  · exact .inr ⟨by rw [e]; decide, by rw [e]; exact if_neg (by decide), by rw [e, h]; exact if_neg (by decide)⟩
  · exact .inr ⟨by rw [e]; decide, by rw [e]; exact if_neg (by decide), by rw [if_pos e]⟩
theorem low_add (x y : Rat) : lowR x y + highR x y = x + y := by
  rcases low_high x y with ⟨-, e, f, -⟩ | ⟨-, e, f⟩ <;> rw [e, f]
  exact Rat.add_comm ..
theorem low_le (x y : Rat) : ordR (lowR x y) (highR x y) ≤ 0 := by
  rcases low_high x y with ⟨h, e, f, -⟩ | ⟨h, e, f⟩ <;> rw [e, f]
  · rw [h]; decide
  · rw [ordR_swap]
    have := ordR_range y x
    omega
section
variable {w : World} {k : Nat} {x y : Rat}
theorem min_R (r r2 : FrR) (h1 : Fg w k x r) (h2 : Fg w k y r2) (hT : TabZ w) (hk : k ≤ 100000) :
    Calls Tryz.prog 24 #[frV r, frV r2] w (OkR w k (lowR x y)) := by
  unfold lowR
  split
  · exact min_b r r2 h1 h2 hT hk (by assumption)
  · exact min_a r r2 h1 h2 hT hk (by assumption)
theorem max_R (r r2 : FrR) (h1 : Fg w k x r) (h2 : Fg w k y r2) (hT : TabZ w) (hk : k ≤ 100000) :
    Calls Tryz.prog 25 #[frV r, frV r2] w (OkR w k (highR x y)) := by
  unfold highR
  split
  · exact max_b r r2 h1 h2 hT hk (by assumption)
  · exact max_a r r2 h1 h2 hT hk (by assumption)
end
end Go.Proofs.YtmkhoofeekollaaGreatDoor
