/- The walk of frac's product at right fractions. Conditions: sizes; the table of math/bits as its text lays it. -/
import Derived.Test.YtikfjmdeeknalaaGreatDoorQC
import Derived.Deep.DeepCutAuto
namespace Go.Proofs.YtikfjmdeeknalaaGreatDoor
set_option maxRecDepth 20000
open Go.RowKit

section
variable {w : World} {k : Nat} {x y : Rat}
set_option maxHeartbeats 16000000 in
theorem product_F (r r2 : FrR) (h1 : Fg w k x r) (h2 : Fg w k y r2) (hT : TabZ w) (hk : k ≤ 100000) :
    Calls Tryz.prog 153 #[frV r, frV r2] w (FrEnd w (k + k) (x * y)) := by
  have S := Lib.hid (TriF.new w r r2)
  have C := Lib.hid (smallPair_any r r2 (h1.past S.out.bl) (h2.past S.out.bl) (by omega) (by omega))
  have HS := Lib.hid (prod_sz h1.sz.1 h1.sz.2 h2.sz.1 h2.sz.2)
  have H1 := Lib.hid h1
  have H2 := Lib.hid h2
  have HT := Lib.hid hT
  obtain ⟨g, hg⟩ : ∃ g : Int, ((Int.gcd x.num (y.den : Int) : Nat) : Int) = g := ⟨_, rfl⟩
  have hg0 : 0 < g := by
    have : 0 < Int.gcd x.num (y.den : Int) := Int.gcd_pos_of_ne_zero_right _ (by have := y.den_pos; omega)
    omega
  obtain ⟨h, hh⟩ : ∃ h : Int, ((Int.gcd y.num (x.den : Int) : Nat) : Int) = h := ⟨_, rfl⟩
  have hh0 : 0 < h := by
    have : 0 < Int.gcd y.num (x.den : Int) := Int.gcd_pos_of_ne_zero_right _ (by have := x.den_pos; omega)
    omega
  have HGG := Lib.hid hg
  have HHH := Lib.hid hh
  have HZG : Hid (Sz k g) := by show Sz _ _; rw [← hg]; exact gcd_sz h1.sz.1 h2.sz.2
  have HZH : Hid (Sz k h) := by show Sz _ _; rw [← hh]; exact gcd_sz h2.sz.1 h1.sz.2
  obtain ⟨q1, q2, q3⟩ := gcd_parts hg hg0
  obtain ⟨q4, q5, q6⟩ := gcd_parts hh hh0
  obtain ⟨ga, e1⟩ : ∃ q : Int, q = x.num / g := ⟨_, rfl⟩
  obtain ⟨gb, e2⟩ : ∃ q : Int, q = (y.den : Int) / g := ⟨_, rfl⟩
  obtain ⟨gc, e3⟩ : ∃ q : Int, q = y.num / h := ⟨_, rfl⟩
  obtain ⟨gd, e4⟩ : ∃ q : Int, q = (x.den : Int) / h := ⟨_, rfl⟩
  rw [← e1] at q1 q3
  rw [← e2] at q2 q3
  rw [← e3] at q4 q6
  rw [← e4] at q5 q6
  have HFa := Lib.hid (floor_exact hg0 q1)
  have HFb := Lib.hid (floor_exact hg0 q2)
  have HFc := Lib.hid (floor_exact hh0 q4)
  have HFd := Lib.hid (floor_exact hh0 q5)
  have HL := Lib.hid (prod_low (Low.self x) (Low.self y) hg0 hh0 q1 q2 q4 q5 q3 q6)
  clear h1 h2 hT hg hh q1 q2 q3 q4 q5 q6 e1 e2 e3 e4
  obtain ⟨W0, hW0⟩ : ∃ W0, W0 = (((w.alloc (.cells (frC r) 43)).alloc (.cells (frC r2) 43)).alloc (.cells #[.int .i64 0, .slice none 0 0, .int .i64 0, .slice none 0 0] 43)) := ⟨_, rfl⟩
  rw [← hW0] at S C
  obtain ⟨s1, A1, n1, c1, s2, A2, n2, c2⟩ := r
  obtain ⟨s3, A3, n3, c3, s4, A4, n4, c4⟩ := r2
  dsimp only [frV, frC] at *
  obtain ⟨⟨ka0, ka1, ka2, ka3⟩, kb0, kb1, kb2, kb3⟩ := S.out.cells
  dsimp only at ka0 ka1 ka2 ka3 kb0 kb1 kb2 kb3
  go_enter Tryz.func153, Tryz.ntmps153
  go_wp2_with fail
  rw [← hW0]
  clear hW0
  go_wp2_with fail
  refine C.out.mono ?_
  rintro e w1 ⟨a, b, c, d, fit, rfl, hfit, hb⟩
  have S1 := Lib.hid (S.out.call hb)
  have HF := Lib.hid hfit
  clear ka0 ka1 ka2 ka3 kb0 kb1 kb2 kb3 S C hb hfit
  cases fit
  case true =>
    obtain ⟨e1, e2, e3, e4, hbit, ra, rb, rc, rd⟩ := HF.out rfl
    obtain ⟨q1, q2⟩ := bitsP_lt ra rb
    obtain ⟨q3, q4⟩ := bitsP_lt rc rd
    obtain ⟨m0, m1⟩ := mul_bits q1 q3 (by omega)
    obtain ⟨l0, l1⟩ := mul_bits q2 q4 (by omega)
    have HE : Hid ((x * y).num * (b * d) = (a * c) * ((x * y).den : Int)) := by show _ = _; rw [e1, e2, e3, e4]; exact prod_ratio (Low.self x) (Low.self y)
    have hpos : 0 < b * d := by rw [e2, e4]; exact Int.mul_pos (by have := x.den_pos; omega) (by have := y.den_pos; omega)
    have SH := Lib.hid (fun w => shortened_any (a * c) (b * d) (x * y) w (by omega) (by omega) hpos (by omega) HE.out)
    clear e1 e2 e3 e4 hbit ra rb rc rd q1 q2 q3 q4 hpos HF HE
    have S2 := Lib.hid (S1.out.call (bal (bal (Below.refl w1.heap.size w1) (o := .cells #[.int .i64 a, .int .i64 b] 135)) (o := .cells #[.int .i64 c, .int .i64 d] 135)))
    have wr0 : IntKind.i64.wrap (a * c) = a * c := IntWalk.i64_in _ (by omega)
    have wr1 : IntKind.i64.wrap (b * d) = b * d := IntWalk.i64_in _ (by omega)
    clear m0 m1 l0 l1
    go_wp2_with fail
    refine (SH.out _).mono ?_
    rintro e w2 ⟨⟨s5, A5, n5, c5, s6, A6, n6, c6⟩, rfl, hc1, hc2, hf, f1, f2, hb⟩
    have S3 := Lib.hid (S2.out.call hb)
    obtain ⟨kr0, kr1, kr2, kr3, q0, q1, q2, q3⟩ := fr_cells S3.out.k3
    obtain ⟨wf, hwf, r0, r1, r2, r3, kE⟩ := fr_end S3.out.k3 (by omega) S2.out.k3.lt S3.out.bl (hf.1.as HS.out.1) (hf.2.as HS.out.2) f1 f2 hc1 hc2 (Low.self _)
    have HE := Lib.hid kE
    clear kE hc1 hc2 hf f1 f2 hb SH
    dsimp only [frV]
    go_wp2_with fail
    rw [← hwf]
    clear hwf
    exact bodyPost_ret (v := .agg #[.int .i64 s5, .slice A5 n5 c5, .int .i64 s6, .slice A6 n6 c6]) (by simp [results, Tryz.results153, go_sem, r0, r1, r2, r3]) rfl HE.out
  case false =>
    clear HF
    obtain ⟨w3, hw3⟩ : ∃ w3, w3 = (w1.alloc (.cells #[.int .i64 a, .int .i64 b] 135)).alloc (.cells #[.int .i64 c, .int .i64 d] 135) := ⟨_, rfl⟩
    have S3 := Lib.hid (S1.out.call (bal (bal (Below.refl w1.heap.size w1) (o := .cells #[.int .i64 a, .int .i64 b] 135)) (o := .cells #[.int .i64 c, .int .i64 d] 135)))
    rw [← hw3] at S3
    go_upto_region 4 with (fail)
    rw [← hw3]
    clear hw3 S1
    obtain ⟨⟨ka0, ka1, ka2, ka3⟩, kb0, kb1, kb2, kb3⟩ := S3.out.cells
    dsimp only at ka0 ka1 ka2 ka3 kb0 kb1 kb2 kb3
    go_cut [8, 9] (fun p8 p9 wc => ∃ b8 b9, p8 = .pointer (some ⟨b8, 0, none⟩) ∧ p9 = .pointer (some ⟨b9, 0, none⟩) ∧ Hid (TwoR w3 wc b8 b9 k k g h))
    case first =>
      have HC := Lib.hid (fun (w' : World) (h : Below w3.heap.size w3 w') => (⟨(h.cell (p := ⟨w.heap.size, 0, none⟩) (World.block_lt_of_cell? _ _ ka0)).trans ka0, (h.cell (p := ⟨w.heap.size, 1, none⟩) (World.block_lt_of_cell? _ _ ka1)).trans ka1, (h.cell (p := ⟨w.heap.size + 1, 2, none⟩) (World.block_lt_of_cell? _ _ kb2)).trans kb2, (h.cell (p := ⟨w.heap.size + 1, 3, none⟩) (World.block_lt_of_cell? _ _ kb3)).trans kb3, (h.cell (p := ⟨w.heap.size + 1, 0, none⟩) (World.block_lt_of_cell? _ _ kb0)).trans kb0, (h.cell (p := ⟨w.heap.size + 1, 1, none⟩) (World.block_lt_of_cell? _ _ kb1)).trans kb1, (h.cell (p := ⟨w.heap.size, 2, none⟩) (World.block_lt_of_cell? _ _ ka2)).trans ka2, (h.cell (p := ⟨w.heap.size, 3, none⟩) (World.block_lt_of_cell? _ _ ka3)).trans ka3⟩ : w'.cell? ⟨w.heap.size, 0, none⟩ = some (.int .i64 s1) ∧ w'.cell? ⟨w.heap.size, 1, none⟩ = some (.slice A1 n1 c1) ∧ w'.cell? ⟨w.heap.size + 1, 2, none⟩ = some (.int .i64 s4) ∧ w'.cell? ⟨w.heap.size + 1, 3, none⟩ = some (.slice A4 n4 c4) ∧ w'.cell? ⟨w.heap.size + 1, 0, none⟩ = some (.int .i64 s3) ∧ w'.cell? ⟨w.heap.size + 1, 1, none⟩ = some (.slice A3 n3 c3) ∧ w'.cell? ⟨w.heap.size, 2, none⟩ = some (.int .i64 s2) ∧ w'.cell? ⟨w.heap.size, 3, none⟩ = some (.slice A2 n2 c2)))
      have D1 := Lib.hid (fun (W : World) (h' : Below w3.heap.size w3 W) => common_F (((H1.out.past S3.out.bl).1).past h') (((H2.out.past S3.out.bl).2).past h') (HT.out.on (S3.out.call h').bl) (by omega) (by omega) c1 c4 k g HGG.out HZG.out)
      have D2 := Lib.hid (fun (W : World) (h' : Below w3.heap.size w3 W) => common_F (((H2.out.past S3.out.bl).1).past h') (((H1.out.past S3.out.bl).2).past h') (HT.out.on (S3.out.call h').bl) (by omega) (by omega) c3 c2 k h HHH.out HZH.out)
      clear ka0 ka1 ka2 ka3 kb0 kb1 kb2 kb3
      have Bq0 := Lib.hid (Below.refl w3.heap.size w3).drew
      refine wp_region_held_drew (S := fun w' => Below w3.heap.size w3 w') (by kernel_rfl) Bq0.out (fun hHeld => ?_)
      obtain ⟨qw0, hw⟩ : ∃ W, W = w3.drew := ⟨_, rfl⟩
      rw [← hw] at hHeld Bq0 ⊢
      clear hw
      refine take_at (i := 0) (v := ?qv1) rfl (by kernel_rfl) (by kernel_rfl) (by kernel_rfl) (fun _ _ _ h => h) (Or.inl ⟨by rfl, ?qy1⟩) (by assumption) ?qr1
      case qy1 => (intro w hSw; (try dsimp only at hSw); go_simp; (try with_reducible rfl))
      simp only [Act.put, uA, uB, uC]
      refine take_at (i := 1) (v := ?qv2) rfl (by kernel_rfl) (by kernel_rfl) (by kernel_rfl) (fun _ _ _ h => h) (Or.inl ⟨by rfl, ?qy2⟩) (by assumption) ?qr2
      case qy2 => (intro w hSw; (try dsimp only at hSw); obtain ⟨cc0, cc1, cc2, cc3, cc4, cc5, cc6, cc7⟩ := HC.out _ hSw; go_simp; (try with_reducible rfl))
      simp only [Act.put, uA, uB, uC]
      refine take_at (i := 2) (v := ?qv3) rfl (by kernel_rfl) (by kernel_rfl) (by kernel_rfl) (fun _ _ _ h => h) (Or.inl ⟨by rfl, ?qy3⟩) (by assumption) ?qr3
      case qy3 => (intro w hSw; (try dsimp only at hSw); go_simp; (try with_reducible rfl))
      simp only [Act.put, uA, uB, uC]
      refine take_at (i := 3) (v := ?qv4) rfl (by kernel_rfl) (by kernel_rfl) (by kernel_rfl) (fun _ _ _ h => h) (Or.inl ⟨by rfl, ?qy4⟩) (by assumption) ?qr4
      case qy4 => (intro w hSw; (try dsimp only at hSw); obtain ⟨cc0, cc1, cc2, cc3, cc4, cc5, cc6, cc7⟩ := HC.out _ hSw; go_simp; (try with_reducible rfl))
      simp only [Act.put, uA, uB, uC]
      refine take_at (i := 5) (v := ?qv5) rfl (by kernel_rfl) (by kernel_rfl) (by kernel_rfl) (fun _ _ _ h => h) (Or.inl ⟨by rfl, ?qy5⟩) (by assumption) ?qr5
      case qy5 => (intro w hSw; (try dsimp only at hSw); go_simp; (try with_reducible rfl))
      simp only [Act.put, uA, uB, uC]
      refine take_at (i := 6) (v := ?qv6) rfl (by kernel_rfl) (by kernel_rfl) (by kernel_rfl) (fun _ _ _ h => h) (Or.inl ⟨by rfl, ?qy6⟩) (by assumption) ?qr6
      case qy6 => (intro w hSw; (try dsimp only at hSw); obtain ⟨cc0, cc1, cc2, cc3, cc4, cc5, cc6, cc7⟩ := HC.out _ hSw; go_simp; (try with_reducible rfl))
      simp only [Act.put, uA, uB, uC]
      refine take_at (i := 7) (v := ?qv7) rfl (by kernel_rfl) (by kernel_rfl) (by kernel_rfl) (fun _ _ _ h => h) (Or.inl ⟨by rfl, ?qy7⟩) (by assumption) ?qr7
      case qy7 => (intro w hSw; (try dsimp only at hSw); go_simp; (try with_reducible rfl))
      simp only [Act.put, uA, uB, uC]
      refine take_at (i := 8) (v := ?qv8) rfl (by kernel_rfl) (by kernel_rfl) (by kernel_rfl) (fun _ _ _ h => h) (Or.inl ⟨by rfl, ?qy8⟩) (by assumption) ?qr8
      case qy8 => (intro w hSw; (try dsimp only at hSw); obtain ⟨cc0, cc1, cc2, cc3, cc4, cc5, cc6, cc7⟩ := HC.out _ hSw; go_simp; (try with_reducible rfl))
      simp only [Act.put, uA, uB, uC]
      refine wpAnyH_ready (rs := [4, 10, 11]) (by kernel_rfl) (by simp) ?_
      refine cons_at (i := 4) rfl (fun K hK => ?_) ?_
      go_simp
      refine (D1.out _ Bq0.out).mono ?_
      rintro e qw9 ⟨s7, A7, n7, c7, rfl, hc, hg, hf, hb⟩
      try dsimp only
      have X9 := Lib.hid hb
      have Gq4_9 := Lib.hid hg
      have HCq4 := Lib.hid hc
      have FRq4 : Hid (Fresh w3 A7 n7) := fun hp ad e => Nat.le_trans Bq0.out.size (hf hp ad e)
      have Bq10 := Lib.hid (Bq0.out.trans (X9.out.mono Bq0.out.size))
      refine hK.out _ _ ?_ (fun hHeld => ?_)
      · exact Bq10.out
      clear Bq0 X9 hc hg hf hb
      clear hK K
      (try simp only [Act.put, uA, uB, uC])
      refine wpAnyH_ready (rs := [9, 10, 11]) (by kernel_rfl) (by simp) ?_
      refine cons_at (i := 9) rfl (fun K hK => ?_) ?_
      go_simp
      refine (D2.out _ Bq10.out).mono ?_
      rintro e qw11 ⟨s8, A8, n8, c8, rfl, hc, hg, hf, hb⟩
      try dsimp only
      have X11 := Lib.hid hb
      have Gq9_11 := Lib.hid hg
      have HCq9 := Lib.hid hc
      have FRq9 : Hid (Fresh w3 A8 n8) := fun hp ad e => Nat.le_trans Bq10.out.size (hf hp ad e)
      have Bq12 := Lib.hid (Bq10.out.trans (X11.out.mono Bq10.out.size))
      have Gq4_12 := Lib.hid (Gq4_9.out.past X11.out)
      refine hK.out _ _ ?_ (fun hHeld => ?_)
      · exact Bq12.out
      clear Bq10 Gq4_9 X11 hc hg hf hb
      clear hK K
      (try simp only [Act.put, uA, uB, uC])
      refine wpAnyH_ready (rs := [10, 11]) (by kernel_rfl) (by simp) ?_
      refine cons_at (i := 10) rfl (fun K hK => ?_) ?_
      go_simp
      obtain ⟨qw13, hw⟩ : ∃ W', W' = qw11.alloc (.cells #[.int .i64 0, .slice none 0 0] 24) := ⟨_, rfl⟩
      obtain ⟨qb10_13, hb⟩ : ∃ b, b = qw11.heap.size := ⟨_, rfl⟩
      have X13 := Lib.hid (bal (Below.refl qw11.heap.size qw11) (o := .cells #[.int .i64 0, .slice none 0 0] 24))
      have Kqqb10_130 := Lib.hid (Blk.new qw11 24 #[.int .i64 0, .slice none 0 0])
      rw [← hw] at X13 Kqqb10_130
      rw [← hb] at Kqqb10_130
      rw [← hw, ← hb]
      have loqb10_13 : w3.heap.size ≤ qb10_13 := by rw [hb]; exact Bq12.out.size
      have ap4qb10_13 := Lib.hid (show 0 < n7 → ∀ ad, A7 = some ad → ad.block ≠ qb10_13 from fun hp ad e => by rw [hb]; exact Nat.ne_of_lt (Gq4_12.out.lt hp e))
      have ap9qb10_13 := Lib.hid (show 0 < n8 → ∀ ad, A8 = some ad → ad.block ≠ qb10_13 from fun hp ad e => by rw [hb]; exact Nat.ne_of_lt (Gq9_11.out.lt hp e))
      have Bq14 := Lib.hid (Bq12.out.trans (X13.out.mono Bq12.out.size))
      have Gq4_14 := Lib.hid (Gq4_12.out.past X13.out)
      have Gq9_14 := Lib.hid (Gq9_11.out.past X13.out)
      refine hK.out _ _ ?_ (fun hHeld => ?_)
      · exact Bq14.out
      clear Bq12 Gq4_12 Gq9_11 X13 hw hb
      clear hK K
      (try simp only [Act.put, uA, uB, uC])
      refine wpAnyH_ready (rs := [11]) (by kernel_rfl) (by simp) ?_
      refine cons_at (i := 11) rfl (fun K hK => ?_) AllReadyH.nil
      go_simp
      obtain ⟨qw15, hw⟩ : ∃ W', W' = qw13.alloc (.cells #[.int .i64 0, .slice none 0 0] 24) := ⟨_, rfl⟩
      obtain ⟨qb11_15, hb⟩ : ∃ b, b = qw13.heap.size := ⟨_, rfl⟩
      have X15 := Lib.hid (bal (Below.refl qw13.heap.size qw13) (o := .cells #[.int .i64 0, .slice none 0 0] 24))
      have Kqqb11_150 := Lib.hid (Blk.new qw13 24 #[.int .i64 0, .slice none 0 0])
      rw [← hw] at X15 Kqqb11_150
      rw [← hb] at Kqqb11_150
      rw [← hw, ← hb]
      have loqb11_15 : w3.heap.size ≤ qb11_15 := by rw [hb]; exact Bq14.out.size
      have neqb10_13qb11_15 : qb10_13 ≠ qb11_15 := by rw [hb]; exact Nat.ne_of_lt Kqqb10_130.out.lt
      have ap4qb11_15 := Lib.hid (show 0 < n7 → ∀ ad, A7 = some ad → ad.block ≠ qb11_15 from fun hp ad e => by rw [hb]; exact Nat.ne_of_lt (Gq4_14.out.lt hp e))
      have ap9qb11_15 := Lib.hid (show 0 < n8 → ∀ ad, A8 = some ad → ad.block ≠ qb11_15 from fun hp ad e => by rw [hb]; exact Nat.ne_of_lt (Gq9_14.out.lt hp e))
      have Bq16 := Lib.hid (Bq14.out.trans (X15.out.mono Bq14.out.size))
      have Kqqb10_1316 := Lib.hid (Kqqb10_130.out.below X15.out Kqqb10_130.out.lt)
      have Gq4_16 := Lib.hid (Gq4_14.out.past X15.out)
      have Gq9_16 := Lib.hid (Gq9_14.out.past X15.out)
      refine hK.out _ _ ?_ (fun hHeld => ?_)
      · exact Bq16.out
      clear Bq14 Kqqb10_130 Gq4_14 Gq9_14 X15 hw hb
      clear hK K
      (try simp only [Act.put, uA, uB, uC])
      refine wpAnyH_ready (rs := [12]) (by kernel_rfl) (by simp) ?_
      refine cons_at (i := 12) rfl (fun K hK => ?_) AllReadyH.nil
      obtain ⟨f0, f1, f2, f3⟩ := sm_cells Kqqb10_1316.out
      go_simp
      clear f0 f1 f2 f3
      obtain ⟨qw17, hw⟩ : ∃ W', W' = (qw15.setCell ⟨qb10_13, 0, none⟩ (.int .i64 s7)).setCell ⟨qb10_13, 1, none⟩ (.slice A7 n7 c7) := ⟨_, rfl⟩
      rw [← hw]
      have Bq17 := Lib.hid (below_2 Bq16.out loqb10_13 (u := .int .i64 s7) (v := .slice A7 n7 c7))
      rw [← hw] at Bq17
      have Kqqb10_13_17 := Lib.hid (Kqqb10_1316.out.set2 (a := .int .i64 s7) (b := .slice A7 n7 c7))
      rw [← hw] at Kqqb10_13_17
      have Kqqb11_15_17 := Lib.hid (Kqqb11_150.out.far2 (Ne.symm neqb10_13qb11_15) (a := .int .i64 s7) (b := .slice A7 n7 c7))
      rw [← hw] at Kqqb11_15_17
      have Gq4_17 := Lib.hid (Gq4_16.out.far2 ap4qb10_13.out (a := .int .i64 s7) (b := .slice A7 n7 c7))
      rw [← hw] at Gq4_17
      have Gq9_17 := Lib.hid (Gq9_16.out.far2 ap9qb10_13.out (a := .int .i64 s7) (b := .slice A7 n7 c7))
      rw [← hw] at Gq9_17
      refine hK.out _ _ ?_ (fun hHeld => ?_)
      · exact Bq17.out
      clear Bq16 Kqqb10_1316 Kqqb11_150 Gq4_16 Gq9_16 hw
      clear hK K
      (try simp only [Act.put, uA, uB, uC])
      refine wpAnyH_ready (rs := [13]) (by kernel_rfl) (by simp) ?_
      refine cons_at (i := 13) rfl (fun K hK => ?_) AllReadyH.nil
      obtain ⟨f0, f1, f2, f3⟩ := sm_cells Kqqb11_15_17.out
      go_simp
      clear f0 f1 f2 f3
      obtain ⟨qw18, hw⟩ : ∃ W', W' = (qw17.setCell ⟨qb11_15, 0, none⟩ (.int .i64 s8)).setCell ⟨qb11_15, 1, none⟩ (.slice A8 n8 c8) := ⟨_, rfl⟩
      rw [← hw]
      have Bq18 := Lib.hid (below_2 Bq17.out loqb11_15 (u := .int .i64 s8) (v := .slice A8 n8 c8))
      rw [← hw] at Bq18
      have Kqqb10_13_18 := Lib.hid (Kqqb10_13_17.out.far2 neqb10_13qb11_15 (a := .int .i64 s8) (b := .slice A8 n8 c8))
      rw [← hw] at Kqqb10_13_18
      have Kqqb11_15_18 := Lib.hid (Kqqb11_15_17.out.set2 (a := .int .i64 s8) (b := .slice A8 n8 c8))
      rw [← hw] at Kqqb11_15_18
      have Gq4_18 := Lib.hid (Gq4_17.out.far2 ap4qb11_15.out (a := .int .i64 s8) (b := .slice A8 n8 c8))
      rw [← hw] at Gq4_18
      have Gq9_18 := Lib.hid (Gq9_17.out.far2 ap9qb11_15.out (a := .int .i64 s8) (b := .slice A8 n8 c8))
      rw [← hw] at Gq9_18
      refine hK.out _ _ ?_ (fun hHeld => ?_)
      · exact Bq18.out
      clear Bq17 Kqqb10_13_17 Kqqb11_15_17 Gq4_17 Gq9_17 hw
      clear hK K
      (try simp only [Act.put, uA, uB, uC])
      refine wpAnyH_done (by kernel_rfl) ?_ _
      go_wp2_with fail
      go_meet
      exact ⟨qb10_13, qb11_15, rfl, rfl, (show TwoR _ _ _ _ _ _ _ _ from ⟨_, _, _, _, _, _, _, _, ⟨Kqqb10_13_18.out, loqb10_13, Gq4_18.out, HCq4.out, FRq4.out⟩, ⟨Kqqb11_15_18.out, loqb11_15, Gq9_18.out, HCq9.out, FRq9.out⟩, Bq18.out⟩)⟩
      refine cons_at (i := 11) rfl (fun K hK => ?_) AllReadyH.nil
      go_simp
      obtain ⟨qw19, hw⟩ : ∃ W', W' = qw11.alloc (.cells #[.int .i64 0, .slice none 0 0] 24) := ⟨_, rfl⟩
      obtain ⟨qb11_19, hb⟩ : ∃ b, b = qw11.heap.size := ⟨_, rfl⟩
      have X19 := Lib.hid (bal (Below.refl qw11.heap.size qw11) (o := .cells #[.int .i64 0, .slice none 0 0] 24))
      have Kqqb11_190 := Lib.hid (Blk.new qw11 24 #[.int .i64 0, .slice none 0 0])
      rw [← hw] at X19 Kqqb11_190
      rw [← hb] at Kqqb11_190
      rw [← hw, ← hb]
      have loqb11_19 : w3.heap.size ≤ qb11_19 := by rw [hb]; exact Bq12.out.size
      have ap4qb11_19 := Lib.hid (show 0 < n7 → ∀ ad, A7 = some ad → ad.block ≠ qb11_19 from fun hp ad e => by rw [hb]; exact Nat.ne_of_lt (Gq4_12.out.lt hp e))
      have ap9qb11_19 := Lib.hid (show 0 < n8 → ∀ ad, A8 = some ad → ad.block ≠ qb11_19 from fun hp ad e => by rw [hb]; exact Nat.ne_of_lt (Gq9_11.out.lt hp e))
      have Bq20 := Lib.hid (Bq12.out.trans (X19.out.mono Bq12.out.size))
      have Gq4_20 := Lib.hid (Gq4_12.out.past X19.out)
      have Gq9_20 := Lib.hid (Gq9_11.out.past X19.out)
      refine hK.out _ _ ?_ (fun hHeld => ?_)
      · exact Bq20.out
      clear Bq12 Gq4_12 Gq9_11 X19 hw hb
      clear hK K
      (try simp only [Act.put, uA, uB, uC])
      refine wpAnyH_ready (rs := [10]) (by kernel_rfl) (by simp) ?_
      refine cons_at (i := 10) rfl (fun K hK => ?_) AllReadyH.nil
      go_simp
      obtain ⟨qw21, hw⟩ : ∃ W', W' = qw19.alloc (.cells #[.int .i64 0, .slice none 0 0] 24) := ⟨_, rfl⟩
      obtain ⟨qb10_21, hb⟩ : ∃ b, b = qw19.heap.size := ⟨_, rfl⟩
      have X21 := Lib.hid (bal (Below.refl qw19.heap.size qw19) (o := .cells #[.int .i64 0, .slice none 0 0] 24))
      have Kqqb10_210 := Lib.hid (Blk.new qw19 24 #[.int .i64 0, .slice none 0 0])
      rw [← hw] at X21 Kqqb10_210
      rw [← hb] at Kqqb10_210
      rw [← hw, ← hb]
      have loqb10_21 : w3.heap.size ≤ qb10_21 := by rw [hb]; exact Bq20.out.size
      have neqb11_19qb10_21 : qb11_19 ≠ qb10_21 := by rw [hb]; exact Nat.ne_of_lt Kqqb11_190.out.lt
      have ap4qb10_21 := Lib.hid (show 0 < n7 → ∀ ad, A7 = some ad → ad.block ≠ qb10_21 from fun hp ad e => by rw [hb]; exact Nat.ne_of_lt (Gq4_20.out.lt hp e))
      have ap9qb10_21 := Lib.hid (show 0 < n8 → ∀ ad, A8 = some ad → ad.block ≠ qb10_21 from fun hp ad e => by rw [hb]; exact Nat.ne_of_lt (Gq9_20.out.lt hp e))
      have Bq22 := Lib.hid (Bq20.out.trans (X21.out.mono Bq20.out.size))
      have Kqqb11_1922 := Lib.hid (Kqqb11_190.out.below X21.out Kqqb11_190.out.lt)
      have Gq4_22 := Lib.hid (Gq4_20.out.past X21.out)
      have Gq9_22 := Lib.hid (Gq9_20.out.past X21.out)
      refine hK.out _ _ ?_ (fun hHeld => ?_)
      · exact Bq22.out
      clear Bq20 Kqqb11_190 Gq4_20 Gq9_20 X21 hw hb
      clear hK K
      (try simp only [Act.put, uA, uB, uC])
      refine wpAnyH_ready (rs := [12]) (by kernel_rfl) (by simp) ?_
      refine cons_at (i := 12) rfl (fun K hK => ?_) AllReadyH.nil
      obtain ⟨f0, f1, f2, f3⟩ := sm_cells Kqqb10_210.out
      go_simp
      clear f0 f1 f2 f3
      obtain ⟨qw23, hw⟩ : ∃ W', W' = (qw21.setCell ⟨qb10_21, 0, none⟩ (.int .i64 s7)).setCell ⟨qb10_21, 1, none⟩ (.slice A7 n7 c7) := ⟨_, rfl⟩
      rw [← hw]
      have Bq23 := Lib.hid (below_2 Bq22.out loqb10_21 (u := .int .i64 s7) (v := .slice A7 n7 c7))
      rw [← hw] at Bq23
      have Kqqb11_19_23 := Lib.hid (Kqqb11_1922.out.far2 neqb11_19qb10_21 (a := .int .i64 s7) (b := .slice A7 n7 c7))
      rw [← hw] at Kqqb11_19_23
      have Kqqb10_21_23 := Lib.hid (Kqqb10_210.out.set2 (a := .int .i64 s7) (b := .slice A7 n7 c7))
      rw [← hw] at Kqqb10_21_23
      have Gq4_23 := Lib.hid (Gq4_22.out.far2 ap4qb10_21.out (a := .int .i64 s7) (b := .slice A7 n7 c7))
      rw [← hw] at Gq4_23
      have Gq9_23 := Lib.hid (Gq9_22.out.far2 ap9qb10_21.out (a := .int .i64 s7) (b := .slice A7 n7 c7))
      rw [← hw] at Gq9_23
      refine hK.out _ _ ?_ (fun hHeld => ?_)
      · exact Bq23.out
      clear Bq22 Kqqb11_1922 Kqqb10_210 Gq4_22 Gq9_22 hw
      clear hK K
      (try simp only [Act.put, uA, uB, uC])
      refine wpAnyH_ready (rs := [13]) (by kernel_rfl) (by simp) ?_
      refine cons_at (i := 13) rfl (fun K hK => ?_) AllReadyH.nil
      obtain ⟨f0, f1, f2, f3⟩ := sm_cells Kqqb11_19_23.out
      go_simp
      clear f0 f1 f2 f3
      obtain ⟨qw24, hw⟩ : ∃ W', W' = (qw23.setCell ⟨qb11_19, 0, none⟩ (.int .i64 s8)).setCell ⟨qb11_19, 1, none⟩ (.slice A8 n8 c8) := ⟨_, rfl⟩
      rw [← hw]
      have Bq24 := Lib.hid (below_2 Bq23.out loqb11_19 (u := .int .i64 s8) (v := .slice A8 n8 c8))
      rw [← hw] at Bq24
      have Kqqb11_19_24 := Lib.hid (Kqqb11_19_23.out.set2 (a := .int .i64 s8) (b := .slice A8 n8 c8))
      rw [← hw] at Kqqb11_19_24
      have Kqqb10_21_24 := Lib.hid (Kqqb10_21_23.out.far2 (Ne.symm neqb11_19qb10_21) (a := .int .i64 s8) (b := .slice A8 n8 c8))
      rw [← hw] at Kqqb10_21_24
      have Gq4_24 := Lib.hid (Gq4_23.out.far2 ap4qb11_19.out (a := .int .i64 s8) (b := .slice A8 n8 c8))
      rw [← hw] at Gq4_24
      have Gq9_24 := Lib.hid (Gq9_23.out.far2 ap9qb11_19.out (a := .int .i64 s8) (b := .slice A8 n8 c8))
      rw [← hw] at Gq9_24
      refine hK.out _ _ ?_ (fun hHeld => ?_)
      · exact Bq24.out
      clear Bq23 Kqqb11_19_23 Kqqb10_21_23 Gq4_23 Gq9_23 hw
      clear hK K
      (try simp only [Act.put, uA, uB, uC])
      refine wpAnyH_done (by kernel_rfl) ?_ _
      go_wp2_with fail
      go_meet
      exact ⟨qb10_21, qb11_19, rfl, rfl, (show TwoR _ _ _ _ _ _ _ _ from ⟨_, _, _, _, _, _, _, _, ⟨Kqqb10_21_24.out, loqb10_21, Gq4_24.out, HCq4.out, FRq4.out⟩, ⟨Kqqb11_19_24.out, loqb11_19, Gq9_24.out, HCq9.out, FRq9.out⟩, Bq24.out⟩)⟩
      refine cons_at (i := 10) rfl (fun K hK => ?_) ?_
      go_simp
      obtain ⟨qw25, hw⟩ : ∃ W', W' = qw9.alloc (.cells #[.int .i64 0, .slice none 0 0] 24) := ⟨_, rfl⟩
      obtain ⟨qb10_25, hb⟩ : ∃ b, b = qw9.heap.size := ⟨_, rfl⟩
      have X25 := Lib.hid (bal (Below.refl qw9.heap.size qw9) (o := .cells #[.int .i64 0, .slice none 0 0] 24))
      have Kqqb10_250 := Lib.hid (Blk.new qw9 24 #[.int .i64 0, .slice none 0 0])
      rw [← hw] at X25 Kqqb10_250
      rw [← hb] at Kqqb10_250
      rw [← hw, ← hb]
      have loqb10_25 : w3.heap.size ≤ qb10_25 := by rw [hb]; exact Bq10.out.size
      have ap4qb10_25 := Lib.hid (show 0 < n7 → ∀ ad, A7 = some ad → ad.block ≠ qb10_25 from fun hp ad e => by rw [hb]; exact Nat.ne_of_lt (Gq4_9.out.lt hp e))
      have Bq26 := Lib.hid (Bq10.out.trans (X25.out.mono Bq10.out.size))
      have Gq4_26 := Lib.hid (Gq4_9.out.past X25.out)
      refine hK.out _ _ ?_ (fun hHeld => ?_)
      · exact Bq26.out
      clear Bq10 Gq4_9 X25 hw hb
      clear hK K
      (try simp only [Act.put, uA, uB, uC])
      refine wpAnyH_ready (rs := [9, 11]) (by kernel_rfl) (by simp) ?_
      refine cons_at (i := 9) rfl (fun K hK => ?_) ?_
      go_simp
      refine (D2.out _ Bq26.out).mono ?_
      rintro e qw27 ⟨s8, A8, n8, c8, rfl, hc, hg, hf, hb⟩
      try dsimp only
      have X27 := Lib.hid hb
      have Gq9_27 := Lib.hid hg
      have HCq9 := Lib.hid hc
      have FRq9 : Hid (Fresh w3 A8 n8) := fun hp ad e => Nat.le_trans Bq26.out.size (hf hp ad e)
      have ap9qb10_25 := Lib.hid (show 0 < n8 → ∀ ad, A8 = some ad → ad.block ≠ qb10_25 from fun hp ad e => by have := hf hp ad e; have := Kqqb10_250.out.lt; omega)
      have Bq28 := Lib.hid (Bq26.out.trans (X27.out.mono Bq26.out.size))
      have Kqqb10_2528 := Lib.hid (Kqqb10_250.out.below X27.out Kqqb10_250.out.lt)
      have Gq4_28 := Lib.hid (Gq4_26.out.past X27.out)
      refine hK.out _ _ ?_ (fun hHeld => ?_)
      · exact Bq28.out
      clear Bq26 Kqqb10_250 Gq4_26 X27 hc hg hf hb
      clear hK K
      (try simp only [Act.put, uA, uB, uC])
      refine wpAnyH_ready (rs := [11]) (by kernel_rfl) (by simp) ?_
      refine cons_at (i := 11) rfl (fun K hK => ?_) AllReadyH.nil
      go_simp
      obtain ⟨qw29, hw⟩ : ∃ W', W' = qw27.alloc (.cells #[.int .i64 0, .slice none 0 0] 24) := ⟨_, rfl⟩
      obtain ⟨qb11_29, hb⟩ : ∃ b, b = qw27.heap.size := ⟨_, rfl⟩
      have X29 := Lib.hid (bal (Below.refl qw27.heap.size qw27) (o := .cells #[.int .i64 0, .slice none 0 0] 24))
      have Kqqb11_290 := Lib.hid (Blk.new qw27 24 #[.int .i64 0, .slice none 0 0])
      rw [← hw] at X29 Kqqb11_290
      rw [← hb] at Kqqb11_290
      rw [← hw, ← hb]
      have loqb11_29 : w3.heap.size ≤ qb11_29 := by rw [hb]; exact Bq28.out.size
      have neqb10_25qb11_29 : qb10_25 ≠ qb11_29 := by rw [hb]; exact Nat.ne_of_lt Kqqb10_2528.out.lt
      have ap4qb11_29 := Lib.hid (show 0 < n7 → ∀ ad, A7 = some ad → ad.block ≠ qb11_29 from fun hp ad e => by rw [hb]; exact Nat.ne_of_lt (Gq4_28.out.lt hp e))
      have ap9qb11_29 := Lib.hid (show 0 < n8 → ∀ ad, A8 = some ad → ad.block ≠ qb11_29 from fun hp ad e => by rw [hb]; exact Nat.ne_of_lt (Gq9_27.out.lt hp e))
      have Bq30 := Lib.hid (Bq28.out.trans (X29.out.mono Bq28.out.size))
      have Kqqb10_2530 := Lib.hid (Kqqb10_2528.out.below X29.out Kqqb10_2528.out.lt)
      have Gq4_30 := Lib.hid (Gq4_28.out.past X29.out)
      have Gq9_30 := Lib.hid (Gq9_27.out.past X29.out)
      refine hK.out _ _ ?_ (fun hHeld => ?_)
      · exact Bq30.out
      clear Bq28 Kqqb10_2528 Gq4_28 Gq9_27 X29 hw hb
      clear hK K
      (try simp only [Act.put, uA, uB, uC])
      refine wpAnyH_ready (rs := [12]) (by kernel_rfl) (by simp) ?_
      refine cons_at (i := 12) rfl (fun K hK => ?_) AllReadyH.nil
      obtain ⟨f0, f1, f2, f3⟩ := sm_cells Kqqb10_2530.out
      go_simp
      clear f0 f1 f2 f3
      obtain ⟨qw31, hw⟩ : ∃ W', W' = (qw29.setCell ⟨qb10_25, 0, none⟩ (.int .i64 s7)).setCell ⟨qb10_25, 1, none⟩ (.slice A7 n7 c7) := ⟨_, rfl⟩
      rw [← hw]
      have Bq31 := Lib.hid (below_2 Bq30.out loqb10_25 (u := .int .i64 s7) (v := .slice A7 n7 c7))
      rw [← hw] at Bq31
      have Kqqb10_25_31 := Lib.hid (Kqqb10_2530.out.set2 (a := .int .i64 s7) (b := .slice A7 n7 c7))
      rw [← hw] at Kqqb10_25_31
      have Kqqb11_29_31 := Lib.hid (Kqqb11_290.out.far2 (Ne.symm neqb10_25qb11_29) (a := .int .i64 s7) (b := .slice A7 n7 c7))
      rw [← hw] at Kqqb11_29_31
      have Gq4_31 := Lib.hid (Gq4_30.out.far2 ap4qb10_25.out (a := .int .i64 s7) (b := .slice A7 n7 c7))
      rw [← hw] at Gq4_31
      have Gq9_31 := Lib.hid (Gq9_30.out.far2 ap9qb10_25.out (a := .int .i64 s7) (b := .slice A7 n7 c7))
      rw [← hw] at Gq9_31
      refine hK.out _ _ ?_ (fun hHeld => ?_)
      · exact Bq31.out
      clear Bq30 Kqqb10_2530 Kqqb11_290 Gq4_30 Gq9_30 hw
      clear hK K
      (try simp only [Act.put, uA, uB, uC])
      refine wpAnyH_ready (rs := [13]) (by kernel_rfl) (by simp) ?_
      refine cons_at (i := 13) rfl (fun K hK => ?_) AllReadyH.nil
      obtain ⟨f0, f1, f2, f3⟩ := sm_cells Kqqb11_29_31.out
      go_simp
      clear f0 f1 f2 f3
      obtain ⟨qw32, hw⟩ : ∃ W', W' = (qw31.setCell ⟨qb11_29, 0, none⟩ (.int .i64 s8)).setCell ⟨qb11_29, 1, none⟩ (.slice A8 n8 c8) := ⟨_, rfl⟩
      rw [← hw]
      have Bq32 := Lib.hid (below_2 Bq31.out loqb11_29 (u := .int .i64 s8) (v := .slice A8 n8 c8))
      rw [← hw] at Bq32
      have Kqqb10_25_32 := Lib.hid (Kqqb10_25_31.out.far2 neqb10_25qb11_29 (a := .int .i64 s8) (b := .slice A8 n8 c8))
      rw [← hw] at Kqqb10_25_32
      have Kqqb11_29_32 := Lib.hid (Kqqb11_29_31.out.set2 (a := .int .i64 s8) (b := .slice A8 n8 c8))
      rw [← hw] at Kqqb11_29_32
      have Gq4_32 := Lib.hid (Gq4_31.out.far2 ap4qb11_29.out (a := .int .i64 s8) (b := .slice A8 n8 c8))
      rw [← hw] at Gq4_32
      have Gq9_32 := Lib.hid (Gq9_31.out.far2 ap9qb11_29.out (a := .int .i64 s8) (b := .slice A8 n8 c8))
      rw [← hw] at Gq9_32
      refine hK.out _ _ ?_ (fun hHeld => ?_)
      · exact Bq32.out
      clear Bq31 Kqqb10_25_31 Kqqb11_29_31 Gq4_31 Gq9_31 hw
      clear hK K
      (try simp only [Act.put, uA, uB, uC])
      refine wpAnyH_done (by kernel_rfl) ?_ _
      go_wp2_with fail
      go_meet
      exact ⟨qb10_25, qb11_29, rfl, rfl, (show TwoR _ _ _ _ _ _ _ _ from ⟨_, _, _, _, _, _, _, _, ⟨Kqqb10_25_32.out, loqb10_25, Gq4_32.out, HCq4.out, FRq4.out⟩, ⟨Kqqb11_29_32.out, loqb11_29, Gq9_32.out, HCq9.out, FRq9.out⟩, Bq32.out⟩)⟩
      refine cons_at (i := 11) rfl (fun K hK => ?_) AllReadyH.nil
      go_simp
      obtain ⟨qw33, hw⟩ : ∃ W', W' = qw25.alloc (.cells #[.int .i64 0, .slice none 0 0] 24) := ⟨_, rfl⟩
      obtain ⟨qb11_33, hb⟩ : ∃ b, b = qw25.heap.size := ⟨_, rfl⟩
      have X33 := Lib.hid (bal (Below.refl qw25.heap.size qw25) (o := .cells #[.int .i64 0, .slice none 0 0] 24))
      have Kqqb11_330 := Lib.hid (Blk.new qw25 24 #[.int .i64 0, .slice none 0 0])
      rw [← hw] at X33 Kqqb11_330
      rw [← hb] at Kqqb11_330
      rw [← hw, ← hb]
      have loqb11_33 : w3.heap.size ≤ qb11_33 := by rw [hb]; exact Bq26.out.size
      have neqb10_25qb11_33 : qb10_25 ≠ qb11_33 := by rw [hb]; exact Nat.ne_of_lt Kqqb10_250.out.lt
      have ap4qb11_33 := Lib.hid (show 0 < n7 → ∀ ad, A7 = some ad → ad.block ≠ qb11_33 from fun hp ad e => by rw [hb]; exact Nat.ne_of_lt (Gq4_26.out.lt hp e))
      have Bq34 := Lib.hid (Bq26.out.trans (X33.out.mono Bq26.out.size))
      have Kqqb10_2534 := Lib.hid (Kqqb10_250.out.below X33.out Kqqb10_250.out.lt)
      have Gq4_34 := Lib.hid (Gq4_26.out.past X33.out)
      refine hK.out _ _ ?_ (fun hHeld => ?_)
      · exact Bq34.out
      clear Bq26 Kqqb10_250 Gq4_26 X33 hw hb
      clear hK K
      (try simp only [Act.put, uA, uB, uC])
      refine wpAnyH_ready (rs := [9]) (by kernel_rfl) (by simp) ?_
      refine cons_at (i := 9) rfl (fun K hK => ?_) AllReadyH.nil
      go_simp
      refine (D2.out _ Bq34.out).mono ?_
      rintro e qw35 ⟨s8, A8, n8, c8, rfl, hc, hg, hf, hb⟩
      try dsimp only
      have X35 := Lib.hid hb
      have Gq9_35 := Lib.hid hg
      have HCq9 := Lib.hid hc
      have FRq9 : Hid (Fresh w3 A8 n8) := fun hp ad e => Nat.le_trans Bq34.out.size (hf hp ad e)
      have ap9qb10_25 := Lib.hid (show 0 < n8 → ∀ ad, A8 = some ad → ad.block ≠ qb10_25 from fun hp ad e => by have := hf hp ad e; have := Kqqb10_2534.out.lt; omega)
      have ap9qb11_33 := Lib.hid (show 0 < n8 → ∀ ad, A8 = some ad → ad.block ≠ qb11_33 from fun hp ad e => by have := hf hp ad e; have := Kqqb11_330.out.lt; omega)
      have Bq36 := Lib.hid (Bq34.out.trans (X35.out.mono Bq34.out.size))
      have Kqqb10_2536 := Lib.hid (Kqqb10_2534.out.below X35.out Kqqb10_2534.out.lt)
      have Kqqb11_3336 := Lib.hid (Kqqb11_330.out.below X35.out Kqqb11_330.out.lt)
      have Gq4_36 := Lib.hid (Gq4_34.out.past X35.out)
      refine hK.out _ _ ?_ (fun hHeld => ?_)
      · exact Bq36.out
      clear Bq34 Kqqb10_2534 Kqqb11_330 Gq4_34 X35 hc hg hf hb
      clear hK K
      (try simp only [Act.put, uA, uB, uC])
      refine wpAnyH_ready (rs := [12]) (by kernel_rfl) (by simp) ?_
      refine cons_at (i := 12) rfl (fun K hK => ?_) AllReadyH.nil
      obtain ⟨f0, f1, f2, f3⟩ := sm_cells Kqqb10_2536.out
      go_simp
      clear f0 f1 f2 f3
      obtain ⟨qw37, hw⟩ : ∃ W', W' = (qw35.setCell ⟨qb10_25, 0, none⟩ (.int .i64 s7)).setCell ⟨qb10_25, 1, none⟩ (.slice A7 n7 c7) := ⟨_, rfl⟩
      rw [← hw]
      have Bq37 := Lib.hid (below_2 Bq36.out loqb10_25 (u := .int .i64 s7) (v := .slice A7 n7 c7))
      rw [← hw] at Bq37
      have Kqqb10_25_37 := Lib.hid (Kqqb10_2536.out.set2 (a := .int .i64 s7) (b := .slice A7 n7 c7))
      rw [← hw] at Kqqb10_25_37
      have Kqqb11_33_37 := Lib.hid (Kqqb11_3336.out.far2 (Ne.symm neqb10_25qb11_33) (a := .int .i64 s7) (b := .slice A7 n7 c7))
      rw [← hw] at Kqqb11_33_37
      have Gq4_37 := Lib.hid (Gq4_36.out.far2 ap4qb10_25.out (a := .int .i64 s7) (b := .slice A7 n7 c7))
      rw [← hw] at Gq4_37
      have Gq9_37 := Lib.hid (Gq9_35.out.far2 ap9qb10_25.out (a := .int .i64 s7) (b := .slice A7 n7 c7))
      rw [← hw] at Gq9_37
      refine hK.out _ _ ?_ (fun hHeld => ?_)
      · exact Bq37.out
      clear Bq36 Kqqb10_2536 Kqqb11_3336 Gq4_36 Gq9_35 hw
      clear hK K
      (try simp only [Act.put, uA, uB, uC])
      refine wpAnyH_ready (rs := [13]) (by kernel_rfl) (by simp) ?_
      refine cons_at (i := 13) rfl (fun K hK => ?_) AllReadyH.nil
      obtain ⟨f0, f1, f2, f3⟩ := sm_cells Kqqb11_33_37.out
      go_simp
      clear f0 f1 f2 f3
      obtain ⟨qw38, hw⟩ : ∃ W', W' = (qw37.setCell ⟨qb11_33, 0, none⟩ (.int .i64 s8)).setCell ⟨qb11_33, 1, none⟩ (.slice A8 n8 c8) := ⟨_, rfl⟩
      rw [← hw]
      have Bq38 := Lib.hid (below_2 Bq37.out loqb11_33 (u := .int .i64 s8) (v := .slice A8 n8 c8))
      rw [← hw] at Bq38
      have Kqqb10_25_38 := Lib.hid (Kqqb10_25_37.out.far2 neqb10_25qb11_33 (a := .int .i64 s8) (b := .slice A8 n8 c8))
      rw [← hw] at Kqqb10_25_38
      have Kqqb11_33_38 := Lib.hid (Kqqb11_33_37.out.set2 (a := .int .i64 s8) (b := .slice A8 n8 c8))
      rw [← hw] at Kqqb11_33_38
      have Gq4_38 := Lib.hid (Gq4_37.out.far2 ap4qb11_33.out (a := .int .i64 s8) (b := .slice A8 n8 c8))
      rw [← hw] at Gq4_38
      have Gq9_38 := Lib.hid (Gq9_37.out.far2 ap9qb11_33.out (a := .int .i64 s8) (b := .slice A8 n8 c8))
      rw [← hw] at Gq9_38
      refine hK.out _ _ ?_ (fun hHeld => ?_)
      · exact Bq38.out
      clear Bq37 Kqqb10_25_37 Kqqb11_33_37 Gq4_37 Gq9_37 hw
      clear hK K
      (try simp only [Act.put, uA, uB, uC])
      refine wpAnyH_done (by kernel_rfl) ?_ _
      go_wp2_with fail
      go_meet
      exact ⟨qb10_25, qb11_33, rfl, rfl, (show TwoR _ _ _ _ _ _ _ _ from ⟨_, _, _, _, _, _, _, _, ⟨Kqqb10_25_38.out, loqb10_25, Gq4_38.out, HCq4.out, FRq4.out⟩, ⟨Kqqb11_33_38.out, loqb11_33, Gq9_38.out, HCq9.out, FRq9.out⟩, Bq38.out⟩)⟩
      refine cons_at (i := 11) rfl (fun K hK => ?_) AllReadyH.nil
      go_simp
      obtain ⟨qw39, hw⟩ : ∃ W', W' = qw9.alloc (.cells #[.int .i64 0, .slice none 0 0] 24) := ⟨_, rfl⟩
      obtain ⟨qb11_39, hb⟩ : ∃ b, b = qw9.heap.size := ⟨_, rfl⟩
      have X39 := Lib.hid (bal (Below.refl qw9.heap.size qw9) (o := .cells #[.int .i64 0, .slice none 0 0] 24))
      have Kqqb11_390 := Lib.hid (Blk.new qw9 24 #[.int .i64 0, .slice none 0 0])
      rw [← hw] at X39 Kqqb11_390
      rw [← hb] at Kqqb11_390
      rw [← hw, ← hb]
      have loqb11_39 : w3.heap.size ≤ qb11_39 := by rw [hb]; exact Bq10.out.size
      have ap4qb11_39 := Lib.hid (show 0 < n7 → ∀ ad, A7 = some ad → ad.block ≠ qb11_39 from fun hp ad e => by rw [hb]; exact Nat.ne_of_lt (Gq4_9.out.lt hp e))
      have Bq40 := Lib.hid (Bq10.out.trans (X39.out.mono Bq10.out.size))
      have Gq4_40 := Lib.hid (Gq4_9.out.past X39.out)
      refine hK.out _ _ ?_ (fun hHeld => ?_)
      · exact Bq40.out
      clear Bq10 Gq4_9 X39 hw hb
      clear hK K
      (try simp only [Act.put, uA, uB, uC])
      refine wpAnyH_ready (rs := [9, 10]) (by kernel_rfl) (by simp) ?_
      refine cons_at (i := 9) rfl (fun K hK => ?_) ?_
      go_simp
      refine (D2.out _ Bq40.out).mono ?_
      rintro e qw41 ⟨s8, A8, n8, c8, rfl, hc, hg, hf, hb⟩
      try dsimp only
      have X41 := Lib.hid hb
      have Gq9_41 := Lib.hid hg
      have HCq9 := Lib.hid hc
      have FRq9 : Hid (Fresh w3 A8 n8) := fun hp ad e => Nat.le_trans Bq40.out.size (hf hp ad e)
      have ap9qb11_39 := Lib.hid (show 0 < n8 → ∀ ad, A8 = some ad → ad.block ≠ qb11_39 from fun hp ad e => by have := hf hp ad e; have := Kqqb11_390.out.lt; omega)
      have Bq42 := Lib.hid (Bq40.out.trans (X41.out.mono Bq40.out.size))
      have Kqqb11_3942 := Lib.hid (Kqqb11_390.out.below X41.out Kqqb11_390.out.lt)
      have Gq4_42 := Lib.hid (Gq4_40.out.past X41.out)
      refine hK.out _ _ ?_ (fun hHeld => ?_)
      · exact Bq42.out
      clear Bq40 Kqqb11_390 Gq4_40 X41 hc hg hf hb
      clear hK K
      (try simp only [Act.put, uA, uB, uC])
      refine wpAnyH_ready (rs := [10]) (by kernel_rfl) (by simp) ?_
      refine cons_at (i := 10) rfl (fun K hK => ?_) AllReadyH.nil
      go_simp
      obtain ⟨qw43, hw⟩ : ∃ W', W' = qw41.alloc (.cells #[.int .i64 0, .slice none 0 0] 24) := ⟨_, rfl⟩
      obtain ⟨qb10_43, hb⟩ : ∃ b, b = qw41.heap.size := ⟨_, rfl⟩
      have X43 := Lib.hid (bal (Below.refl qw41.heap.size qw41) (o := .cells #[.int .i64 0, .slice none 0 0] 24))
      have Kqqb10_430 := Lib.hid (Blk.new qw41 24 #[.int .i64 0, .slice none 0 0])
      rw [← hw] at X43 Kqqb10_430
      rw [← hb] at Kqqb10_430
      rw [← hw, ← hb]
      have loqb10_43 : w3.heap.size ≤ qb10_43 := by rw [hb]; exact Bq42.out.size
      have neqb11_39qb10_43 : qb11_39 ≠ qb10_43 := by rw [hb]; exact Nat.ne_of_lt Kqqb11_3942.out.lt
      have ap4qb10_43 := Lib.hid (show 0 < n7 → ∀ ad, A7 = some ad → ad.block ≠ qb10_43 from fun hp ad e => by rw [hb]; exact Nat.ne_of_lt (Gq4_42.out.lt hp e))
      have ap9qb10_43 := Lib.hid (show 0 < n8 → ∀ ad, A8 = some ad → ad.block ≠ qb10_43 from fun hp ad e => by rw [hb]; exact Nat.ne_of_lt (Gq9_41.out.lt hp e))
      have Bq44 := Lib.hid (Bq42.out.trans (X43.out.mono Bq42.out.size))
      have Kqqb11_3944 := Lib.hid (Kqqb11_3942.out.below X43.out Kqqb11_3942.out.lt)
      have Gq4_44 := Lib.hid (Gq4_42.out.past X43.out)
      have Gq9_44 := Lib.hid (Gq9_41.out.past X43.out)
      refine hK.out _ _ ?_ (fun hHeld => ?_)
      · exact Bq44.out
      clear Bq42 Kqqb11_3942 Gq4_42 Gq9_41 X43 hw hb
      clear hK K
      (try simp only [Act.put, uA, uB, uC])
      refine wpAnyH_ready (rs := [12]) (by kernel_rfl) (by simp) ?_
      refine cons_at (i := 12) rfl (fun K hK => ?_) AllReadyH.nil
      obtain ⟨f0, f1, f2, f3⟩ := sm_cells Kqqb10_430.out
      go_simp
      clear f0 f1 f2 f3
      obtain ⟨qw45, hw⟩ : ∃ W', W' = (qw43.setCell ⟨qb10_43, 0, none⟩ (.int .i64 s7)).setCell ⟨qb10_43, 1, none⟩ (.slice A7 n7 c7) := ⟨_, rfl⟩
      rw [← hw]
      have Bq45 := Lib.hid (below_2 Bq44.out loqb10_43 (u := .int .i64 s7) (v := .slice A7 n7 c7))
      rw [← hw] at Bq45
      have Kqqb11_39_45 := Lib.hid (Kqqb11_3944.out.far2 neqb11_39qb10_43 (a := .int .i64 s7) (b := .slice A7 n7 c7))
      rw [← hw] at Kqqb11_39_45
      have Kqqb10_43_45 := Lib.hid (Kqqb10_430.out.set2 (a := .int .i64 s7) (b := .slice A7 n7 c7))
      rw [← hw] at Kqqb10_43_45
      have Gq4_45 := Lib.hid (Gq4_44.out.far2 ap4qb10_43.out (a := .int .i64 s7) (b := .slice A7 n7 c7))
      rw [← hw] at Gq4_45
      have Gq9_45 := Lib.hid (Gq9_44.out.far2 ap9qb10_43.out (a := .int .i64 s7) (b := .slice A7 n7 c7))
      rw [← hw] at Gq9_45
      refine hK.out _ _ ?_ (fun hHeld => ?_)
      · exact Bq45.out
      clear Bq44 Kqqb11_3944 Kqqb10_430 Gq4_44 Gq9_44 hw
      clear hK K
      (try simp only [Act.put, uA, uB, uC])
      refine wpAnyH_ready (rs := [13]) (by kernel_rfl) (by simp) ?_
      refine cons_at (i := 13) rfl (fun K hK => ?_) AllReadyH.nil
      obtain ⟨f0, f1, f2, f3⟩ := sm_cells Kqqb11_39_45.out
      go_simp
      clear f0 f1 f2 f3
      obtain ⟨qw46, hw⟩ : ∃ W', W' = (qw45.setCell ⟨qb11_39, 0, none⟩ (.int .i64 s8)).setCell ⟨qb11_39, 1, none⟩ (.slice A8 n8 c8) := ⟨_, rfl⟩
      rw [← hw]
      have Bq46 := Lib.hid (below_2 Bq45.out loqb11_39 (u := .int .i64 s8) (v := .slice A8 n8 c8))
      rw [← hw] at Bq46
      have Kqqb11_39_46 := Lib.hid (Kqqb11_39_45.out.set2 (a := .int .i64 s8) (b := .slice A8 n8 c8))
      rw [← hw] at Kqqb11_39_46
      have Kqqb10_43_46 := Lib.hid (Kqqb10_43_45.out.far2 (Ne.symm neqb11_39qb10_43) (a := .int .i64 s8) (b := .slice A8 n8 c8))
      rw [← hw] at Kqqb10_43_46
      have Gq4_46 := Lib.hid (Gq4_45.out.far2 ap4qb11_39.out (a := .int .i64 s8) (b := .slice A8 n8 c8))
      rw [← hw] at Gq4_46
      have Gq9_46 := Lib.hid (Gq9_45.out.far2 ap9qb11_39.out (a := .int .i64 s8) (b := .slice A8 n8 c8))
      rw [← hw] at Gq9_46
      refine hK.out _ _ ?_ (fun hHeld => ?_)
      · exact Bq46.out
      clear Bq45 Kqqb11_39_45 Kqqb10_43_45 Gq4_45 Gq9_45 hw
      clear hK K
      (try simp only [Act.put, uA, uB, uC])
      refine wpAnyH_done (by kernel_rfl) ?_ _
      go_wp2_with fail
      go_meet
      exact ⟨qb10_43, qb11_39, rfl, rfl, (show TwoR _ _ _ _ _ _ _ _ from ⟨_, _, _, _, _, _, _, _, ⟨Kqqb10_43_46.out, loqb10_43, Gq4_46.out, HCq4.out, FRq4.out⟩, ⟨Kqqb11_39_46.out, loqb11_39, Gq9_46.out, HCq9.out, FRq9.out⟩, Bq46.out⟩)⟩
      refine cons_at (i := 10) rfl (fun K hK => ?_) AllReadyH.nil
      go_simp
      obtain ⟨qw47, hw⟩ : ∃ W', W' = qw39.alloc (.cells #[.int .i64 0, .slice none 0 0] 24) := ⟨_, rfl⟩
      obtain ⟨qb10_47, hb⟩ : ∃ b, b = qw39.heap.size := ⟨_, rfl⟩
      have X47 := Lib.hid (bal (Below.refl qw39.heap.size qw39) (o := .cells #[.int .i64 0, .slice none 0 0] 24))
      have Kqqb10_470 := Lib.hid (Blk.new qw39 24 #[.int .i64 0, .slice none 0 0])
      rw [← hw] at X47 Kqqb10_470
      rw [← hb] at Kqqb10_470
      rw [← hw, ← hb]
      have loqb10_47 : w3.heap.size ≤ qb10_47 := by rw [hb]; exact Bq40.out.size
      have neqb11_39qb10_47 : qb11_39 ≠ qb10_47 := by rw [hb]; exact Nat.ne_of_lt Kqqb11_390.out.lt
      have ap4qb10_47 := Lib.hid (show 0 < n7 → ∀ ad, A7 = some ad → ad.block ≠ qb10_47 from fun hp ad e => by rw [hb]; exact Nat.ne_of_lt (Gq4_40.out.lt hp e))
      have Bq48 := Lib.hid (Bq40.out.trans (X47.out.mono Bq40.out.size))
      have Kqqb11_3948 := Lib.hid (Kqqb11_390.out.below X47.out Kqqb11_390.out.lt)
      have Gq4_48 := Lib.hid (Gq4_40.out.past X47.out)
      refine hK.out _ _ ?_ (fun hHeld => ?_)
      · exact Bq48.out
      clear Bq40 Kqqb11_390 Gq4_40 X47 hw hb
      clear hK K
      (try simp only [Act.put, uA, uB, uC])
      refine wpAnyH_ready (rs := [9]) (by kernel_rfl) (by simp) ?_
      refine cons_at (i := 9) rfl (fun K hK => ?_) AllReadyH.nil
      go_simp
      refine (D2.out _ Bq48.out).mono ?_
      rintro e qw49 ⟨s8, A8, n8, c8, rfl, hc, hg, hf, hb⟩
      try dsimp only
      have X49 := Lib.hid hb
      have Gq9_49 := Lib.hid hg
      have HCq9 := Lib.hid hc
      have FRq9 : Hid (Fresh w3 A8 n8) := fun hp ad e => Nat.le_trans Bq48.out.size (hf hp ad e)
      have ap9qb11_39 := Lib.hid (show 0 < n8 → ∀ ad, A8 = some ad → ad.block ≠ qb11_39 from fun hp ad e => by have := hf hp ad e; have := Kqqb11_3948.out.lt; omega)
      have ap9qb10_47 := Lib.hid (show 0 < n8 → ∀ ad, A8 = some ad → ad.block ≠ qb10_47 from fun hp ad e => by have := hf hp ad e; have := Kqqb10_470.out.lt; omega)
      have Bq50 := Lib.hid (Bq48.out.trans (X49.out.mono Bq48.out.size))
      have Kqqb11_3950 := Lib.hid (Kqqb11_3948.out.below X49.out Kqqb11_3948.out.lt)
      have Kqqb10_4750 := Lib.hid (Kqqb10_470.out.below X49.out Kqqb10_470.out.lt)
      have Gq4_50 := Lib.hid (Gq4_48.out.past X49.out)
      refine hK.out _ _ ?_ (fun hHeld => ?_)
      · exact Bq50.out
      clear Bq48 Kqqb11_3948 Kqqb10_470 Gq4_48 X49 hc hg hf hb
      clear hK K
      (try simp only [Act.put, uA, uB, uC])
      refine wpAnyH_ready (rs := [12]) (by kernel_rfl) (by simp) ?_
      refine cons_at (i := 12) rfl (fun K hK => ?_) AllReadyH.nil
      obtain ⟨f0, f1, f2, f3⟩ := sm_cells Kqqb10_4750.out
      go_simp
      clear f0 f1 f2 f3
      obtain ⟨qw51, hw⟩ : ∃ W', W' = (qw49.setCell ⟨qb10_47, 0, none⟩ (.int .i64 s7)).setCell ⟨qb10_47, 1, none⟩ (.slice A7 n7 c7) := ⟨_, rfl⟩
      rw [← hw]
      have Bq51 := Lib.hid (below_2 Bq50.out loqb10_47 (u := .int .i64 s7) (v := .slice A7 n7 c7))
      rw [← hw] at Bq51
      have Kqqb11_39_51 := Lib.hid (Kqqb11_3950.out.far2 neqb11_39qb10_47 (a := .int .i64 s7) (b := .slice A7 n7 c7))
      rw [← hw] at Kqqb11_39_51
      have Kqqb10_47_51 := Lib.hid (Kqqb10_4750.out.set2 (a := .int .i64 s7) (b := .slice A7 n7 c7))
      rw [← hw] at Kqqb10_47_51
      have Gq4_51 := Lib.hid (Gq4_50.out.far2 ap4qb10_47.out (a := .int .i64 s7) (b := .slice A7 n7 c7))
      rw [← hw] at Gq4_51
      have Gq9_51 := Lib.hid (Gq9_49.out.far2 ap9qb10_47.out (a := .int .i64 s7) (b := .slice A7 n7 c7))
      rw [← hw] at Gq9_51
      refine hK.out _ _ ?_ (fun hHeld => ?_)
      · exact Bq51.out
      clear Bq50 Kqqb11_3950 Kqqb10_4750 Gq4_50 Gq9_49 hw
      clear hK K
      (try simp only [Act.put, uA, uB, uC])
      refine wpAnyH_ready (rs := [13]) (by kernel_rfl) (by simp) ?_
      refine cons_at (i := 13) rfl (fun K hK => ?_) AllReadyH.nil
      obtain ⟨f0, f1, f2, f3⟩ := sm_cells Kqqb11_39_51.out
      go_simp
      clear f0 f1 f2 f3
      obtain ⟨qw52, hw⟩ : ∃ W', W' = (qw51.setCell ⟨qb11_39, 0, none⟩ (.int .i64 s8)).setCell ⟨qb11_39, 1, none⟩ (.slice A8 n8 c8) := ⟨_, rfl⟩
      rw [← hw]
      have Bq52 := Lib.hid (below_2 Bq51.out loqb11_39 (u := .int .i64 s8) (v := .slice A8 n8 c8))
      rw [← hw] at Bq52
      have Kqqb11_39_52 := Lib.hid (Kqqb11_39_51.out.set2 (a := .int .i64 s8) (b := .slice A8 n8 c8))
      rw [← hw] at Kqqb11_39_52
      have Kqqb10_47_52 := Lib.hid (Kqqb10_47_51.out.far2 (Ne.symm neqb11_39qb10_47) (a := .int .i64 s8) (b := .slice A8 n8 c8))
      rw [← hw] at Kqqb10_47_52
      have Gq4_52 := Lib.hid (Gq4_51.out.far2 ap4qb11_39.out (a := .int .i64 s8) (b := .slice A8 n8 c8))
      rw [← hw] at Gq4_52
      have Gq9_52 := Lib.hid (Gq9_51.out.far2 ap9qb11_39.out (a := .int .i64 s8) (b := .slice A8 n8 c8))
      rw [← hw] at Gq9_52
      refine hK.out _ _ ?_ (fun hHeld => ?_)
      · exact Bq52.out
      clear Bq51 Kqqb11_39_51 Kqqb10_47_51 Gq4_51 Gq9_51 hw
      clear hK K
      (try simp only [Act.put, uA, uB, uC])
      refine wpAnyH_done (by kernel_rfl) ?_ _
      go_wp2_with fail
      go_meet
      exact ⟨qb10_47, qb11_39, rfl, rfl, (show TwoR _ _ _ _ _ _ _ _ from ⟨_, _, _, _, _, _, _, _, ⟨Kqqb10_47_52.out, loqb10_47, Gq4_52.out, HCq4.out, FRq4.out⟩, ⟨Kqqb11_39_52.out, loqb11_39, Gq9_52.out, HCq9.out, FRq9.out⟩, Bq52.out⟩)⟩
      refine cons_at (i := 10) rfl (fun K hK => ?_) ?_
      go_simp
      obtain ⟨qw53, hw⟩ : ∃ W', W' = qw0.alloc (.cells #[.int .i64 0, .slice none 0 0] 24) := ⟨_, rfl⟩
      obtain ⟨qb10_53, hb⟩ : ∃ b, b = qw0.heap.size := ⟨_, rfl⟩
      have X53 := Lib.hid (bal (Below.refl qw0.heap.size qw0) (o := .cells #[.int .i64 0, .slice none 0 0] 24))
      have Kqqb10_530 := Lib.hid (Blk.new qw0 24 #[.int .i64 0, .slice none 0 0])
      rw [← hw] at X53 Kqqb10_530
      rw [← hb] at Kqqb10_530
      rw [← hw, ← hb]
      have loqb10_53 : w3.heap.size ≤ qb10_53 := by rw [hb]; exact Bq0.out.size
      have Bq54 := Lib.hid (Bq0.out.trans (X53.out.mono Bq0.out.size))
      refine hK.out _ _ ?_ (fun hHeld => ?_)
      · exact Bq54.out
      clear Bq0 X53 hw hb
      clear hK K
      (try simp only [Act.put, uA, uB, uC])
      refine wpAnyH_ready (rs := [4, 11]) (by kernel_rfl) (by simp) ?_
      refine cons_at (i := 4) rfl (fun K hK => ?_) ?_
      go_simp
      refine (D1.out _ Bq54.out).mono ?_
      rintro e qw55 ⟨s7, A7, n7, c7, rfl, hc, hg, hf, hb⟩
      try dsimp only
      have X55 := Lib.hid hb
      have Gq4_55 := Lib.hid hg
      have HCq4 := Lib.hid hc
      have FRq4 : Hid (Fresh w3 A7 n7) := fun hp ad e => Nat.le_trans Bq54.out.size (hf hp ad e)
      have ap4qb10_53 := Lib.hid (show 0 < n7 → ∀ ad, A7 = some ad → ad.block ≠ qb10_53 from fun hp ad e => by have := hf hp ad e; have := Kqqb10_530.out.lt; omega)
      have Bq56 := Lib.hid (Bq54.out.trans (X55.out.mono Bq54.out.size))
      have Kqqb10_5356 := Lib.hid (Kqqb10_530.out.below X55.out Kqqb10_530.out.lt)
      refine hK.out _ _ ?_ (fun hHeld => ?_)
      · exact Bq56.out
      clear Bq54 Kqqb10_530 X55 hc hg hf hb
      clear hK K
      (try simp only [Act.put, uA, uB, uC])
      refine wpAnyH_ready (rs := [9, 11]) (by kernel_rfl) (by simp) ?_
      refine cons_at (i := 9) rfl (fun K hK => ?_) ?_
      go_simp
      refine (D2.out _ Bq56.out).mono ?_
      rintro e qw57 ⟨s8, A8, n8, c8, rfl, hc, hg, hf, hb⟩
      try dsimp only
      have X57 := Lib.hid hb
      have Gq9_57 := Lib.hid hg
      have HCq9 := Lib.hid hc
      have FRq9 : Hid (Fresh w3 A8 n8) := fun hp ad e => Nat.le_trans Bq56.out.size (hf hp ad e)
      have ap9qb10_53 := Lib.hid (show 0 < n8 → ∀ ad, A8 = some ad → ad.block ≠ qb10_53 from fun hp ad e => by have := hf hp ad e; have := Kqqb10_5356.out.lt; omega)
      have Bq58 := Lib.hid (Bq56.out.trans (X57.out.mono Bq56.out.size))
      have Kqqb10_5358 := Lib.hid (Kqqb10_5356.out.below X57.out Kqqb10_5356.out.lt)
      have Gq4_58 := Lib.hid (Gq4_55.out.past X57.out)
      refine hK.out _ _ ?_ (fun hHeld => ?_)
      · exact Bq58.out
      clear Bq56 Kqqb10_5356 Gq4_55 X57 hc hg hf hb
      clear hK K
      (try simp only [Act.put, uA, uB, uC])
      refine wpAnyH_ready (rs := [11]) (by kernel_rfl) (by simp) ?_
      refine cons_at (i := 11) rfl (fun K hK => ?_) AllReadyH.nil
      go_simp
      obtain ⟨qw59, hw⟩ : ∃ W', W' = qw57.alloc (.cells #[.int .i64 0, .slice none 0 0] 24) := ⟨_, rfl⟩
      obtain ⟨qb11_59, hb⟩ : ∃ b, b = qw57.heap.size := ⟨_, rfl⟩
      have X59 := Lib.hid (bal (Below.refl qw57.heap.size qw57) (o := .cells #[.int .i64 0, .slice none 0 0] 24))
      have Kqqb11_590 := Lib.hid (Blk.new qw57 24 #[.int .i64 0, .slice none 0 0])
      rw [← hw] at X59 Kqqb11_590
      rw [← hb] at Kqqb11_590
      rw [← hw, ← hb]
      have loqb11_59 : w3.heap.size ≤ qb11_59 := by rw [hb]; exact Bq58.out.size
      have neqb10_53qb11_59 : qb10_53 ≠ qb11_59 := by rw [hb]; exact Nat.ne_of_lt Kqqb10_5358.out.lt
      have ap4qb11_59 := Lib.hid (show 0 < n7 → ∀ ad, A7 = some ad → ad.block ≠ qb11_59 from fun hp ad e => by rw [hb]; exact Nat.ne_of_lt (Gq4_58.out.lt hp e))
      have ap9qb11_59 := Lib.hid (show 0 < n8 → ∀ ad, A8 = some ad → ad.block ≠ qb11_59 from fun hp ad e => by rw [hb]; exact Nat.ne_of_lt (Gq9_57.out.lt hp e))
      have Bq60 := Lib.hid (Bq58.out.trans (X59.out.mono Bq58.out.size))
      have Kqqb10_5360 := Lib.hid (Kqqb10_5358.out.below X59.out Kqqb10_5358.out.lt)
      have Gq4_60 := Lib.hid (Gq4_58.out.past X59.out)
      have Gq9_60 := Lib.hid (Gq9_57.out.past X59.out)
      refine hK.out _ _ ?_ (fun hHeld => ?_)
      · exact Bq60.out
      clear Bq58 Kqqb10_5358 Gq4_58 Gq9_57 X59 hw hb
      clear hK K
      (try simp only [Act.put, uA, uB, uC])
      refine wpAnyH_ready (rs := [12]) (by kernel_rfl) (by simp) ?_
      refine cons_at (i := 12) rfl (fun K hK => ?_) AllReadyH.nil
      obtain ⟨f0, f1, f2, f3⟩ := sm_cells Kqqb10_5360.out
      go_simp
      clear f0 f1 f2 f3
      obtain ⟨qw61, hw⟩ : ∃ W', W' = (qw59.setCell ⟨qb10_53, 0, none⟩ (.int .i64 s7)).setCell ⟨qb10_53, 1, none⟩ (.slice A7 n7 c7) := ⟨_, rfl⟩
      rw [← hw]
      have Bq61 := Lib.hid (below_2 Bq60.out loqb10_53 (u := .int .i64 s7) (v := .slice A7 n7 c7))
      rw [← hw] at Bq61
      have Kqqb10_53_61 := Lib.hid (Kqqb10_5360.out.set2 (a := .int .i64 s7) (b := .slice A7 n7 c7))
      rw [← hw] at Kqqb10_53_61
      have Kqqb11_59_61 := Lib.hid (Kqqb11_590.out.far2 (Ne.symm neqb10_53qb11_59) (a := .int .i64 s7) (b := .slice A7 n7 c7))
      rw [← hw] at Kqqb11_59_61
      have Gq4_61 := Lib.hid (Gq4_60.out.far2 ap4qb10_53.out (a := .int .i64 s7) (b := .slice A7 n7 c7))
      rw [← hw] at Gq4_61
      have Gq9_61 := Lib.hid (Gq9_60.out.far2 ap9qb10_53.out (a := .int .i64 s7) (b := .slice A7 n7 c7))
      rw [← hw] at Gq9_61
      refine hK.out _ _ ?_ (fun hHeld => ?_)
      · exact Bq61.out
      clear Bq60 Kqqb10_5360 Kqqb11_590 Gq4_60 Gq9_60 hw
      clear hK K
      (try simp only [Act.put, uA, uB, uC])
      refine wpAnyH_ready (rs := [13]) (by kernel_rfl) (by simp) ?_
      refine cons_at (i := 13) rfl (fun K hK => ?_) AllReadyH.nil
      obtain ⟨f0, f1, f2, f3⟩ := sm_cells Kqqb11_59_61.out
      go_simp
      clear f0 f1 f2 f3
      obtain ⟨qw62, hw⟩ : ∃ W', W' = (qw61.setCell ⟨qb11_59, 0, none⟩ (.int .i64 s8)).setCell ⟨qb11_59, 1, none⟩ (.slice A8 n8 c8) := ⟨_, rfl⟩
      rw [← hw]
      have Bq62 := Lib.hid (below_2 Bq61.out loqb11_59 (u := .int .i64 s8) (v := .slice A8 n8 c8))
      rw [← hw] at Bq62
      have Kqqb10_53_62 := Lib.hid (Kqqb10_53_61.out.far2 neqb10_53qb11_59 (a := .int .i64 s8) (b := .slice A8 n8 c8))
      rw [← hw] at Kqqb10_53_62
      have Kqqb11_59_62 := Lib.hid (Kqqb11_59_61.out.set2 (a := .int .i64 s8) (b := .slice A8 n8 c8))
      rw [← hw] at Kqqb11_59_62
      have Gq4_62 := Lib.hid (Gq4_61.out.far2 ap4qb11_59.out (a := .int .i64 s8) (b := .slice A8 n8 c8))
      rw [← hw] at Gq4_62
      have Gq9_62 := Lib.hid (Gq9_61.out.far2 ap9qb11_59.out (a := .int .i64 s8) (b := .slice A8 n8 c8))
      rw [← hw] at Gq9_62
      refine hK.out _ _ ?_ (fun hHeld => ?_)
      · exact Bq62.out
      clear Bq61 Kqqb10_53_61 Kqqb11_59_61 Gq4_61 Gq9_61 hw
      clear hK K
      (try simp only [Act.put, uA, uB, uC])
      refine wpAnyH_done (by kernel_rfl) ?_ _
      go_wp2_with fail
      go_meet
      exact ⟨qb10_53, qb11_59, rfl, rfl, (show TwoR _ _ _ _ _ _ _ _ from ⟨_, _, _, _, _, _, _, _, ⟨Kqqb10_53_62.out, loqb10_53, Gq4_62.out, HCq4.out, FRq4.out⟩, ⟨Kqqb11_59_62.out, loqb11_59, Gq9_62.out, HCq9.out, FRq9.out⟩, Bq62.out⟩)⟩
      refine cons_at (i := 11) rfl (fun K hK => ?_) AllReadyH.nil
      go_simp
      obtain ⟨qw63, hw⟩ : ∃ W', W' = qw55.alloc (.cells #[.int .i64 0, .slice none 0 0] 24) := ⟨_, rfl⟩
      obtain ⟨qb11_63, hb⟩ : ∃ b, b = qw55.heap.size := ⟨_, rfl⟩
      have X63 := Lib.hid (bal (Below.refl qw55.heap.size qw55) (o := .cells #[.int .i64 0, .slice none 0 0] 24))
      have Kqqb11_630 := Lib.hid (Blk.new qw55 24 #[.int .i64 0, .slice none 0 0])
      rw [← hw] at X63 Kqqb11_630
      rw [← hb] at Kqqb11_630
      rw [← hw, ← hb]
      have loqb11_63 : w3.heap.size ≤ qb11_63 := by rw [hb]; exact Bq56.out.size
      have neqb10_53qb11_63 : qb10_53 ≠ qb11_63 := by rw [hb]; exact Nat.ne_of_lt Kqqb10_5356.out.lt
      have ap4qb11_63 := Lib.hid (show 0 < n7 → ∀ ad, A7 = some ad → ad.block ≠ qb11_63 from fun hp ad e => by rw [hb]; exact Nat.ne_of_lt (Gq4_55.out.lt hp e))
      have Bq64 := Lib.hid (Bq56.out.trans (X63.out.mono Bq56.out.size))
      have Kqqb10_5364 := Lib.hid (Kqqb10_5356.out.below X63.out Kqqb10_5356.out.lt)
      have Gq4_64 := Lib.hid (Gq4_55.out.past X63.out)
      refine hK.out _ _ ?_ (fun hHeld => ?_)
      · exact Bq64.out
      clear Bq56 Kqqb10_5356 Gq4_55 X63 hw hb
      clear hK K
      (try simp only [Act.put, uA, uB, uC])
      refine wpAnyH_ready (rs := [9]) (by kernel_rfl) (by simp) ?_
      refine cons_at (i := 9) rfl (fun K hK => ?_) AllReadyH.nil
      go_simp
      refine (D2.out _ Bq64.out).mono ?_
      rintro e qw65 ⟨s8, A8, n8, c8, rfl, hc, hg, hf, hb⟩
      try dsimp only
      have X65 := Lib.hid hb
      have Gq9_65 := Lib.hid hg
      have HCq9 := Lib.hid hc
      have FRq9 : Hid (Fresh w3 A8 n8) := fun hp ad e => Nat.le_trans Bq64.out.size (hf hp ad e)
      have ap9qb10_53 := Lib.hid (show 0 < n8 → ∀ ad, A8 = some ad → ad.block ≠ qb10_53 from fun hp ad e => by have := hf hp ad e; have := Kqqb10_5364.out.lt; omega)
      have ap9qb11_63 := Lib.hid (show 0 < n8 → ∀ ad, A8 = some ad → ad.block ≠ qb11_63 from fun hp ad e => by have := hf hp ad e; have := Kqqb11_630.out.lt; omega)
      have Bq66 := Lib.hid (Bq64.out.trans (X65.out.mono Bq64.out.size))
      have Kqqb10_5366 := Lib.hid (Kqqb10_5364.out.below X65.out Kqqb10_5364.out.lt)
      have Kqqb11_6366 := Lib.hid (Kqqb11_630.out.below X65.out Kqqb11_630.out.lt)
      have Gq4_66 := Lib.hid (Gq4_64.out.past X65.out)
      refine hK.out _ _ ?_ (fun hHeld => ?_)
      · exact Bq66.out
      clear Bq64 Kqqb10_5364 Kqqb11_630 Gq4_64 X65 hc hg hf hb
      clear hK K
      (try simp only [Act.put, uA, uB, uC])
      refine wpAnyH_ready (rs := [12]) (by kernel_rfl) (by simp) ?_
      refine cons_at (i := 12) rfl (fun K hK => ?_) AllReadyH.nil
      obtain ⟨f0, f1, f2, f3⟩ := sm_cells Kqqb10_5366.out
      go_simp
      clear f0 f1 f2 f3
      obtain ⟨qw67, hw⟩ : ∃ W', W' = (qw65.setCell ⟨qb10_53, 0, none⟩ (.int .i64 s7)).setCell ⟨qb10_53, 1, none⟩ (.slice A7 n7 c7) := ⟨_, rfl⟩
      rw [← hw]
      have Bq67 := Lib.hid (below_2 Bq66.out loqb10_53 (u := .int .i64 s7) (v := .slice A7 n7 c7))
      rw [← hw] at Bq67
      have Kqqb10_53_67 := Lib.hid (Kqqb10_5366.out.set2 (a := .int .i64 s7) (b := .slice A7 n7 c7))
      rw [← hw] at Kqqb10_53_67
      have Kqqb11_63_67 := Lib.hid (Kqqb11_6366.out.far2 (Ne.symm neqb10_53qb11_63) (a := .int .i64 s7) (b := .slice A7 n7 c7))
      rw [← hw] at Kqqb11_63_67
      have Gq4_67 := Lib.hid (Gq4_66.out.far2 ap4qb10_53.out (a := .int .i64 s7) (b := .slice A7 n7 c7))
      rw [← hw] at Gq4_67
      have Gq9_67 := Lib.hid (Gq9_65.out.far2 ap9qb10_53.out (a := .int .i64 s7) (b := .slice A7 n7 c7))
      rw [← hw] at Gq9_67
      refine hK.out _ _ ?_ (fun hHeld => ?_)
      · exact Bq67.out
      clear Bq66 Kqqb10_5366 Kqqb11_6366 Gq4_66 Gq9_65 hw
      clear hK K
      (try simp only [Act.put, uA, uB, uC])
      refine wpAnyH_ready (rs := [13]) (by kernel_rfl) (by simp) ?_
      refine cons_at (i := 13) rfl (fun K hK => ?_) AllReadyH.nil
      obtain ⟨f0, f1, f2, f3⟩ := sm_cells Kqqb11_63_67.out
      go_simp
      clear f0 f1 f2 f3
      obtain ⟨qw68, hw⟩ : ∃ W', W' = (qw67.setCell ⟨qb11_63, 0, none⟩ (.int .i64 s8)).setCell ⟨qb11_63, 1, none⟩ (.slice A8 n8 c8) := ⟨_, rfl⟩
      rw [← hw]
      have Bq68 := Lib.hid (below_2 Bq67.out loqb11_63 (u := .int .i64 s8) (v := .slice A8 n8 c8))
      rw [← hw] at Bq68
      have Kqqb10_53_68 := Lib.hid (Kqqb10_53_67.out.far2 neqb10_53qb11_63 (a := .int .i64 s8) (b := .slice A8 n8 c8))
      rw [← hw] at Kqqb10_53_68
      have Kqqb11_63_68 := Lib.hid (Kqqb11_63_67.out.set2 (a := .int .i64 s8) (b := .slice A8 n8 c8))
      rw [← hw] at Kqqb11_63_68
      have Gq4_68 := Lib.hid (Gq4_67.out.far2 ap4qb11_63.out (a := .int .i64 s8) (b := .slice A8 n8 c8))
      rw [← hw] at Gq4_68
      have Gq9_68 := Lib.hid (Gq9_67.out.far2 ap9qb11_63.out (a := .int .i64 s8) (b := .slice A8 n8 c8))
      rw [← hw] at Gq9_68
      refine hK.out _ _ ?_ (fun hHeld => ?_)
      · exact Bq68.out
      clear Bq67 Kqqb10_53_67 Kqqb11_63_67 Gq4_67 Gq9_67 hw
      clear hK K
      (try simp only [Act.put, uA, uB, uC])
      refine wpAnyH_done (by kernel_rfl) ?_ _
      go_wp2_with fail
      go_meet
      exact ⟨qb10_53, qb11_63, rfl, rfl, (show TwoR _ _ _ _ _ _ _ _ from ⟨_, _, _, _, _, _, _, _, ⟨Kqqb10_53_68.out, loqb10_53, Gq4_68.out, HCq4.out, FRq4.out⟩, ⟨Kqqb11_63_68.out, loqb11_63, Gq9_68.out, HCq9.out, FRq9.out⟩, Bq68.out⟩)⟩
      refine cons_at (i := 11) rfl (fun K hK => ?_) AllReadyH.nil
      go_simp
      obtain ⟨qw69, hw⟩ : ∃ W', W' = qw53.alloc (.cells #[.int .i64 0, .slice none 0 0] 24) := ⟨_, rfl⟩
      obtain ⟨qb11_69, hb⟩ : ∃ b, b = qw53.heap.size := ⟨_, rfl⟩
      have X69 := Lib.hid (bal (Below.refl qw53.heap.size qw53) (o := .cells #[.int .i64 0, .slice none 0 0] 24))
      have Kqqb11_690 := Lib.hid (Blk.new qw53 24 #[.int .i64 0, .slice none 0 0])
      rw [← hw] at X69 Kqqb11_690
      rw [← hb] at Kqqb11_690
      rw [← hw, ← hb]
      have loqb11_69 : w3.heap.size ≤ qb11_69 := by rw [hb]; exact Bq54.out.size
      have neqb10_53qb11_69 : qb10_53 ≠ qb11_69 := by rw [hb]; exact Nat.ne_of_lt Kqqb10_530.out.lt
      have Bq70 := Lib.hid (Bq54.out.trans (X69.out.mono Bq54.out.size))
      have Kqqb10_5370 := Lib.hid (Kqqb10_530.out.below X69.out Kqqb10_530.out.lt)
      refine hK.out _ _ ?_ (fun hHeld => ?_)
      · exact Bq70.out
      clear Bq54 Kqqb10_530 X69 hw hb
      clear hK K
      (try simp only [Act.put, uA, uB, uC])
      refine wpAnyH_ready (rs := [4]) (by kernel_rfl) (by simp) ?_
      refine cons_at (i := 4) rfl (fun K hK => ?_) AllReadyH.nil
      go_simp
      refine (D1.out _ Bq70.out).mono ?_
      rintro e qw71 ⟨s7, A7, n7, c7, rfl, hc, hg, hf, hb⟩
      try dsimp only
      have X71 := Lib.hid hb
      have Gq4_71 := Lib.hid hg
      have HCq4 := Lib.hid hc
      have FRq4 : Hid (Fresh w3 A7 n7) := fun hp ad e => Nat.le_trans Bq70.out.size (hf hp ad e)
      have ap4qb10_53 := Lib.hid (show 0 < n7 → ∀ ad, A7 = some ad → ad.block ≠ qb10_53 from fun hp ad e => by have := hf hp ad e; have := Kqqb10_5370.out.lt; omega)
      have ap4qb11_69 := Lib.hid (show 0 < n7 → ∀ ad, A7 = some ad → ad.block ≠ qb11_69 from fun hp ad e => by have := hf hp ad e; have := Kqqb11_690.out.lt; omega)
      have Bq72 := Lib.hid (Bq70.out.trans (X71.out.mono Bq70.out.size))
      have Kqqb10_5372 := Lib.hid (Kqqb10_5370.out.below X71.out Kqqb10_5370.out.lt)
      have Kqqb11_6972 := Lib.hid (Kqqb11_690.out.below X71.out Kqqb11_690.out.lt)
      refine hK.out _ _ ?_ (fun hHeld => ?_)
      · exact Bq72.out
      clear Bq70 Kqqb10_5370 Kqqb11_690 X71 hc hg hf hb
      clear hK K
      (try simp only [Act.put, uA, uB, uC])
      refine wpAnyH_ready (rs := [9]) (by kernel_rfl) (by simp) ?_
      refine cons_at (i := 9) rfl (fun K hK => ?_) AllReadyH.nil
      go_simp
      refine (D2.out _ Bq72.out).mono ?_
      rintro e qw73 ⟨s8, A8, n8, c8, rfl, hc, hg, hf, hb⟩
      try dsimp only
      have X73 := Lib.hid hb
      have Gq9_73 := Lib.hid hg
      have HCq9 := Lib.hid hc
      have FRq9 : Hid (Fresh w3 A8 n8) := fun hp ad e => Nat.le_trans Bq72.out.size (hf hp ad e)
      have ap9qb10_53 := Lib.hid (show 0 < n8 → ∀ ad, A8 = some ad → ad.block ≠ qb10_53 from fun hp ad e => by have := hf hp ad e; have := Kqqb10_5372.out.lt; omega)
      have ap9qb11_69 := Lib.hid (show 0 < n8 → ∀ ad, A8 = some ad → ad.block ≠ qb11_69 from fun hp ad e => by have := hf hp ad e; have := Kqqb11_6972.out.lt; omega)
      have Bq74 := Lib.hid (Bq72.out.trans (X73.out.mono Bq72.out.size))
      have Kqqb10_5374 := Lib.hid (Kqqb10_5372.out.below X73.out Kqqb10_5372.out.lt)
      have Kqqb11_6974 := Lib.hid (Kqqb11_6972.out.below X73.out Kqqb11_6972.out.lt)
      have Gq4_74 := Lib.hid (Gq4_71.out.past X73.out)
      refine hK.out _ _ ?_ (fun hHeld => ?_)
      · exact Bq74.out
      clear Bq72 Kqqb10_5372 Kqqb11_6972 Gq4_71 X73 hc hg hf hb
      clear hK K
      (try simp only [Act.put, uA, uB, uC])
      refine wpAnyH_ready (rs := [12]) (by kernel_rfl) (by simp) ?_
      refine cons_at (i := 12) rfl (fun K hK => ?_) AllReadyH.nil
      obtain ⟨f0, f1, f2, f3⟩ := sm_cells Kqqb10_5374.out
      go_simp
      clear f0 f1 f2 f3
      obtain ⟨qw75, hw⟩ : ∃ W', W' = (qw73.setCell ⟨qb10_53, 0, none⟩ (.int .i64 s7)).setCell ⟨qb10_53, 1, none⟩ (.slice A7 n7 c7) := ⟨_, rfl⟩
      rw [← hw]
      have Bq75 := Lib.hid (below_2 Bq74.out loqb10_53 (u := .int .i64 s7) (v := .slice A7 n7 c7))
      rw [← hw] at Bq75
      have Kqqb10_53_75 := Lib.hid (Kqqb10_5374.out.set2 (a := .int .i64 s7) (b := .slice A7 n7 c7))
      rw [← hw] at Kqqb10_53_75
      have Kqqb11_69_75 := Lib.hid (Kqqb11_6974.out.far2 (Ne.symm neqb10_53qb11_69) (a := .int .i64 s7) (b := .slice A7 n7 c7))
      rw [← hw] at Kqqb11_69_75
      have Gq4_75 := Lib.hid (Gq4_74.out.far2 ap4qb10_53.out (a := .int .i64 s7) (b := .slice A7 n7 c7))
      rw [← hw] at Gq4_75
      have Gq9_75 := Lib.hid (Gq9_73.out.far2 ap9qb10_53.out (a := .int .i64 s7) (b := .slice A7 n7 c7))
      rw [← hw] at Gq9_75
      refine hK.out _ _ ?_ (fun hHeld => ?_)
      · exact Bq75.out
      clear Bq74 Kqqb10_5374 Kqqb11_6974 Gq4_74 Gq9_73 hw
      clear hK K
      (try simp only [Act.put, uA, uB, uC])
      refine wpAnyH_ready (rs := [13]) (by kernel_rfl) (by simp) ?_
      refine cons_at (i := 13) rfl (fun K hK => ?_) AllReadyH.nil
      obtain ⟨f0, f1, f2, f3⟩ := sm_cells Kqqb11_69_75.out
      go_simp
      clear f0 f1 f2 f3
      obtain ⟨qw76, hw⟩ : ∃ W', W' = (qw75.setCell ⟨qb11_69, 0, none⟩ (.int .i64 s8)).setCell ⟨qb11_69, 1, none⟩ (.slice A8 n8 c8) := ⟨_, rfl⟩
      rw [← hw]
      have Bq76 := Lib.hid (below_2 Bq75.out loqb11_69 (u := .int .i64 s8) (v := .slice A8 n8 c8))
      rw [← hw] at Bq76
      have Kqqb10_53_76 := Lib.hid (Kqqb10_53_75.out.far2 neqb10_53qb11_69 (a := .int .i64 s8) (b := .slice A8 n8 c8))
      rw [← hw] at Kqqb10_53_76
      have Kqqb11_69_76 := Lib.hid (Kqqb11_69_75.out.set2 (a := .int .i64 s8) (b := .slice A8 n8 c8))
      rw [← hw] at Kqqb11_69_76
      have Gq4_76 := Lib.hid (Gq4_75.out.far2 ap4qb11_69.out (a := .int .i64 s8) (b := .slice A8 n8 c8))
      rw [← hw] at Gq4_76
      have Gq9_76 := Lib.hid (Gq9_75.out.far2 ap9qb11_69.out (a := .int .i64 s8) (b := .slice A8 n8 c8))
      rw [← hw] at Gq9_76
      refine hK.out _ _ ?_ (fun hHeld => ?_)
      · exact Bq76.out
      clear Bq75 Kqqb10_53_75 Kqqb11_69_75 Gq4_75 Gq9_75 hw
      clear hK K
      (try simp only [Act.put, uA, uB, uC])
      refine wpAnyH_done (by kernel_rfl) ?_ _
      go_wp2_with fail
      go_meet
      exact ⟨qb10_53, qb11_69, rfl, rfl, (show TwoR _ _ _ _ _ _ _ _ from ⟨_, _, _, _, _, _, _, _, ⟨Kqqb10_53_76.out, loqb10_53, Gq4_76.out, HCq4.out, FRq4.out⟩, ⟨Kqqb11_69_76.out, loqb11_69, Gq9_76.out, HCq9.out, FRq9.out⟩, Bq76.out⟩)⟩
      refine cons_at (i := 11) rfl (fun K hK => ?_) AllReadyH.nil
      go_simp
      obtain ⟨qw77, hw⟩ : ∃ W', W' = qw0.alloc (.cells #[.int .i64 0, .slice none 0 0] 24) := ⟨_, rfl⟩
      obtain ⟨qb11_77, hb⟩ : ∃ b, b = qw0.heap.size := ⟨_, rfl⟩
      have X77 := Lib.hid (bal (Below.refl qw0.heap.size qw0) (o := .cells #[.int .i64 0, .slice none 0 0] 24))
      have Kqqb11_770 := Lib.hid (Blk.new qw0 24 #[.int .i64 0, .slice none 0 0])
      rw [← hw] at X77 Kqqb11_770
      rw [← hb] at Kqqb11_770
      rw [← hw, ← hb]
      have loqb11_77 : w3.heap.size ≤ qb11_77 := by rw [hb]; exact Bq0.out.size
      have Bq78 := Lib.hid (Bq0.out.trans (X77.out.mono Bq0.out.size))
      refine hK.out _ _ ?_ (fun hHeld => ?_)
      · exact Bq78.out
      clear Bq0 X77 hw hb
      clear hK K
      (try simp only [Act.put, uA, uB, uC])
      refine wpAnyH_ready (rs := [4, 10]) (by kernel_rfl) (by simp) ?_
      refine cons_at (i := 4) rfl (fun K hK => ?_) ?_
      go_simp
      refine (D1.out _ Bq78.out).mono ?_
      rintro e qw79 ⟨s7, A7, n7, c7, rfl, hc, hg, hf, hb⟩
      try dsimp only
      have X79 := Lib.hid hb
      have Gq4_79 := Lib.hid hg
      have HCq4 := Lib.hid hc
      have FRq4 : Hid (Fresh w3 A7 n7) := fun hp ad e => Nat.le_trans Bq78.out.size (hf hp ad e)
      have ap4qb11_77 := Lib.hid (show 0 < n7 → ∀ ad, A7 = some ad → ad.block ≠ qb11_77 from fun hp ad e => by have := hf hp ad e; have := Kqqb11_770.out.lt; omega)
      have Bq80 := Lib.hid (Bq78.out.trans (X79.out.mono Bq78.out.size))
      have Kqqb11_7780 := Lib.hid (Kqqb11_770.out.below X79.out Kqqb11_770.out.lt)
      refine hK.out _ _ ?_ (fun hHeld => ?_)
      · exact Bq80.out
      clear Bq78 Kqqb11_770 X79 hc hg hf hb
      clear hK K
      (try simp only [Act.put, uA, uB, uC])
      refine wpAnyH_ready (rs := [9, 10]) (by kernel_rfl) (by simp) ?_
      refine cons_at (i := 9) rfl (fun K hK => ?_) ?_
      go_simp
      refine (D2.out _ Bq80.out).mono ?_
      rintro e qw81 ⟨s8, A8, n8, c8, rfl, hc, hg, hf, hb⟩
      try dsimp only
      have X81 := Lib.hid hb
      have Gq9_81 := Lib.hid hg
      have HCq9 := Lib.hid hc
      have FRq9 : Hid (Fresh w3 A8 n8) := fun hp ad e => Nat.le_trans Bq80.out.size (hf hp ad e)
      have ap9qb11_77 := Lib.hid (show 0 < n8 → ∀ ad, A8 = some ad → ad.block ≠ qb11_77 from fun hp ad e => by have := hf hp ad e; have := Kqqb11_7780.out.lt; omega)
      have Bq82 := Lib.hid (Bq80.out.trans (X81.out.mono Bq80.out.size))
      have Kqqb11_7782 := Lib.hid (Kqqb11_7780.out.below X81.out Kqqb11_7780.out.lt)
      have Gq4_82 := Lib.hid (Gq4_79.out.past X81.out)
      refine hK.out _ _ ?_ (fun hHeld => ?_)
      · exact Bq82.out
      clear Bq80 Kqqb11_7780 Gq4_79 X81 hc hg hf hb
      clear hK K
      (try simp only [Act.put, uA, uB, uC])
      refine wpAnyH_ready (rs := [10]) (by kernel_rfl) (by simp) ?_
      refine cons_at (i := 10) rfl (fun K hK => ?_) AllReadyH.nil
      go_simp
      obtain ⟨qw83, hw⟩ : ∃ W', W' = qw81.alloc (.cells #[.int .i64 0, .slice none 0 0] 24) := ⟨_, rfl⟩
      obtain ⟨qb10_83, hb⟩ : ∃ b, b = qw81.heap.size := ⟨_, rfl⟩
      have X83 := Lib.hid (bal (Below.refl qw81.heap.size qw81) (o := .cells #[.int .i64 0, .slice none 0 0] 24))
      have Kqqb10_830 := Lib.hid (Blk.new qw81 24 #[.int .i64 0, .slice none 0 0])
      rw [← hw] at X83 Kqqb10_830
      rw [← hb] at Kqqb10_830
      rw [← hw, ← hb]
      have loqb10_83 : w3.heap.size ≤ qb10_83 := by rw [hb]; exact Bq82.out.size
      have neqb11_77qb10_83 : qb11_77 ≠ qb10_83 := by rw [hb]; exact Nat.ne_of_lt Kqqb11_7782.out.lt
      have ap4qb10_83 := Lib.hid (show 0 < n7 → ∀ ad, A7 = some ad → ad.block ≠ qb10_83 from fun hp ad e => by rw [hb]; exact Nat.ne_of_lt (Gq4_82.out.lt hp e))
      have ap9qb10_83 := Lib.hid (show 0 < n8 → ∀ ad, A8 = some ad → ad.block ≠ qb10_83 from fun hp ad e => by rw [hb]; exact Nat.ne_of_lt (Gq9_81.out.lt hp e))
      have Bq84 := Lib.hid (Bq82.out.trans (X83.out.mono Bq82.out.size))
      have Kqqb11_7784 := Lib.hid (Kqqb11_7782.out.below X83.out Kqqb11_7782.out.lt)
      have Gq4_84 := Lib.hid (Gq4_82.out.past X83.out)
      have Gq9_84 := Lib.hid (Gq9_81.out.past X83.out)
      refine hK.out _ _ ?_ (fun hHeld => ?_)
      · exact Bq84.out
      clear Bq82 Kqqb11_7782 Gq4_82 Gq9_81 X83 hw hb
      clear hK K
      (try simp only [Act.put, uA, uB, uC])
      refine wpAnyH_ready (rs := [12]) (by kernel_rfl) (by simp) ?_
      refine cons_at (i := 12) rfl (fun K hK => ?_) AllReadyH.nil
      obtain ⟨f0, f1, f2, f3⟩ := sm_cells Kqqb10_830.out
      go_simp
      clear f0 f1 f2 f3
      obtain ⟨qw85, hw⟩ : ∃ W', W' = (qw83.setCell ⟨qb10_83, 0, none⟩ (.int .i64 s7)).setCell ⟨qb10_83, 1, none⟩ (.slice A7 n7 c7) := ⟨_, rfl⟩
      rw [← hw]
      have Bq85 := Lib.hid (below_2 Bq84.out loqb10_83 (u := .int .i64 s7) (v := .slice A7 n7 c7))
      rw [← hw] at Bq85
      have Kqqb11_77_85 := Lib.hid (Kqqb11_7784.out.far2 neqb11_77qb10_83 (a := .int .i64 s7) (b := .slice A7 n7 c7))
      rw [← hw] at Kqqb11_77_85
      have Kqqb10_83_85 := Lib.hid (Kqqb10_830.out.set2 (a := .int .i64 s7) (b := .slice A7 n7 c7))
      rw [← hw] at Kqqb10_83_85
      have Gq4_85 := Lib.hid (Gq4_84.out.far2 ap4qb10_83.out (a := .int .i64 s7) (b := .slice A7 n7 c7))
      rw [← hw] at Gq4_85
      have Gq9_85 := Lib.hid (Gq9_84.out.far2 ap9qb10_83.out (a := .int .i64 s7) (b := .slice A7 n7 c7))
      rw [← hw] at Gq9_85
      refine hK.out _ _ ?_ (fun hHeld => ?_)
      · exact Bq85.out
      clear Bq84 Kqqb11_7784 Kqqb10_830 Gq4_84 Gq9_84 hw
      clear hK K
      (try simp only [Act.put, uA, uB, uC])
      refine wpAnyH_ready (rs := [13]) (by kernel_rfl) (by simp) ?_
      refine cons_at (i := 13) rfl (fun K hK => ?_) AllReadyH.nil
      obtain ⟨f0, f1, f2, f3⟩ := sm_cells Kqqb11_77_85.out
      go_simp
      clear f0 f1 f2 f3
      obtain ⟨qw86, hw⟩ : ∃ W', W' = (qw85.setCell ⟨qb11_77, 0, none⟩ (.int .i64 s8)).setCell ⟨qb11_77, 1, none⟩ (.slice A8 n8 c8) := ⟨_, rfl⟩
      rw [← hw]
      have Bq86 := Lib.hid (below_2 Bq85.out loqb11_77 (u := .int .i64 s8) (v := .slice A8 n8 c8))
      rw [← hw] at Bq86
      have Kqqb11_77_86 := Lib.hid (Kqqb11_77_85.out.set2 (a := .int .i64 s8) (b := .slice A8 n8 c8))
      rw [← hw] at Kqqb11_77_86
      have Kqqb10_83_86 := Lib.hid (Kqqb10_83_85.out.far2 (Ne.symm neqb11_77qb10_83) (a := .int .i64 s8) (b := .slice A8 n8 c8))
      rw [← hw] at Kqqb10_83_86
      have Gq4_86 := Lib.hid (Gq4_85.out.far2 ap4qb11_77.out (a := .int .i64 s8) (b := .slice A8 n8 c8))
      rw [← hw] at Gq4_86
      have Gq9_86 := Lib.hid (Gq9_85.out.far2 ap9qb11_77.out (a := .int .i64 s8) (b := .slice A8 n8 c8))
      rw [← hw] at Gq9_86
      refine hK.out _ _ ?_ (fun hHeld => ?_)
      · exact Bq86.out
      clear Bq85 Kqqb11_77_85 Kqqb10_83_85 Gq4_85 Gq9_85 hw
      clear hK K
      (try simp only [Act.put, uA, uB, uC])
      refine wpAnyH_done (by kernel_rfl) ?_ _
      go_wp2_with fail
      go_meet
      exact ⟨qb10_83, qb11_77, rfl, rfl, (show TwoR _ _ _ _ _ _ _ _ from ⟨_, _, _, _, _, _, _, _, ⟨Kqqb10_83_86.out, loqb10_83, Gq4_86.out, HCq4.out, FRq4.out⟩, ⟨Kqqb11_77_86.out, loqb11_77, Gq9_86.out, HCq9.out, FRq9.out⟩, Bq86.out⟩)⟩
      refine cons_at (i := 10) rfl (fun K hK => ?_) AllReadyH.nil
      go_simp
      obtain ⟨qw87, hw⟩ : ∃ W', W' = qw79.alloc (.cells #[.int .i64 0, .slice none 0 0] 24) := ⟨_, rfl⟩
      obtain ⟨qb10_87, hb⟩ : ∃ b, b = qw79.heap.size := ⟨_, rfl⟩
      have X87 := Lib.hid (bal (Below.refl qw79.heap.size qw79) (o := .cells #[.int .i64 0, .slice none 0 0] 24))
      have Kqqb10_870 := Lib.hid (Blk.new qw79 24 #[.int .i64 0, .slice none 0 0])
      rw [← hw] at X87 Kqqb10_870
      rw [← hb] at Kqqb10_870
      rw [← hw, ← hb]
      have loqb10_87 : w3.heap.size ≤ qb10_87 := by rw [hb]; exact Bq80.out.size
      have neqb11_77qb10_87 : qb11_77 ≠ qb10_87 := by rw [hb]; exact Nat.ne_of_lt Kqqb11_7780.out.lt
      have ap4qb10_87 := Lib.hid (show 0 < n7 → ∀ ad, A7 = some ad → ad.block ≠ qb10_87 from fun hp ad e => by rw [hb]; exact Nat.ne_of_lt (Gq4_79.out.lt hp e))
      have Bq88 := Lib.hid (Bq80.out.trans (X87.out.mono Bq80.out.size))
      have Kqqb11_7788 := Lib.hid (Kqqb11_7780.out.below X87.out Kqqb11_7780.out.lt)
      have Gq4_88 := Lib.hid (Gq4_79.out.past X87.out)
      refine hK.out _ _ ?_ (fun hHeld => ?_)
      · exact Bq88.out
      clear Bq80 Kqqb11_7780 Gq4_79 X87 hw hb
      clear hK K
      (try simp only [Act.put, uA, uB, uC])
      refine wpAnyH_ready (rs := [9]) (by kernel_rfl) (by simp) ?_
      refine cons_at (i := 9) rfl (fun K hK => ?_) AllReadyH.nil
      go_simp
      refine (D2.out _ Bq88.out).mono ?_
      rintro e qw89 ⟨s8, A8, n8, c8, rfl, hc, hg, hf, hb⟩
      try dsimp only
      have X89 := Lib.hid hb
      have Gq9_89 := Lib.hid hg
      have HCq9 := Lib.hid hc
      have FRq9 : Hid (Fresh w3 A8 n8) := fun hp ad e => Nat.le_trans Bq88.out.size (hf hp ad e)
      have ap9qb11_77 := Lib.hid (show 0 < n8 → ∀ ad, A8 = some ad → ad.block ≠ qb11_77 from fun hp ad e => by have := hf hp ad e; have := Kqqb11_7788.out.lt; omega)
      have ap9qb10_87 := Lib.hid (show 0 < n8 → ∀ ad, A8 = some ad → ad.block ≠ qb10_87 from fun hp ad e => by have := hf hp ad e; have := Kqqb10_870.out.lt; omega)
      have Bq90 := Lib.hid (Bq88.out.trans (X89.out.mono Bq88.out.size))
      have Kqqb11_7790 := Lib.hid (Kqqb11_7788.out.below X89.out Kqqb11_7788.out.lt)
      have Kqqb10_8790 := Lib.hid (Kqqb10_870.out.below X89.out Kqqb10_870.out.lt)
      have Gq4_90 := Lib.hid (Gq4_88.out.past X89.out)
      refine hK.out _ _ ?_ (fun hHeld => ?_)
      · exact Bq90.out
      clear Bq88 Kqqb11_7788 Kqqb10_870 Gq4_88 X89 hc hg hf hb
      clear hK K
      (try simp only [Act.put, uA, uB, uC])
      refine wpAnyH_ready (rs := [12]) (by kernel_rfl) (by simp) ?_
      refine cons_at (i := 12) rfl (fun K hK => ?_) AllReadyH.nil
      obtain ⟨f0, f1, f2, f3⟩ := sm_cells Kqqb10_8790.out
      go_simp
      clear f0 f1 f2 f3
      obtain ⟨qw91, hw⟩ : ∃ W', W' = (qw89.setCell ⟨qb10_87, 0, none⟩ (.int .i64 s7)).setCell ⟨qb10_87, 1, none⟩ (.slice A7 n7 c7) := ⟨_, rfl⟩
      rw [← hw]
      have Bq91 := Lib.hid (below_2 Bq90.out loqb10_87 (u := .int .i64 s7) (v := .slice A7 n7 c7))
      rw [← hw] at Bq91
      have Kqqb11_77_91 := Lib.hid (Kqqb11_7790.out.far2 neqb11_77qb10_87 (a := .int .i64 s7) (b := .slice A7 n7 c7))
      rw [← hw] at Kqqb11_77_91
      have Kqqb10_87_91 := Lib.hid (Kqqb10_8790.out.set2 (a := .int .i64 s7) (b := .slice A7 n7 c7))
      rw [← hw] at Kqqb10_87_91
      have Gq4_91 := Lib.hid (Gq4_90.out.far2 ap4qb10_87.out (a := .int .i64 s7) (b := .slice A7 n7 c7))
      rw [← hw] at Gq4_91
      have Gq9_91 := Lib.hid (Gq9_89.out.far2 ap9qb10_87.out (a := .int .i64 s7) (b := .slice A7 n7 c7))
      rw [← hw] at Gq9_91
      refine hK.out _ _ ?_ (fun hHeld => ?_)
      · exact Bq91.out
      clear Bq90 Kqqb11_7790 Kqqb10_8790 Gq4_90 Gq9_89 hw
      clear hK K
      (try simp only [Act.put, uA, uB, uC])
      refine wpAnyH_ready (rs := [13]) (by kernel_rfl) (by simp) ?_
      refine cons_at (i := 13) rfl (fun K hK => ?_) AllReadyH.nil
      obtain ⟨f0, f1, f2, f3⟩ := sm_cells Kqqb11_77_91.out
      go_simp
      clear f0 f1 f2 f3
      obtain ⟨qw92, hw⟩ : ∃ W', W' = (qw91.setCell ⟨qb11_77, 0, none⟩ (.int .i64 s8)).setCell ⟨qb11_77, 1, none⟩ (.slice A8 n8 c8) := ⟨_, rfl⟩
      rw [← hw]
      have Bq92 := Lib.hid (below_2 Bq91.out loqb11_77 (u := .int .i64 s8) (v := .slice A8 n8 c8))
      rw [← hw] at Bq92
      have Kqqb11_77_92 := Lib.hid (Kqqb11_77_91.out.set2 (a := .int .i64 s8) (b := .slice A8 n8 c8))
      rw [← hw] at Kqqb11_77_92
      have Kqqb10_87_92 := Lib.hid (Kqqb10_87_91.out.far2 (Ne.symm neqb11_77qb10_87) (a := .int .i64 s8) (b := .slice A8 n8 c8))
      rw [← hw] at Kqqb10_87_92
      have Gq4_92 := Lib.hid (Gq4_91.out.far2 ap4qb11_77.out (a := .int .i64 s8) (b := .slice A8 n8 c8))
      rw [← hw] at Gq4_92
      have Gq9_92 := Lib.hid (Gq9_91.out.far2 ap9qb11_77.out (a := .int .i64 s8) (b := .slice A8 n8 c8))
      rw [← hw] at Gq9_92
      refine hK.out _ _ ?_ (fun hHeld => ?_)
      · exact Bq92.out
      clear Bq91 Kqqb11_77_91 Kqqb10_87_91 Gq4_91 Gq9_91 hw
      clear hK K
      (try simp only [Act.put, uA, uB, uC])
      refine wpAnyH_done (by kernel_rfl) ?_ _
      go_wp2_with fail
      go_meet
      exact ⟨qb10_87, qb11_77, rfl, rfl, (show TwoR _ _ _ _ _ _ _ _ from ⟨_, _, _, _, _, _, _, _, ⟨Kqqb10_87_92.out, loqb10_87, Gq4_92.out, HCq4.out, FRq4.out⟩, ⟨Kqqb11_77_92.out, loqb11_77, Gq9_92.out, HCq9.out, FRq9.out⟩, Bq92.out⟩)⟩
      refine cons_at (i := 10) rfl (fun K hK => ?_) AllReadyH.nil
      go_simp
      obtain ⟨qw93, hw⟩ : ∃ W', W' = qw77.alloc (.cells #[.int .i64 0, .slice none 0 0] 24) := ⟨_, rfl⟩
      obtain ⟨qb10_93, hb⟩ : ∃ b, b = qw77.heap.size := ⟨_, rfl⟩
      have X93 := Lib.hid (bal (Below.refl qw77.heap.size qw77) (o := .cells #[.int .i64 0, .slice none 0 0] 24))
      have Kqqb10_930 := Lib.hid (Blk.new qw77 24 #[.int .i64 0, .slice none 0 0])
      rw [← hw] at X93 Kqqb10_930
      rw [← hb] at Kqqb10_930
      rw [← hw, ← hb]
      have loqb10_93 : w3.heap.size ≤ qb10_93 := by rw [hb]; exact Bq78.out.size
      have neqb11_77qb10_93 : qb11_77 ≠ qb10_93 := by rw [hb]; exact Nat.ne_of_lt Kqqb11_770.out.lt
      have Bq94 := Lib.hid (Bq78.out.trans (X93.out.mono Bq78.out.size))
      have Kqqb11_7794 := Lib.hid (Kqqb11_770.out.below X93.out Kqqb11_770.out.lt)
      refine hK.out _ _ ?_ (fun hHeld => ?_)
      · exact Bq94.out
      clear Bq78 Kqqb11_770 X93 hw hb
      clear hK K
      (try simp only [Act.put, uA, uB, uC])
      refine wpAnyH_ready (rs := [4]) (by kernel_rfl) (by simp) ?_
      refine cons_at (i := 4) rfl (fun K hK => ?_) AllReadyH.nil
      go_simp
      refine (D1.out _ Bq94.out).mono ?_
      rintro e qw95 ⟨s7, A7, n7, c7, rfl, hc, hg, hf, hb⟩
      try dsimp only
      have X95 := Lib.hid hb
      have Gq4_95 := Lib.hid hg
      have HCq4 := Lib.hid hc
      have FRq4 : Hid (Fresh w3 A7 n7) := fun hp ad e => Nat.le_trans Bq94.out.size (hf hp ad e)
      have ap4qb11_77 := Lib.hid (show 0 < n7 → ∀ ad, A7 = some ad → ad.block ≠ qb11_77 from fun hp ad e => by have := hf hp ad e; have := Kqqb11_7794.out.lt; omega)
      have ap4qb10_93 := Lib.hid (show 0 < n7 → ∀ ad, A7 = some ad → ad.block ≠ qb10_93 from fun hp ad e => by have := hf hp ad e; have := Kqqb10_930.out.lt; omega)
      have Bq96 := Lib.hid (Bq94.out.trans (X95.out.mono Bq94.out.size))
      have Kqqb11_7796 := Lib.hid (Kqqb11_7794.out.below X95.out Kqqb11_7794.out.lt)
      have Kqqb10_9396 := Lib.hid (Kqqb10_930.out.below X95.out Kqqb10_930.out.lt)
      refine hK.out _ _ ?_ (fun hHeld => ?_)
      · exact Bq96.out
      clear Bq94 Kqqb11_7794 Kqqb10_930 X95 hc hg hf hb
      clear hK K
      (try simp only [Act.put, uA, uB, uC])
      refine wpAnyH_ready (rs := [9]) (by kernel_rfl) (by simp) ?_
      refine cons_at (i := 9) rfl (fun K hK => ?_) AllReadyH.nil
      go_simp
      refine (D2.out _ Bq96.out).mono ?_
      rintro e qw97 ⟨s8, A8, n8, c8, rfl, hc, hg, hf, hb⟩
      try dsimp only
      have X97 := Lib.hid hb
      have Gq9_97 := Lib.hid hg
      have HCq9 := Lib.hid hc
      have FRq9 : Hid (Fresh w3 A8 n8) := fun hp ad e => Nat.le_trans Bq96.out.size (hf hp ad e)
      have ap9qb11_77 := Lib.hid (show 0 < n8 → ∀ ad, A8 = some ad → ad.block ≠ qb11_77 from fun hp ad e => by have := hf hp ad e; have := Kqqb11_7796.out.lt; omega)
      have ap9qb10_93 := Lib.hid (show 0 < n8 → ∀ ad, A8 = some ad → ad.block ≠ qb10_93 from fun hp ad e => by have := hf hp ad e; have := Kqqb10_9396.out.lt; omega)
      have Bq98 := Lib.hid (Bq96.out.trans (X97.out.mono Bq96.out.size))
      have Kqqb11_7798 := Lib.hid (Kqqb11_7796.out.below X97.out Kqqb11_7796.out.lt)
      have Kqqb10_9398 := Lib.hid (Kqqb10_9396.out.below X97.out Kqqb10_9396.out.lt)
      have Gq4_98 := Lib.hid (Gq4_95.out.past X97.out)
      refine hK.out _ _ ?_ (fun hHeld => ?_)
      · exact Bq98.out
      clear Bq96 Kqqb11_7796 Kqqb10_9396 Gq4_95 X97 hc hg hf hb
      clear hK K
      (try simp only [Act.put, uA, uB, uC])
      refine wpAnyH_ready (rs := [12]) (by kernel_rfl) (by simp) ?_
      refine cons_at (i := 12) rfl (fun K hK => ?_) AllReadyH.nil
      obtain ⟨f0, f1, f2, f3⟩ := sm_cells Kqqb10_9398.out
      go_simp
      clear f0 f1 f2 f3
      obtain ⟨qw99, hw⟩ : ∃ W', W' = (qw97.setCell ⟨qb10_93, 0, none⟩ (.int .i64 s7)).setCell ⟨qb10_93, 1, none⟩ (.slice A7 n7 c7) := ⟨_, rfl⟩
      rw [← hw]
      have Bq99 := Lib.hid (below_2 Bq98.out loqb10_93 (u := .int .i64 s7) (v := .slice A7 n7 c7))
      rw [← hw] at Bq99
      have Kqqb11_77_99 := Lib.hid (Kqqb11_7798.out.far2 neqb11_77qb10_93 (a := .int .i64 s7) (b := .slice A7 n7 c7))
      rw [← hw] at Kqqb11_77_99
      have Kqqb10_93_99 := Lib.hid (Kqqb10_9398.out.set2 (a := .int .i64 s7) (b := .slice A7 n7 c7))
      rw [← hw] at Kqqb10_93_99
      have Gq4_99 := Lib.hid (Gq4_98.out.far2 ap4qb10_93.out (a := .int .i64 s7) (b := .slice A7 n7 c7))
      rw [← hw] at Gq4_99
      have Gq9_99 := Lib.hid (Gq9_97.out.far2 ap9qb10_93.out (a := .int .i64 s7) (b := .slice A7 n7 c7))
      rw [← hw] at Gq9_99
      refine hK.out _ _ ?_ (fun hHeld => ?_)
      · exact Bq99.out
      clear Bq98 Kqqb11_7798 Kqqb10_9398 Gq4_98 Gq9_97 hw
      clear hK K
      (try simp only [Act.put, uA, uB, uC])
      refine wpAnyH_ready (rs := [13]) (by kernel_rfl) (by simp) ?_
      refine cons_at (i := 13) rfl (fun K hK => ?_) AllReadyH.nil
      obtain ⟨f0, f1, f2, f3⟩ := sm_cells Kqqb11_77_99.out
      go_simp
      clear f0 f1 f2 f3
      obtain ⟨qw100, hw⟩ : ∃ W', W' = (qw99.setCell ⟨qb11_77, 0, none⟩ (.int .i64 s8)).setCell ⟨qb11_77, 1, none⟩ (.slice A8 n8 c8) := ⟨_, rfl⟩
      rw [← hw]
      have Bq100 := Lib.hid (below_2 Bq99.out loqb11_77 (u := .int .i64 s8) (v := .slice A8 n8 c8))
      rw [← hw] at Bq100
      have Kqqb11_77_100 := Lib.hid (Kqqb11_77_99.out.set2 (a := .int .i64 s8) (b := .slice A8 n8 c8))
      rw [← hw] at Kqqb11_77_100
      have Kqqb10_93_100 := Lib.hid (Kqqb10_93_99.out.far2 (Ne.symm neqb11_77qb10_93) (a := .int .i64 s8) (b := .slice A8 n8 c8))
      rw [← hw] at Kqqb10_93_100
      have Gq4_100 := Lib.hid (Gq4_99.out.far2 ap4qb11_77.out (a := .int .i64 s8) (b := .slice A8 n8 c8))
      rw [← hw] at Gq4_100
      have Gq9_100 := Lib.hid (Gq9_99.out.far2 ap9qb11_77.out (a := .int .i64 s8) (b := .slice A8 n8 c8))
      rw [← hw] at Gq9_100
      refine hK.out _ _ ?_ (fun hHeld => ?_)
      · exact Bq100.out
      clear Bq99 Kqqb11_77_99 Kqqb10_93_99 Gq4_99 Gq9_99 hw
      clear hK K
      (try simp only [Act.put, uA, uB, uC])
      refine wpAnyH_done (by kernel_rfl) ?_ _
      go_wp2_with fail
      go_meet
      exact ⟨qb10_93, qb11_77, rfl, rfl, (show TwoR _ _ _ _ _ _ _ _ from ⟨_, _, _, _, _, _, _, _, ⟨Kqqb10_93_100.out, loqb10_93, Gq4_100.out, HCq4.out, FRq4.out⟩, ⟨Kqqb11_77_100.out, loqb11_77, Gq9_100.out, HCq9.out, FRq9.out⟩, Bq100.out⟩)⟩
    case rest =>
      obtain ⟨b8, b9, rfl, rfl, HT5⟩ := hcut
      obtain ⟨w8, rfl⟩ : ∃ w8 : World, w8 = wc := ⟨_, rfl⟩
      obtain ⟨s9, A9, n9, c9, s10, A10, n10, c10, hx9, hx10, hb5⟩ := HT5.out
      have S8 := Lib.hid (S3.out.call hb5)
      have X9 := Lib.hid hx9
      have X10 := Lib.hid hx10
      have hlo8 : w.heap.size + 1 + 1 < b8 := Nat.lt_of_lt_of_le S3.out.k3.lt hx9.lo
      have hlo9 : w.heap.size + 1 + 1 < b9 := Nat.lt_of_lt_of_le S3.out.k3.lt hx10.lo
      have hS8 := Lib.hid S8.out.k3.lt
      clear ka0 ka1 ka2 ka3 kb0 kb1 kb2 kb3 HT5 hx9 hx10 hb5 S3
      obtain ⟨⟨ka0, ka1, ka2, ka3⟩, kb0, kb1, kb2, kb3⟩ := S8.out.cells
      obtain ⟨k80, k81, -, -⟩ := sm_cells X9.out.blk
      obtain ⟨k90, k91, -, -⟩ := sm_cells X10.out.blk
      dsimp only at ka0 ka1 ka2 ka3 kb0 kb1 kb2 kb3
      go_upto_region 5 with (fail)
      have HC := Lib.hid (fun (w' : World) (h : Below w8.heap.size w8 w') => (⟨(h.cell (p := ⟨w.heap.size, 0, none⟩) (World.block_lt_of_cell? _ _ ka0)).trans ka0, (h.cell (p := ⟨w.heap.size, 1, none⟩) (World.block_lt_of_cell? _ _ ka1)).trans ka1, (h.cell (p := ⟨w.heap.size, 2, none⟩) (World.block_lt_of_cell? _ _ ka2)).trans ka2, (h.cell (p := ⟨w.heap.size, 3, none⟩) (World.block_lt_of_cell? _ _ ka3)).trans ka3, (h.cell (p := ⟨w.heap.size + 1, 0, none⟩) (World.block_lt_of_cell? _ _ kb0)).trans kb0, (h.cell (p := ⟨w.heap.size + 1, 1, none⟩) (World.block_lt_of_cell? _ _ kb1)).trans kb1, (h.cell (p := ⟨w.heap.size + 1, 2, none⟩) (World.block_lt_of_cell? _ _ kb2)).trans kb2, (h.cell (p := ⟨w.heap.size + 1, 3, none⟩) (World.block_lt_of_cell? _ _ kb3)).trans kb3, (h.cell (p := ⟨b8, 0, none⟩) (World.block_lt_of_cell? _ _ k80)).trans k80, (h.cell (p := ⟨b8, 1, none⟩) (World.block_lt_of_cell? _ _ k81)).trans k81, (h.cell (p := ⟨b9, 0, none⟩) (World.block_lt_of_cell? _ _ k90)).trans k90, (h.cell (p := ⟨b9, 1, none⟩) (World.block_lt_of_cell? _ _ k91)).trans k91⟩ : w'.cell? ⟨w.heap.size, 0, none⟩ = some (.int .i64 s1) ∧ w'.cell? ⟨w.heap.size, 1, none⟩ = some (.slice A1 n1 c1) ∧ w'.cell? ⟨w.heap.size, 2, none⟩ = some (.int .i64 s2) ∧ w'.cell? ⟨w.heap.size, 3, none⟩ = some (.slice A2 n2 c2) ∧ w'.cell? ⟨w.heap.size + 1, 0, none⟩ = some (.int .i64 s3) ∧ w'.cell? ⟨w.heap.size + 1, 1, none⟩ = some (.slice A3 n3 c3) ∧ w'.cell? ⟨w.heap.size + 1, 2, none⟩ = some (.int .i64 s4) ∧ w'.cell? ⟨w.heap.size + 1, 3, none⟩ = some (.slice A4 n4 c4) ∧ w'.cell? ⟨b8, 0, none⟩ = some (.int .i64 s9) ∧ w'.cell? ⟨b8, 1, none⟩ = some (.slice A9 n9 c9) ∧ w'.cell? ⟨b9, 0, none⟩ = some (.int .i64 s10) ∧ w'.cell? ⟨b9, 1, none⟩ = some (.slice A10 n10 c10)))
      have D1 := Lib.hid (fun (W : World) (h' : Below w8.heap.size w8 W) => divided_F (((H1.out.past S8.out.bl).1).past h') (X9.out.bg.past h') (by omega) (by omega) (by omega) c1 c9 HFa.out)
      have D2 := Lib.hid (fun (W : World) (h' : Below w8.heap.size w8 W) => divided_F (((H2.out.past S8.out.bl).1).past h') (X10.out.bg.past h') (by omega) (by omega) (by omega) c3 c10 HFc.out)
      have D3 := Lib.hid (fun (W : World) (h' : Below w8.heap.size w8 W) => divided_F (((H1.out.past S8.out.bl).2).past h') (X10.out.bg.past h') (by omega) (by omega) (by omega) c2 c10 HFd.out)
      have D4 := Lib.hid (fun (W : World) (h' : Below w8.heap.size w8 W) => divided_F (((H2.out.past S8.out.bl).2).past h') (X9.out.bg.past h') (by omega) (by omega) (by omega) c4 c9 HFb.out)
      clear ka0 ka1 ka2 ka3 kb0 kb1 kb2 kb3 k80 k81 k90 k91
      have Bv0 := Lib.hid (Below.refl w8.heap.size w8).drew
      have Tv0 := Lib.hid (S8.out.call (Below.refl w8.heap.size w8).drew)
      refine wp_region_held_drew (S := fun w' => w'.cell? ⟨w.heap.size, 0, none⟩ = some (.int .i64 s1) ∧ w'.cell? ⟨w.heap.size, 1, none⟩ = some (.slice A1 n1 c1) ∧ w'.cell? ⟨w.heap.size, 2, none⟩ = some (.int .i64 s2) ∧ w'.cell? ⟨w.heap.size, 3, none⟩ = some (.slice A2 n2 c2) ∧ w'.cell? ⟨w.heap.size + 1, 0, none⟩ = some (.int .i64 s3) ∧ w'.cell? ⟨w.heap.size + 1, 1, none⟩ = some (.slice A3 n3 c3) ∧ w'.cell? ⟨w.heap.size + 1, 2, none⟩ = some (.int .i64 s4) ∧ w'.cell? ⟨w.heap.size + 1, 3, none⟩ = some (.slice A4 n4 c4) ∧ w'.cell? ⟨b8, 0, none⟩ = some (.int .i64 s9) ∧ w'.cell? ⟨b8, 1, none⟩ = some (.slice A9 n9 c9) ∧ w'.cell? ⟨b9, 0, none⟩ = some (.int .i64 s10) ∧ w'.cell? ⟨b9, 1, none⟩ = some (.slice A10 n10 c10)) (by kernel_rfl) (HC.out _ Bv0.out) (fun hHeld => ?_)
      obtain ⟨vw0, hw⟩ : ∃ W, W = w8.drew := ⟨_, rfl⟩
      rw [← hw] at hHeld Bv0 Tv0 ⊢
      clear hw
      refine take_at (i := 0) (v := ?vv1) rfl (by kernel_rfl) (by kernel_rfl) (by kernel_rfl) (fun _ _ _ h => h) (Or.inl ⟨by rfl, ?vy1⟩) (by assumption) ?vr1
      case vy1 => (intro w hSw; (try dsimp only at hSw); go_simp; (try with_reducible rfl))
      simp only [Act.put, uA, uB, uC]
      refine take_at (i := 1) (v := ?vv2) rfl (by kernel_rfl) (by kernel_rfl) (by kernel_rfl) (fun _ _ _ h => h) (Or.inl ⟨by rfl, ?vy2⟩) (by assumption) ?vr2
      case vy2 => (intro w hSw; (try dsimp only at hSw); obtain ⟨cc0, cc1, cc2, cc3, cc4, cc5, cc6, cc7, cc8, cc9, cc10, cc11⟩ := hSw; go_simp; (try with_reducible rfl))
      simp only [Act.put, uA, uB, uC]
      refine take_at (i := 2) (v := ?vv3) rfl (by kernel_rfl) (by kernel_rfl) (by kernel_rfl) (fun _ _ _ h => h) (Or.inl ⟨by rfl, ?vy3⟩) (by assumption) ?vr3
      case vy3 => (intro w hSw; (try dsimp only at hSw); obtain ⟨cc0, cc1, cc2, cc3, cc4, cc5, cc6, cc7, cc8, cc9, cc10, cc11⟩ := hSw; go_simp; (try with_reducible rfl))
      simp only [Act.put, uA, uB, uC]
      refine take_at (i := 4) (v := ?vv4) rfl (by kernel_rfl) (by kernel_rfl) (by kernel_rfl) (fun _ _ _ h => h) (Or.inl ⟨by rfl, ?vy4⟩) (by assumption) ?vr4
      case vy4 => (intro w hSw; (try dsimp only at hSw); go_simp; (try with_reducible rfl))
      simp only [Act.put, uA, uB, uC]
      refine take_at (i := 5) (v := ?vv5) rfl (by kernel_rfl) (by kernel_rfl) (by kernel_rfl) (fun _ _ _ h => h) (Or.inl ⟨by rfl, ?vy5⟩) (by assumption) ?vr5
      case vy5 => (intro w hSw; (try dsimp only at hSw); obtain ⟨cc0, cc1, cc2, cc3, cc4, cc5, cc6, cc7, cc8, cc9, cc10, cc11⟩ := hSw; go_simp; (try with_reducible rfl))
      simp only [Act.put, uA, uB, uC]
      refine take_at (i := 6) (v := ?vv6) rfl (by kernel_rfl) (by kernel_rfl) (by kernel_rfl) (fun _ _ _ h => h) (Or.inl ⟨by rfl, ?vy6⟩) (by assumption) ?vr6
      case vy6 => (intro w hSw; (try dsimp only at hSw); obtain ⟨cc0, cc1, cc2, cc3, cc4, cc5, cc6, cc7, cc8, cc9, cc10, cc11⟩ := hSw; go_simp; (try with_reducible rfl))
      simp only [Act.put, uA, uB, uC]
      refine take_at (i := 9) (v := ?vv7) rfl (by kernel_rfl) (by kernel_rfl) (by kernel_rfl) (fun _ _ _ h => h) (Or.inl ⟨by rfl, ?vy7⟩) (by assumption) ?vr7
      case vy7 => (intro w hSw; (try dsimp only at hSw); go_simp; (try with_reducible rfl))
      simp only [Act.put, uA, uB, uC]
      refine take_at (i := 10) (v := ?vv8) rfl (by kernel_rfl) (by kernel_rfl) (by kernel_rfl) (fun _ _ _ h => h) (Or.inl ⟨by rfl, ?vy8⟩) (by assumption) ?vr8
      case vy8 => (intro w hSw; (try dsimp only at hSw); obtain ⟨cc0, cc1, cc2, cc3, cc4, cc5, cc6, cc7, cc8, cc9, cc10, cc11⟩ := hSw; go_simp; (try with_reducible rfl))
      simp only [Act.put, uA, uB, uC]
      refine take_at (i := 11) (v := ?vv9) rfl (by kernel_rfl) (by kernel_rfl) (by kernel_rfl) (fun _ _ _ h => h) (Or.inl ⟨by rfl, ?vy9⟩) (by assumption) ?vr9
      case vy9 => (intro w hSw; (try dsimp only at hSw); obtain ⟨cc0, cc1, cc2, cc3, cc4, cc5, cc6, cc7, cc8, cc9, cc10, cc11⟩ := hSw; go_simp; (try with_reducible rfl))
      simp only [Act.put, uA, uB, uC]
      refine take_at (i := 13) (v := ?vv10) rfl (by kernel_rfl) (by kernel_rfl) (by kernel_rfl) (fun _ _ _ h => h) (Or.inl ⟨by rfl, ?vy10⟩) (by assumption) ?vr10
      case vy10 => (intro w hSw; (try dsimp only at hSw); go_simp; (try with_reducible rfl))
      simp only [Act.put, uA, uB, uC]
      refine take_at (i := 14) (v := ?vv11) rfl (by kernel_rfl) (by kernel_rfl) (by kernel_rfl) (fun _ _ _ h => h) (Or.inl ⟨by rfl, ?vy11⟩) (by assumption) ?vr11
      case vy11 => (intro w hSw; (try dsimp only at hSw); obtain ⟨cc0, cc1, cc2, cc3, cc4, cc5, cc6, cc7, cc8, cc9, cc10, cc11⟩ := hSw; go_simp; (try with_reducible rfl))
      simp only [Act.put, uA, uB, uC]
      refine take_at (i := 15) (v := ?vv12) rfl (by kernel_rfl) (by kernel_rfl) (by kernel_rfl) (fun _ _ _ h => h) (Or.inl ⟨by rfl, ?vy12⟩) (by assumption) ?vr12
      case vy12 => (intro w hSw; (try dsimp only at hSw); obtain ⟨cc0, cc1, cc2, cc3, cc4, cc5, cc6, cc7, cc8, cc9, cc10, cc11⟩ := hSw; go_simp; (try with_reducible rfl))
      simp only [Act.put, uA, uB, uC]
      refine wpAnyH_ready (rs := [3]) (by kernel_rfl) (by simp) ?_
      refine cons_at (i := 3) rfl (fun K hK => ?_) AllReadyH.nil
      go_simp
      refine (D1.out _ Bv0.out).mono ?_
      rintro e vw13 ⟨st1, At1, nt1, ct1, rfl, hc, hg, hf, hb⟩
      try dsimp only
      have X13 := Lib.hid hb
      have Gv3_13 := Lib.hid hg
      have HCv3 := Lib.hid hc
      have FRv3 : Hid (Fresh w8 At1 nt1) := fun hp ad e => Nat.le_trans Bv0.out.size (hf hp ad e)
      have Bv14 := Lib.hid (Bv0.out.trans (X13.out.mono Bv0.out.size))
      have Tv14 := Lib.hid (Tv0.out.call X13.out)
      refine hK.out _ _ ?_ (fun hHeld => ?_)
      · exact HC.out _ Bv14.out
      clear Bv0 Tv0 X13 hc hg hf hb
      clear hK K
      (try simp only [Act.put, uA, uB, uC])
      refine wpAnyH_ready (rs := [7]) (by kernel_rfl) (by simp) ?_
      refine cons_at (i := 7) rfl (fun K hK => ?_) AllReadyH.nil
      go_simp
      refine (D2.out _ Bv14.out).mono ?_
      rintro e vw15 ⟨st2, At2, nt2, ct2, rfl, hc, hg, hf, hb⟩
      try dsimp only
      have X15 := Lib.hid hb
      have Gv7_15 := Lib.hid hg
      have HCv7 := Lib.hid hc
      have FRv7 : Hid (Fresh w8 At2 nt2) := fun hp ad e => Nat.le_trans Bv14.out.size (hf hp ad e)
      have Bv16 := Lib.hid (Bv14.out.trans (X15.out.mono Bv14.out.size))
      have Gv3_16 := Lib.hid (Gv3_13.out.past X15.out)
      have Tv16 := Lib.hid (Tv14.out.call X15.out)
      refine hK.out _ _ ?_ (fun hHeld => ?_)
      · exact HC.out _ Bv16.out
      clear Bv14 Gv3_13 Tv14 X15 hc hg hf hb
      clear hK K
      (try simp only [Act.put, uA, uB, uC])
      refine wpAnyH_ready (rs := [8]) (by kernel_rfl) (by simp) ?_
      refine cons_at (i := 8) rfl (fun K hK => ?_) AllReadyH.nil
      go_simp
      refine (times_F Gv3_16.out Gv7_15.out (by omega) (by omega) ct1 ct2).mono ?_
      rintro e vw17 ⟨sp, Ap, np, cp, rfl, hc, hg, hf, hb⟩
      try dsimp only
      have X17 := Lib.hid hb
      have Gv8_17 := Lib.hid hg
      have HCv8 := Lib.hid hc
      have FRv8 : Hid (Fresh w8 Ap np) := fun hp ad e => Nat.le_trans Bv16.out.size (hf hp ad e)
      have Bv18 := Lib.hid (Bv16.out.trans (X17.out.mono Bv16.out.size))
      have Gv3_18 := Lib.hid (Gv3_16.out.past X17.out)
      have Gv7_18 := Lib.hid (Gv7_15.out.past X17.out)
      have Tv18 := Lib.hid (Tv16.out.call X17.out)
      refine hK.out _ _ ?_ (fun hHeld => ?_)
      · exact HC.out _ Bv18.out
      clear Bv16 Gv3_16 Gv7_15 Tv16 X17 hc hg hf hb
      clear hK K
      (try simp only [Act.put, uA, uB, uC])
      refine wpAnyH_ready (rs := [12]) (by kernel_rfl) (by simp) ?_
      refine cons_at (i := 12) rfl (fun K hK => ?_) AllReadyH.nil
      go_simp
      refine (D3.out _ Bv18.out).mono ?_
      rintro e vw19 ⟨st3, At3, nt3, ct3, rfl, hc, hg, hf, hb⟩
      try dsimp only
      have X19 := Lib.hid hb
      have Gv12_19 := Lib.hid hg
      have HCv12 := Lib.hid hc
      have FRv12 : Hid (Fresh w8 At3 nt3) := fun hp ad e => Nat.le_trans Bv18.out.size (hf hp ad e)
      have Bv20 := Lib.hid (Bv18.out.trans (X19.out.mono Bv18.out.size))
      have Gv3_20 := Lib.hid (Gv3_18.out.past X19.out)
      have Gv7_20 := Lib.hid (Gv7_18.out.past X19.out)
      have Gv8_20 := Lib.hid (Gv8_17.out.past X19.out)
      have Tv20 := Lib.hid (Tv18.out.call X19.out)
      refine hK.out _ _ ?_ (fun hHeld => ?_)
      · exact HC.out _ Bv20.out
      clear Bv18 Gv3_18 Gv7_18 Gv8_17 Tv18 X19 hc hg hf hb
      clear hK K
      (try simp only [Act.put, uA, uB, uC])
      refine wpAnyH_ready (rs := [16]) (by kernel_rfl) (by simp) ?_
      refine cons_at (i := 16) rfl (fun K hK => ?_) AllReadyH.nil
      go_simp
      refine (D4.out _ Bv20.out).mono ?_
      rintro e vw21 ⟨st4, At4, nt4, ct4, rfl, hc, hg, hf, hb⟩
      try dsimp only
      have X21 := Lib.hid hb
      have Gv16_21 := Lib.hid hg
      have HCv16 := Lib.hid hc
      have FRv16 : Hid (Fresh w8 At4 nt4) := fun hp ad e => Nat.le_trans Bv20.out.size (hf hp ad e)
      have Bv22 := Lib.hid (Bv20.out.trans (X21.out.mono Bv20.out.size))
      have Gv3_22 := Lib.hid (Gv3_20.out.past X21.out)
      have Gv7_22 := Lib.hid (Gv7_20.out.past X21.out)
      have Gv8_22 := Lib.hid (Gv8_20.out.past X21.out)
      have Gv12_22 := Lib.hid (Gv12_19.out.past X21.out)
      have Tv22 := Lib.hid (Tv20.out.call X21.out)
      refine hK.out _ _ ?_ (fun hHeld => ?_)
      · exact HC.out _ Bv22.out
      clear Bv20 Gv3_20 Gv7_20 Gv8_20 Gv12_19 Tv20 X21 hc hg hf hb
      clear hK K
      (try simp only [Act.put, uA, uB, uC])
      refine wpAnyH_ready (rs := [17]) (by kernel_rfl) (by simp) ?_
      refine cons_at (i := 17) rfl (fun K hK => ?_) AllReadyH.nil
      go_simp
      refine (times_F Gv12_22.out Gv16_21.out (by omega) (by omega) ct3 ct4).mono ?_
      rintro e vw23 ⟨sq, Aq, nq, cq, rfl, hc, hg, hf, hb⟩
      try dsimp only
      have X23 := Lib.hid hb
      have Gv17_23 := Lib.hid hg
      have HCv17 := Lib.hid hc
      have FRv17 : Hid (Fresh w8 Aq nq) := fun hp ad e => Nat.le_trans Bv22.out.size (hf hp ad e)
      have Bv24 := Lib.hid (Bv22.out.trans (X23.out.mono Bv22.out.size))
      have Gv3_24 := Lib.hid (Gv3_22.out.past X23.out)
      have Gv7_24 := Lib.hid (Gv7_22.out.past X23.out)
      have Gv8_24 := Lib.hid (Gv8_22.out.past X23.out)
      have Gv12_24 := Lib.hid (Gv12_22.out.past X23.out)
      have Gv16_24 := Lib.hid (Gv16_21.out.past X23.out)
      have Tv24 := Lib.hid (Tv22.out.call X23.out)
      refine hK.out _ _ ?_ (fun hHeld => ?_)
      · exact HC.out _ Bv24.out
      clear Bv22 Gv3_22 Gv7_22 Gv8_22 Gv12_22 Gv16_21 Tv22 X23 hc hg hf hb
      clear hK K
      (try simp only [Act.put, uA, uB, uC])
      refine take_at (i := 18) (v := ?vv25) rfl (by kernel_rfl) (by kernel_rfl) (by kernel_rfl) (fun _ _ _ h => h) (Or.inl ⟨by rfl, ?vy25⟩) (by assumption) ?vr25
      case vy25 => (intro w hSw; (try dsimp only at hSw); go_simp; (try with_reducible rfl))
      simp only [Act.put, uA, uB, uC]
      refine wpAnyH_ready (rs := [19]) (by kernel_rfl) (by simp) ?_
      refine cons_at (i := 19) rfl (fun K hK => ?_) AllReadyH.nil
      obtain ⟨f0, f1, f2, f3, f4, f5, f6, f7⟩ := fr_cells Tv24.out.k3
      go_simp
      clear f0 f1 f2 f3 f4 f5 f6 f7
      obtain ⟨wf, hwf, r0, r1, r2, r3, kE⟩ := fr_end Tv24.out.k3 (by omega) hS8.out Tv24.out.bl ((by have := Gv8_24.out; rw [← HL.out.num] at this; exact this.as HS.out.1 : Bg _ _ (x * y).num _ _ _)) ((by have := Gv17_23.out; rw [← HL.out.den] at this; exact this.as HS.out.2 : Bg _ _ ((x * y).den : Int) _ _ _)) FRv8.out FRv17.out HCv8.out HCv17.out (Low.self _)
      have HE := Lib.hid kE
      clear kE
      refine hK.out _ _ ?_ (fun hHeld => ?_)
      · obtain ⟨cc0, cc1, cc2, cc3, cc4, cc5, cc6, cc7, cc8, cc9, cc10, cc11⟩ := HC.out _ Bv24.out
        exact ⟨stc4 cc0 (by dsimp only; omega), stc4 cc1 (by dsimp only; omega), stc4 cc2 (by dsimp only; omega), stc4 cc3 (by dsimp only; omega), stc4 cc4 (by dsimp only; omega), stc4 cc5 (by dsimp only; omega), stc4 cc6 (by dsimp only; omega), stc4 cc7 (by dsimp only; omega), stc4 cc8 (by dsimp only; omega), stc4 cc9 (by dsimp only; omega), stc4 cc10 (by dsimp only; omega), stc4 cc11 (by dsimp only; omega)⟩
      clear hK K
      (try simp only [Act.put, uA, uB, uC])
      refine wpAnyH_done (by kernel_rfl) ?_ _
      go_wp2_with fail
      rw [← hwf]
      clear hwf
      exact bodyPost_ret (v := .agg #[.int .i64 sp, .slice Ap np cp, .int .i64 sq, .slice Aq nq cq]) (by simp [results, Tryz.results153, go_sem, r0, r1, r2, r3]) rfl HE.out
end
end Go.Proofs.YtikfjmdeeknalaaGreatDoor
