/- The walk of frac's sum at right fractions. Conditions: sizes; the table of math/bits as its text lays it. -/
import Derived.Test.YtikfjmdeeknalaaGreatDoorQC
import Derived.Deep.DeepCutAuto
namespace Go.Proofs.YtikfjmdeeknalaaGreatDoor
set_option maxRecDepth 20000
open Go.RowKit

section
variable {w : World} {k : Nat} {x y : Rat}
set_option maxHeartbeats 16000000 in
theorem sum_F (r r2 : FrR) (h1 : Fg w k x r) (h2 : Fg w k y r2) (hT : TabZ w) (hk : k ≤ 100000) :
    Calls Tryz.prog 151 #[frV r, frV r2] w (FrEnd w (k + k + 1) (x + y)) := by
  have S := Lib.hid (TriF.new w r r2)
  have C := Lib.hid (smallPair_any r r2 (h1.past S.out.bl) (h2.past S.out.bl) (by omega) (by omega))
  have HS := Lib.hid (sum_sz h1.sz.1 h1.sz.2 h2.sz.1 h2.sz.2)
  have H1 := Lib.hid h1
  have H2 := Lib.hid h2
  have HT := Lib.hid hT
  obtain ⟨g, hg⟩ : ∃ g : Int, ((Int.gcd (x.den : Int) (y.den : Int) : Nat) : Int) = g := ⟨_, rfl⟩
  have hg0 : 0 < g := by
    have : 0 < Int.gcd (x.den : Int) (y.den : Int) := Int.gcd_pos_of_ne_zero_right _ (by have := y.den_pos; omega)
    omega
  have HGG := Lib.hid hg
  have HZG : Hid (Sz k g) := by show Sz _ _; rw [← hg]; exact gcd_sz h1.sz.2 h2.sz.2
  obtain ⟨hq, hs, hcop⟩ := gcd_parts hg hg0
  obtain ⟨q, hqq⟩ : ∃ q : Int, q = (x.den : Int) / g := ⟨_, rfl⟩
  obtain ⟨s, hss⟩ : ∃ s : Int, s = (y.den : Int) / g := ⟨_, rfl⟩
  rw [← hqq] at hq hcop
  rw [← hss] at hs hcop
  have HFq := Lib.hid (floor_exact hg0 hq)
  have HFs := Lib.hid (floor_exact hg0 hs)
  obtain ⟨P, hP⟩ : ∃ P : Int, P = x.num * s + y.num * q := ⟨_, rfl⟩
  obtain ⟨h, hh⟩ : ∃ h : Int, ((Int.gcd P g : Nat) : Int) = h := ⟨_, rfl⟩
  have hh0 : 0 < h := by
    have : 0 < Int.gcd P g := Int.gcd_pos_of_ne_zero_right _ (by omega)
    omega
  have HHH := Lib.hid hh
  have HP := Lib.hid hP
  obtain ⟨hP1, hg1, hcop2⟩ := gcd_parts hh hh0
  obtain ⟨P', hPP⟩ : ∃ P' : Int, P' = P / h := ⟨_, rfl⟩
  obtain ⟨g', hgg⟩ : ∃ g' : Int, g' = g / h := ⟨_, rfl⟩
  rw [← hPP] at hP1 hcop2
  rw [← hgg] at hg1 hcop2
  have HFP := Lib.hid (floor_exact hh0 hP1)
  have HFg := Lib.hid (floor_exact (x := (y.den : Int)) (z := g' * s) hh0 (by rw [hs]; generalize s = s'; rw [hg1]; rw [Int.mul_assoc]))
  have HL := Lib.hid (sum_low (Low.self x) (Low.self y) hg0 hq hs hcop hP hh0 hP1 hg1 hcop2)
  clear h1 h2 hT hg hq hs hcop hqq hss hP hh hP1 hg1 hcop2 hPP hgg
  obtain ⟨W0, hW0⟩ : ∃ W0, W0 = (((w.alloc (.cells (frC r) 43)).alloc (.cells (frC r2) 43)).alloc (.cells #[.int .i64 0, .slice none 0 0, .int .i64 0, .slice none 0 0] 43)) := ⟨_, rfl⟩
  rw [← hW0] at S C
  obtain ⟨s1, A1, n1, c1, s2, A2, n2, c2⟩ := r
  obtain ⟨s3, A3, n3, c3, s4, A4, n4, c4⟩ := r2
  dsimp only [frV, frC] at *
  obtain ⟨⟨ka0, ka1, ka2, ka3⟩, kb0, kb1, kb2, kb3⟩ := S.out.cells
  dsimp only at ka0 ka1 ka2 ka3 kb0 kb1 kb2 kb3
  go_enter Tryz.func151, Tryz.ntmps151
  go_wp2_with fail
  rw [← hW0]
  clear hW0
  go_wp2_with fail
  refine C.out.mono ?_
  rintro e w1 ⟨a, b, c, d, fit, rfl, hfit, hb⟩
  have S1 := Lib.hid (S.out.call hb)
  have HF := Lib.hid hfit
  clear ka0 ka1 ka2 ka3 kb0 kb1 kb2 kb3 S C hb hfit
  cases fit
  case true =>
    obtain ⟨e1, e2, e3, e4, hbit, ra, rb, rc, rd⟩ := HF.out rfl
    obtain ⟨q1, q2⟩ := bitsP_lt ra rb
    obtain ⟨q3, q4⟩ := bitsP_lt rc rd
    obtain ⟨m0, m1⟩ := mul_bits q1 q4 (by omega)
    obtain ⟨n0, n1⟩ := mul_bits q3 q2 (by omega)
    obtain ⟨l0, l1⟩ := mul_bits q2 q4 (by omega)
    have HE : Hid ((x + y).num * (b * d) = (a * d + c * b) * ((x + y).den : Int)) := by show _ = _; rw [e1, e2, e3, e4]; exact sum_ratio (Low.self x) (Low.self y)
    have hpos : 0 < b * d := by rw [e2, e4]; exact Int.mul_pos (by have := x.den_pos; omega) (by have := y.den_pos; omega)
    have SH := Lib.hid (fun w => shortened_any (a * d + c * b) (b * d) (x + y) w (by omega) (by omega) hpos (by omega) HE.out)
    clear e1 e2 e3 e4 hbit ra rb rc rd q1 q2 q3 q4 hpos HF HE
    have S2 := Lib.hid (S1.out.call (bal (bal (Below.refl w1.heap.size w1) (o := .cells #[.int .i64 a, .int .i64 b] 135)) (o := .cells #[.int .i64 c, .int .i64 d] 135)))
    have wr0 : IntKind.i64.wrap (a * d) = a * d := IntWalk.i64_in _ (by omega)
    have wr1 : IntKind.i64.wrap (c * b) = c * b := IntWalk.i64_in _ (by omega)
    have wr2 : IntKind.i64.wrap (a * d + c * b) = a * d + c * b := IntWalk.i64_in _ (by omega)
    have wr3 : IntKind.i64.wrap (b * d) = b * d := IntWalk.i64_in _ (by omega)
    clear m0 m1 n0 n1 l0 l1
    go_wp2_with fail
    refine (SH.out _).mono ?_
    rintro e w2 ⟨⟨s5, A5, n5, c5, s6, A6, n6, c6⟩, rfl, hc1, hc2, hf, f1, f2, hb⟩
    have S3 := Lib.hid (S2.out.call hb)
    obtain ⟨kr0, kr1, kr2, kr3, q0, q1, q2, q3⟩ := fr_cells S3.out.k3
    obtain ⟨wf, hwf, r0, r1, r2, r3, kE⟩ := fr_end S3.out.k3 (by omega) S2.out.k3.lt S3.out.bl (hf.1.as HS.out.1) (hf.2.as HS.out.2) f1 f2 hc1 hc2 (Low.self _)
    have HE := Lib.hid kE
    clear kE hc1 hc2 hf f1 f2 hb SH
    dsimp only [frV]
    go_wp2_with fail
    rw [← hwf]
    clear hwf
    exact bodyPost_ret (v := .agg #[.int .i64 s5, .slice A5 n5 c5, .int .i64 s6, .slice A6 n6 c6]) (by simp [results, Tryz.results151, go_sem, r0, r1, r2, r3]) rfl HE.out
  case false =>
    clear HF
    obtain ⟨⟨ka0, ka1, ka2, ka3⟩, kb0, kb1, kb2, kb3⟩ := S1.out.cells
    dsimp only at ka0 ka1 ka2 ka3 kb0 kb1 kb2 kb3
    have hz1 : w.heap.size + 1 < w1.heap.size := S1.out.k2.lt
    have hz2 : w.heap.size + 1 < w1.heap.size + 1 := by omega
    have hz3 : w.heap.size < w1.heap.size := by omega
    have hz4 : w.heap.size < w1.heap.size + 1 := by omega
    go_wp2_with fail
    have G2 := Lib.hid ((H1.out.past S1.out.bl).2)
    have G4 := Lib.hid ((H2.out.past S1.out.bl).2)
    refine (common_F (G2.out.al.al) (G4.out.al.al) (HT.out.on (bal (bal S1.out.bl))) (by omega) (by omega) c2 c4 k g HGG.out HZG.out).mono ?_
    rintro e w2 ⟨sg, Ag, ng, cg, rfl, hcg, hgg, hfg, hb⟩
    have S2 := Lib.hid ((S1.out.call (bal (bal (Below.refl w1.heap.size w1)))).call hb)
    clear ka0 ka1 ka2 ka3 kb0 kb1 kb2 kb3 hz1 hz2 hz3 hz4 S1 G2 G4 hcg hfg hb
    obtain ⟨w3, hw3⟩ : ∃ w3, w3 = w2.alloc (.cells #[.int .i64 sg, .slice Ag ng cg] 24) := ⟨_, rfl⟩
    obtain ⟨b8, hb8⟩ : ∃ b, b = w2.heap.size := ⟨_, rfl⟩
    have S3 := Lib.hid (S2.out.call (bal (Below.refl w2.heap.size w2) (o := .cells #[.int .i64 sg, .slice Ag ng cg] 24)))
    rw [← hw3] at S3
    have K8 : Hid (Blk w3 b8 24 #[.int .i64 sg, .slice Ag ng cg]) := by show Blk _ _ _ _; rw [hw3, hb8]; exact Blk.new _ _ _
    have GG : Hid (Bg w3 k g sg Ag ng) := by show Bg _ _ _ _ _ _; rw [hw3]; exact hgg.al
    have hlo8 : w.heap.size + 1 + 1 < b8 := by rw [hb8]; exact S2.out.k3.lt
    clear hgg S2
    go_upto_region 5 with (fail)
    rw [← hw3, ← hb8]
    clear hw3 hb8
    obtain ⟨⟨ka0, ka1, ka2, ka3⟩, kb0, kb1, kb2, kb3⟩ := S3.out.cells
    obtain ⟨k80, k81, -, -⟩ := sm_cells K8.out
    dsimp only at ka0 ka1 ka2 ka3 kb0 kb1 kb2 kb3
    go_cut [9, 10] (fun p9 p10 wc => ∃ b9 b10, p9 = .pointer (some ⟨b9, 0, none⟩) ∧ p10 = .pointer (some ⟨b10, 0, none⟩) ∧ Hid (TwoR w3 wc b9 b10 k k q s))
    case first =>
      have HC := Lib.hid (fun (w' : World) (h : Below w3.heap.size w3 w') => (⟨(h.cell (p := ⟨w.heap.size, 2, none⟩) (World.block_lt_of_cell? _ _ ka2)).trans ka2, (h.cell (p := ⟨w.heap.size, 3, none⟩) (World.block_lt_of_cell? _ _ ka3)).trans ka3, (h.cell (p := ⟨w.heap.size + 1, 2, none⟩) (World.block_lt_of_cell? _ _ kb2)).trans kb2, (h.cell (p := ⟨w.heap.size + 1, 3, none⟩) (World.block_lt_of_cell? _ _ kb3)).trans kb3, (h.cell (p := ⟨b8, 0, none⟩) (World.block_lt_of_cell? _ _ k80)).trans k80, (h.cell (p := ⟨b8, 1, none⟩) (World.block_lt_of_cell? _ _ k81)).trans k81⟩ : w'.cell? ⟨w.heap.size, 2, none⟩ = some (.int .i64 s2) ∧ w'.cell? ⟨w.heap.size, 3, none⟩ = some (.slice A2 n2 c2) ∧ w'.cell? ⟨w.heap.size + 1, 2, none⟩ = some (.int .i64 s4) ∧ w'.cell? ⟨w.heap.size + 1, 3, none⟩ = some (.slice A4 n4 c4) ∧ w'.cell? ⟨b8, 0, none⟩ = some (.int .i64 sg) ∧ w'.cell? ⟨b8, 1, none⟩ = some (.slice Ag ng cg)))
      have D1 := Lib.hid (fun (W : World) (h : Below w3.heap.size w3 W) => divided_F (((H1.out.past S3.out.bl).2).past h) (GG.out.past h) (by omega) (by omega) (by omega) c2 cg HFq.out)
      have D2 := Lib.hid (fun (W : World) (h : Below w3.heap.size w3 W) => divided_F (((H2.out.past S3.out.bl).2).past h) (GG.out.past h) (by omega) (by omega) (by omega) c4 cg HFs.out)
      clear ka0 ka1 ka2 ka3 kb0 kb1 kb2 kb3 k80 k81
      have Bq0 := Lib.hid (Below.refl w3.heap.size w3).drew
      refine wp_region_held_drew (S := fun w' => Below w3.heap.size w3 w') (by kernel_rfl) Bq0.out (fun hHeld => ?_)
      obtain ⟨qw0, hw⟩ : ∃ W, W = w3.drew := ⟨_, rfl⟩
      rw [← hw] at hHeld Bq0 ⊢
      clear hw
      refine take_at (i := 0) (v := ?qv1) rfl (by kernel_rfl) (by kernel_rfl) (by kernel_rfl) (fun _ _ _ h => h) (Or.inl ⟨by rfl, ?qy1⟩) (by assumption) ?qr1
      case qy1 => (intro w hSw; (try dsimp only at hSw); go_simp; (try with_reducible rfl))
      simp only [Act.put, uA, uB, uC]
      refine take_at (i := 1) (v := ?qv2) rfl (by kernel_rfl) (by kernel_rfl) (by kernel_rfl) (fun _ _ _ h => h) (Or.inl ⟨by rfl, ?qy2⟩) (by assumption) ?qr2
      case qy2 => (intro w hSw; (try dsimp only at hSw); obtain ⟨cc0, cc1, cc2, cc3, cc4, cc5⟩ := HC.out _ hSw; go_simp; (try with_reducible rfl))
      simp only [Act.put, uA, uB, uC]
      refine take_at (i := 2) (v := ?qv3) rfl (by kernel_rfl) (by kernel_rfl) (by kernel_rfl) (fun _ _ _ h => h) (Or.inl ⟨by rfl, ?qy3⟩) (by assumption) ?qr3
      case qy3 => (intro w hSw; (try dsimp only at hSw); obtain ⟨cc0, cc1, cc2, cc3, cc4, cc5⟩ := HC.out _ hSw; go_simp; (try with_reducible rfl))
      simp only [Act.put, uA, uB, uC]
      refine take_at (i := 4) (v := ?qv4) rfl (by kernel_rfl) (by kernel_rfl) (by kernel_rfl) (fun _ _ _ h => h) (Or.inl ⟨by rfl, ?qy4⟩) (by assumption) ?qr4
      case qy4 => (intro w hSw; (try dsimp only at hSw); go_simp; (try with_reducible rfl))
      simp only [Act.put, uA, uB, uC]
      refine take_at (i := 5) (v := ?qv5) rfl (by kernel_rfl) (by kernel_rfl) (by kernel_rfl) (fun _ _ _ h => h) (Or.inl ⟨by rfl, ?qy5⟩) (by assumption) ?qr5
      case qy5 => (intro w hSw; (try dsimp only at hSw); obtain ⟨cc0, cc1, cc2, cc3, cc4, cc5⟩ := HC.out _ hSw; go_simp; (try with_reducible rfl))
      simp only [Act.put, uA, uB, uC]
      refine take_at (i := 6) (v := ?qv6) rfl (by kernel_rfl) (by kernel_rfl) (by kernel_rfl) (fun _ _ _ h => h) (Or.inl ⟨by rfl, ?qy6⟩) (by assumption) ?qr6
      case qy6 => (intro w hSw; (try dsimp only at hSw); obtain ⟨cc0, cc1, cc2, cc3, cc4, cc5⟩ := HC.out _ hSw; go_simp; (try with_reducible rfl))
      simp only [Act.put, uA, uB, uC]
      refine wpAnyH_ready (rs := [3, 8, 9]) (by kernel_rfl) (by simp) ?_
      refine cons_at (i := 3) rfl (fun K hK => ?_) ?_
      go_simp
      refine (D1.out _ Bq0.out).mono ?_
      rintro e qw7 ⟨s7, A7, n7, c7, rfl, hc, hg, hf, hb⟩
      try dsimp only
      have X7 := Lib.hid hb
      have Gq3_7 := Lib.hid hg
      have HCq3 := Lib.hid hc
      have FRq3 : Hid (Fresh w3 A7 n7) := fun hp ad e => Nat.le_trans Bq0.out.size (hf hp ad e)
      have Bq8 := Lib.hid (Bq0.out.trans (X7.out.mono Bq0.out.size))
      refine hK.out _ _ ?_ (fun hHeld => ?_)
      · exact Bq8.out
      clear Bq0 X7 hc hg hf hb
      clear hK K
      (try simp only [Act.put, uA, uB, uC])
      refine wpAnyH_ready (rs := [7, 8, 9]) (by kernel_rfl) (by simp) ?_
      refine cons_at (i := 7) rfl (fun K hK => ?_) ?_
      go_simp
      refine (D2.out _ Bq8.out).mono ?_
      rintro e qw9 ⟨s8, A8, n8, c8, rfl, hc, hg, hf, hb⟩
      try dsimp only
      have X9 := Lib.hid hb
      have Gq7_9 := Lib.hid hg
      have HCq7 := Lib.hid hc
      have FRq7 : Hid (Fresh w3 A8 n8) := fun hp ad e => Nat.le_trans Bq8.out.size (hf hp ad e)
      have Bq10 := Lib.hid (Bq8.out.trans (X9.out.mono Bq8.out.size))
      have Gq3_10 := Lib.hid (Gq3_7.out.past X9.out)
      refine hK.out _ _ ?_ (fun hHeld => ?_)
      · exact Bq10.out
      clear Bq8 Gq3_7 X9 hc hg hf hb
      clear hK K
      (try simp only [Act.put, uA, uB, uC])
      refine wpAnyH_ready (rs := [8, 9]) (by kernel_rfl) (by simp) ?_
      refine cons_at (i := 8) rfl (fun K hK => ?_) ?_
      go_simp
      obtain ⟨qw11, hw⟩ : ∃ W', W' = qw9.alloc (.cells #[.int .i64 0, .slice none 0 0] 24) := ⟨_, rfl⟩
      obtain ⟨qb8_11, hb⟩ : ∃ b, b = qw9.heap.size := ⟨_, rfl⟩
      have X11 := Lib.hid (bal (Below.refl qw9.heap.size qw9) (o := .cells #[.int .i64 0, .slice none 0 0] 24))
      have Kqqb8_110 := Lib.hid (Blk.new qw9 24 #[.int .i64 0, .slice none 0 0])
      rw [← hw] at X11 Kqqb8_110
      rw [← hb] at Kqqb8_110
      rw [← hw, ← hb]
      have loqb8_11 : w3.heap.size ≤ qb8_11 := by rw [hb]; exact Bq10.out.size
      have ap3qb8_11 := Lib.hid (show 0 < n7 → ∀ ad, A7 = some ad → ad.block ≠ qb8_11 from fun hp ad e => by rw [hb]; exact Nat.ne_of_lt (Gq3_10.out.lt hp e))
      have ap7qb8_11 := Lib.hid (show 0 < n8 → ∀ ad, A8 = some ad → ad.block ≠ qb8_11 from fun hp ad e => by rw [hb]; exact Nat.ne_of_lt (Gq7_9.out.lt hp e))
      have Bq12 := Lib.hid (Bq10.out.trans (X11.out.mono Bq10.out.size))
      have Gq3_12 := Lib.hid (Gq3_10.out.past X11.out)
      have Gq7_12 := Lib.hid (Gq7_9.out.past X11.out)
      refine hK.out _ _ ?_ (fun hHeld => ?_)
      · exact Bq12.out
      clear Bq10 Gq3_10 Gq7_9 X11 hw hb
      clear hK K
      (try simp only [Act.put, uA, uB, uC])
      refine wpAnyH_ready (rs := [9]) (by kernel_rfl) (by simp) ?_
      refine cons_at (i := 9) rfl (fun K hK => ?_) AllReadyH.nil
      go_simp
      obtain ⟨qw13, hw⟩ : ∃ W', W' = qw11.alloc (.cells #[.int .i64 0, .slice none 0 0] 24) := ⟨_, rfl⟩
      obtain ⟨qb9_13, hb⟩ : ∃ b, b = qw11.heap.size := ⟨_, rfl⟩
      have X13 := Lib.hid (bal (Below.refl qw11.heap.size qw11) (o := .cells #[.int .i64 0, .slice none 0 0] 24))
      have Kqqb9_130 := Lib.hid (Blk.new qw11 24 #[.int .i64 0, .slice none 0 0])
      rw [← hw] at X13 Kqqb9_130
      rw [← hb] at Kqqb9_130
      rw [← hw, ← hb]
      have loqb9_13 : w3.heap.size ≤ qb9_13 := by rw [hb]; exact Bq12.out.size
      have neqb8_11qb9_13 : qb8_11 ≠ qb9_13 := by rw [hb]; exact Nat.ne_of_lt Kqqb8_110.out.lt
      have ap3qb9_13 := Lib.hid (show 0 < n7 → ∀ ad, A7 = some ad → ad.block ≠ qb9_13 from fun hp ad e => by rw [hb]; exact Nat.ne_of_lt (Gq3_12.out.lt hp e))
      have ap7qb9_13 := Lib.hid (show 0 < n8 → ∀ ad, A8 = some ad → ad.block ≠ qb9_13 from fun hp ad e => by rw [hb]; exact Nat.ne_of_lt (Gq7_12.out.lt hp e))
      have Bq14 := Lib.hid (Bq12.out.trans (X13.out.mono Bq12.out.size))
      have Kqqb8_1114 := Lib.hid (Kqqb8_110.out.below X13.out Kqqb8_110.out.lt)
      have Gq3_14 := Lib.hid (Gq3_12.out.past X13.out)
      have Gq7_14 := Lib.hid (Gq7_12.out.past X13.out)
      refine hK.out _ _ ?_ (fun hHeld => ?_)
      · exact Bq14.out
      clear Bq12 Kqqb8_110 Gq3_12 Gq7_12 X13 hw hb
      clear hK K
      (try simp only [Act.put, uA, uB, uC])
      refine wpAnyH_ready (rs := [10]) (by kernel_rfl) (by simp) ?_
      refine cons_at (i := 10) rfl (fun K hK => ?_) AllReadyH.nil
      obtain ⟨f0, f1, f2, f3⟩ := sm_cells Kqqb8_1114.out
      go_simp
      clear f0 f1 f2 f3
      obtain ⟨qw15, hw⟩ : ∃ W', W' = (qw13.setCell ⟨qb8_11, 0, none⟩ (.int .i64 s7)).setCell ⟨qb8_11, 1, none⟩ (.slice A7 n7 c7) := ⟨_, rfl⟩
      rw [← hw]
      have Bq15 := Lib.hid (below_2 Bq14.out loqb8_11 (u := .int .i64 s7) (v := .slice A7 n7 c7))
      rw [← hw] at Bq15
      have Kqqb8_11_15 := Lib.hid (Kqqb8_1114.out.set2 (a := .int .i64 s7) (b := .slice A7 n7 c7))
      rw [← hw] at Kqqb8_11_15
      have Kqqb9_13_15 := Lib.hid (Kqqb9_130.out.far2 (Ne.symm neqb8_11qb9_13) (a := .int .i64 s7) (b := .slice A7 n7 c7))
      rw [← hw] at Kqqb9_13_15
      have Gq3_15 := Lib.hid (Gq3_14.out.far2 ap3qb8_11.out (a := .int .i64 s7) (b := .slice A7 n7 c7))
      rw [← hw] at Gq3_15
      have Gq7_15 := Lib.hid (Gq7_14.out.far2 ap7qb8_11.out (a := .int .i64 s7) (b := .slice A7 n7 c7))
      rw [← hw] at Gq7_15
      refine hK.out _ _ ?_ (fun hHeld => ?_)
      · exact Bq15.out
      clear Bq14 Kqqb8_1114 Kqqb9_130 Gq3_14 Gq7_14 hw
      clear hK K
      (try simp only [Act.put, uA, uB, uC])
      refine wpAnyH_ready (rs := [11]) (by kernel_rfl) (by simp) ?_
      refine cons_at (i := 11) rfl (fun K hK => ?_) AllReadyH.nil
      obtain ⟨f0, f1, f2, f3⟩ := sm_cells Kqqb9_13_15.out
      go_simp
      clear f0 f1 f2 f3
      obtain ⟨qw16, hw⟩ : ∃ W', W' = (qw15.setCell ⟨qb9_13, 0, none⟩ (.int .i64 s8)).setCell ⟨qb9_13, 1, none⟩ (.slice A8 n8 c8) := ⟨_, rfl⟩
      rw [← hw]
      have Bq16 := Lib.hid (below_2 Bq15.out loqb9_13 (u := .int .i64 s8) (v := .slice A8 n8 c8))
      rw [← hw] at Bq16
      have Kqqb8_11_16 := Lib.hid (Kqqb8_11_15.out.far2 neqb8_11qb9_13 (a := .int .i64 s8) (b := .slice A8 n8 c8))
      rw [← hw] at Kqqb8_11_16
      have Kqqb9_13_16 := Lib.hid (Kqqb9_13_15.out.set2 (a := .int .i64 s8) (b := .slice A8 n8 c8))
      rw [← hw] at Kqqb9_13_16
      have Gq3_16 := Lib.hid (Gq3_15.out.far2 ap3qb9_13.out (a := .int .i64 s8) (b := .slice A8 n8 c8))
      rw [← hw] at Gq3_16
      have Gq7_16 := Lib.hid (Gq7_15.out.far2 ap7qb9_13.out (a := .int .i64 s8) (b := .slice A8 n8 c8))
      rw [← hw] at Gq7_16
      refine hK.out _ _ ?_ (fun hHeld => ?_)
      · exact Bq16.out
      clear Bq15 Kqqb8_11_15 Kqqb9_13_15 Gq3_15 Gq7_15 hw
      clear hK K
      (try simp only [Act.put, uA, uB, uC])
      refine wpAnyH_done (by kernel_rfl) ?_ _
      go_wp2_with fail
      go_meet
      exact ⟨qb8_11, qb9_13, rfl, rfl, (show TwoR _ _ _ _ _ _ _ _ from ⟨_, _, _, _, _, _, _, _, ⟨Kqqb8_11_16.out, loqb8_11, Gq3_16.out, HCq3.out, FRq3.out⟩, ⟨Kqqb9_13_16.out, loqb9_13, Gq7_16.out, HCq7.out, FRq7.out⟩, Bq16.out⟩)⟩
      refine cons_at (i := 9) rfl (fun K hK => ?_) AllReadyH.nil
      go_simp
      obtain ⟨qw17, hw⟩ : ∃ W', W' = qw9.alloc (.cells #[.int .i64 0, .slice none 0 0] 24) := ⟨_, rfl⟩
      obtain ⟨qb9_17, hb⟩ : ∃ b, b = qw9.heap.size := ⟨_, rfl⟩
      have X17 := Lib.hid (bal (Below.refl qw9.heap.size qw9) (o := .cells #[.int .i64 0, .slice none 0 0] 24))
      have Kqqb9_170 := Lib.hid (Blk.new qw9 24 #[.int .i64 0, .slice none 0 0])
      rw [← hw] at X17 Kqqb9_170
      rw [← hb] at Kqqb9_170
      rw [← hw, ← hb]
      have loqb9_17 : w3.heap.size ≤ qb9_17 := by rw [hb]; exact Bq10.out.size
      have ap3qb9_17 := Lib.hid (show 0 < n7 → ∀ ad, A7 = some ad → ad.block ≠ qb9_17 from fun hp ad e => by rw [hb]; exact Nat.ne_of_lt (Gq3_10.out.lt hp e))
      have ap7qb9_17 := Lib.hid (show 0 < n8 → ∀ ad, A8 = some ad → ad.block ≠ qb9_17 from fun hp ad e => by rw [hb]; exact Nat.ne_of_lt (Gq7_9.out.lt hp e))
      have Bq18 := Lib.hid (Bq10.out.trans (X17.out.mono Bq10.out.size))
      have Gq3_18 := Lib.hid (Gq3_10.out.past X17.out)
      have Gq7_18 := Lib.hid (Gq7_9.out.past X17.out)
      refine hK.out _ _ ?_ (fun hHeld => ?_)
      · exact Bq18.out
      clear Bq10 Gq3_10 Gq7_9 X17 hw hb
      clear hK K
      (try simp only [Act.put, uA, uB, uC])
      refine wpAnyH_ready (rs := [8]) (by kernel_rfl) (by simp) ?_
      refine cons_at (i := 8) rfl (fun K hK => ?_) AllReadyH.nil
      go_simp
      obtain ⟨qw19, hw⟩ : ∃ W', W' = qw17.alloc (.cells #[.int .i64 0, .slice none 0 0] 24) := ⟨_, rfl⟩
      obtain ⟨qb8_19, hb⟩ : ∃ b, b = qw17.heap.size := ⟨_, rfl⟩
      have X19 := Lib.hid (bal (Below.refl qw17.heap.size qw17) (o := .cells #[.int .i64 0, .slice none 0 0] 24))
      have Kqqb8_190 := Lib.hid (Blk.new qw17 24 #[.int .i64 0, .slice none 0 0])
      rw [← hw] at X19 Kqqb8_190
      rw [← hb] at Kqqb8_190
      rw [← hw, ← hb]
      have loqb8_19 : w3.heap.size ≤ qb8_19 := by rw [hb]; exact Bq18.out.size
      have neqb9_17qb8_19 : qb9_17 ≠ qb8_19 := by rw [hb]; exact Nat.ne_of_lt Kqqb9_170.out.lt
      have ap3qb8_19 := Lib.hid (show 0 < n7 → ∀ ad, A7 = some ad → ad.block ≠ qb8_19 from fun hp ad e => by rw [hb]; exact Nat.ne_of_lt (Gq3_18.out.lt hp e))
      have ap7qb8_19 := Lib.hid (show 0 < n8 → ∀ ad, A8 = some ad → ad.block ≠ qb8_19 from fun hp ad e => by rw [hb]; exact Nat.ne_of_lt (Gq7_18.out.lt hp e))
      have Bq20 := Lib.hid (Bq18.out.trans (X19.out.mono Bq18.out.size))
      have Kqqb9_1720 := Lib.hid (Kqqb9_170.out.below X19.out Kqqb9_170.out.lt)
      have Gq3_20 := Lib.hid (Gq3_18.out.past X19.out)
      have Gq7_20 := Lib.hid (Gq7_18.out.past X19.out)
      refine hK.out _ _ ?_ (fun hHeld => ?_)
      · exact Bq20.out
      clear Bq18 Kqqb9_170 Gq3_18 Gq7_18 X19 hw hb
      clear hK K
      (try simp only [Act.put, uA, uB, uC])
      refine wpAnyH_ready (rs := [10]) (by kernel_rfl) (by simp) ?_
      refine cons_at (i := 10) rfl (fun K hK => ?_) AllReadyH.nil
      obtain ⟨f0, f1, f2, f3⟩ := sm_cells Kqqb8_190.out
      go_simp
      clear f0 f1 f2 f3
      obtain ⟨qw21, hw⟩ : ∃ W', W' = (qw19.setCell ⟨qb8_19, 0, none⟩ (.int .i64 s7)).setCell ⟨qb8_19, 1, none⟩ (.slice A7 n7 c7) := ⟨_, rfl⟩
      rw [← hw]
      have Bq21 := Lib.hid (below_2 Bq20.out loqb8_19 (u := .int .i64 s7) (v := .slice A7 n7 c7))
      rw [← hw] at Bq21
      have Kqqb9_17_21 := Lib.hid (Kqqb9_1720.out.far2 neqb9_17qb8_19 (a := .int .i64 s7) (b := .slice A7 n7 c7))
      rw [← hw] at Kqqb9_17_21
      have Kqqb8_19_21 := Lib.hid (Kqqb8_190.out.set2 (a := .int .i64 s7) (b := .slice A7 n7 c7))
      rw [← hw] at Kqqb8_19_21
      have Gq3_21 := Lib.hid (Gq3_20.out.far2 ap3qb8_19.out (a := .int .i64 s7) (b := .slice A7 n7 c7))
      rw [← hw] at Gq3_21
      have Gq7_21 := Lib.hid (Gq7_20.out.far2 ap7qb8_19.out (a := .int .i64 s7) (b := .slice A7 n7 c7))
      rw [← hw] at Gq7_21
      refine hK.out _ _ ?_ (fun hHeld => ?_)
      · exact Bq21.out
      clear Bq20 Kqqb9_1720 Kqqb8_190 Gq3_20 Gq7_20 hw
      clear hK K
      (try simp only [Act.put, uA, uB, uC])
      refine wpAnyH_ready (rs := [11]) (by kernel_rfl) (by simp) ?_
      refine cons_at (i := 11) rfl (fun K hK => ?_) AllReadyH.nil
      obtain ⟨f0, f1, f2, f3⟩ := sm_cells Kqqb9_17_21.out
      go_simp
      clear f0 f1 f2 f3
      obtain ⟨qw22, hw⟩ : ∃ W', W' = (qw21.setCell ⟨qb9_17, 0, none⟩ (.int .i64 s8)).setCell ⟨qb9_17, 1, none⟩ (.slice A8 n8 c8) := ⟨_, rfl⟩
      rw [← hw]
      have Bq22 := Lib.hid (below_2 Bq21.out loqb9_17 (u := .int .i64 s8) (v := .slice A8 n8 c8))
      rw [← hw] at Bq22
      have Kqqb9_17_22 := Lib.hid (Kqqb9_17_21.out.set2 (a := .int .i64 s8) (b := .slice A8 n8 c8))
      rw [← hw] at Kqqb9_17_22
      have Kqqb8_19_22 := Lib.hid (Kqqb8_19_21.out.far2 (Ne.symm neqb9_17qb8_19) (a := .int .i64 s8) (b := .slice A8 n8 c8))
      rw [← hw] at Kqqb8_19_22
      have Gq3_22 := Lib.hid (Gq3_21.out.far2 ap3qb9_17.out (a := .int .i64 s8) (b := .slice A8 n8 c8))
      rw [← hw] at Gq3_22
      have Gq7_22 := Lib.hid (Gq7_21.out.far2 ap7qb9_17.out (a := .int .i64 s8) (b := .slice A8 n8 c8))
      rw [← hw] at Gq7_22
      refine hK.out _ _ ?_ (fun hHeld => ?_)
      · exact Bq22.out
      clear Bq21 Kqqb9_17_21 Kqqb8_19_21 Gq3_21 Gq7_21 hw
      clear hK K
      (try simp only [Act.put, uA, uB, uC])
      refine wpAnyH_done (by kernel_rfl) ?_ _
      go_wp2_with fail
      go_meet
      exact ⟨qb8_19, qb9_17, rfl, rfl, (show TwoR _ _ _ _ _ _ _ _ from ⟨_, _, _, _, _, _, _, _, ⟨Kqqb8_19_22.out, loqb8_19, Gq3_22.out, HCq3.out, FRq3.out⟩, ⟨Kqqb9_17_22.out, loqb9_17, Gq7_22.out, HCq7.out, FRq7.out⟩, Bq22.out⟩)⟩
      refine cons_at (i := 8) rfl (fun K hK => ?_) ?_
      go_simp
      obtain ⟨qw23, hw⟩ : ∃ W', W' = qw7.alloc (.cells #[.int .i64 0, .slice none 0 0] 24) := ⟨_, rfl⟩
      obtain ⟨qb8_23, hb⟩ : ∃ b, b = qw7.heap.size := ⟨_, rfl⟩
      have X23 := Lib.hid (bal (Below.refl qw7.heap.size qw7) (o := .cells #[.int .i64 0, .slice none 0 0] 24))
      have Kqqb8_230 := Lib.hid (Blk.new qw7 24 #[.int .i64 0, .slice none 0 0])
      rw [← hw] at X23 Kqqb8_230
      rw [← hb] at Kqqb8_230
      rw [← hw, ← hb]
      have loqb8_23 : w3.heap.size ≤ qb8_23 := by rw [hb]; exact Bq8.out.size
      have ap3qb8_23 := Lib.hid (show 0 < n7 → ∀ ad, A7 = some ad → ad.block ≠ qb8_23 from fun hp ad e => by rw [hb]; exact Nat.ne_of_lt (Gq3_7.out.lt hp e))
      have Bq24 := Lib.hid (Bq8.out.trans (X23.out.mono Bq8.out.size))
      have Gq3_24 := Lib.hid (Gq3_7.out.past X23.out)
      refine hK.out _ _ ?_ (fun hHeld => ?_)
      · exact Bq24.out
      clear Bq8 Gq3_7 X23 hw hb
      clear hK K
      (try simp only [Act.put, uA, uB, uC])
      refine wpAnyH_ready (rs := [7, 9]) (by kernel_rfl) (by simp) ?_
      refine cons_at (i := 7) rfl (fun K hK => ?_) ?_
      go_simp
      refine (D2.out _ Bq24.out).mono ?_
      rintro e qw25 ⟨s8, A8, n8, c8, rfl, hc, hg, hf, hb⟩
      try dsimp only
      have X25 := Lib.hid hb
      have Gq7_25 := Lib.hid hg
      have HCq7 := Lib.hid hc
      have FRq7 : Hid (Fresh w3 A8 n8) := fun hp ad e => Nat.le_trans Bq24.out.size (hf hp ad e)
      have ap7qb8_23 := Lib.hid (show 0 < n8 → ∀ ad, A8 = some ad → ad.block ≠ qb8_23 from fun hp ad e => by have := hf hp ad e; have := Kqqb8_230.out.lt; omega)
      have Bq26 := Lib.hid (Bq24.out.trans (X25.out.mono Bq24.out.size))
      have Kqqb8_2326 := Lib.hid (Kqqb8_230.out.below X25.out Kqqb8_230.out.lt)
      have Gq3_26 := Lib.hid (Gq3_24.out.past X25.out)
      refine hK.out _ _ ?_ (fun hHeld => ?_)
      · exact Bq26.out
      clear Bq24 Kqqb8_230 Gq3_24 X25 hc hg hf hb
      clear hK K
      (try simp only [Act.put, uA, uB, uC])
      refine wpAnyH_ready (rs := [9]) (by kernel_rfl) (by simp) ?_
      refine cons_at (i := 9) rfl (fun K hK => ?_) AllReadyH.nil
      go_simp
      obtain ⟨qw27, hw⟩ : ∃ W', W' = qw25.alloc (.cells #[.int .i64 0, .slice none 0 0] 24) := ⟨_, rfl⟩
      obtain ⟨qb9_27, hb⟩ : ∃ b, b = qw25.heap.size := ⟨_, rfl⟩
      have X27 := Lib.hid (bal (Below.refl qw25.heap.size qw25) (o := .cells #[.int .i64 0, .slice none 0 0] 24))
      have Kqqb9_270 := Lib.hid (Blk.new qw25 24 #[.int .i64 0, .slice none 0 0])
      rw [← hw] at X27 Kqqb9_270
      rw [← hb] at Kqqb9_270
      rw [← hw, ← hb]
      have loqb9_27 : w3.heap.size ≤ qb9_27 := by rw [hb]; exact Bq26.out.size
      have neqb8_23qb9_27 : qb8_23 ≠ qb9_27 := by rw [hb]; exact Nat.ne_of_lt Kqqb8_2326.out.lt
      have ap3qb9_27 := Lib.hid (show 0 < n7 → ∀ ad, A7 = some ad → ad.block ≠ qb9_27 from fun hp ad e => by rw [hb]; exact Nat.ne_of_lt (Gq3_26.out.lt hp e))
      have ap7qb9_27 := Lib.hid (show 0 < n8 → ∀ ad, A8 = some ad → ad.block ≠ qb9_27 from fun hp ad e => by rw [hb]; exact Nat.ne_of_lt (Gq7_25.out.lt hp e))
      have Bq28 := Lib.hid (Bq26.out.trans (X27.out.mono Bq26.out.size))
      have Kqqb8_2328 := Lib.hid (Kqqb8_2326.out.below X27.out Kqqb8_2326.out.lt)
      have Gq3_28 := Lib.hid (Gq3_26.out.past X27.out)
      have Gq7_28 := Lib.hid (Gq7_25.out.past X27.out)
      refine hK.out _ _ ?_ (fun hHeld => ?_)
      · exact Bq28.out
      clear Bq26 Kqqb8_2326 Gq3_26 Gq7_25 X27 hw hb
      clear hK K
      (try simp only [Act.put, uA, uB, uC])
      refine wpAnyH_ready (rs := [10]) (by kernel_rfl) (by simp) ?_
      refine cons_at (i := 10) rfl (fun K hK => ?_) AllReadyH.nil
      obtain ⟨f0, f1, f2, f3⟩ := sm_cells Kqqb8_2328.out
      go_simp
      clear f0 f1 f2 f3
      obtain ⟨qw29, hw⟩ : ∃ W', W' = (qw27.setCell ⟨qb8_23, 0, none⟩ (.int .i64 s7)).setCell ⟨qb8_23, 1, none⟩ (.slice A7 n7 c7) := ⟨_, rfl⟩
      rw [← hw]
      have Bq29 := Lib.hid (below_2 Bq28.out loqb8_23 (u := .int .i64 s7) (v := .slice A7 n7 c7))
      rw [← hw] at Bq29
      have Kqqb8_23_29 := Lib.hid (Kqqb8_2328.out.set2 (a := .int .i64 s7) (b := .slice A7 n7 c7))
      rw [← hw] at Kqqb8_23_29
      have Kqqb9_27_29 := Lib.hid (Kqqb9_270.out.far2 (Ne.symm neqb8_23qb9_27) (a := .int .i64 s7) (b := .slice A7 n7 c7))
      rw [← hw] at Kqqb9_27_29
      have Gq3_29 := Lib.hid (Gq3_28.out.far2 ap3qb8_23.out (a := .int .i64 s7) (b := .slice A7 n7 c7))
      rw [← hw] at Gq3_29
      have Gq7_29 := Lib.hid (Gq7_28.out.far2 ap7qb8_23.out (a := .int .i64 s7) (b := .slice A7 n7 c7))
      rw [← hw] at Gq7_29
      refine hK.out _ _ ?_ (fun hHeld => ?_)
      · exact Bq29.out
      clear Bq28 Kqqb8_2328 Kqqb9_270 Gq3_28 Gq7_28 hw
      clear hK K
      (try simp only [Act.put, uA, uB, uC])
      refine wpAnyH_ready (rs := [11]) (by kernel_rfl) (by simp) ?_
      refine cons_at (i := 11) rfl (fun K hK => ?_) AllReadyH.nil
      obtain ⟨f0, f1, f2, f3⟩ := sm_cells Kqqb9_27_29.out
      go_simp
      clear f0 f1 f2 f3
      obtain ⟨qw30, hw⟩ : ∃ W', W' = (qw29.setCell ⟨qb9_27, 0, none⟩ (.int .i64 s8)).setCell ⟨qb9_27, 1, none⟩ (.slice A8 n8 c8) := ⟨_, rfl⟩
      rw [← hw]
      have Bq30 := Lib.hid (below_2 Bq29.out loqb9_27 (u := .int .i64 s8) (v := .slice A8 n8 c8))
      rw [← hw] at Bq30
      have Kqqb8_23_30 := Lib.hid (Kqqb8_23_29.out.far2 neqb8_23qb9_27 (a := .int .i64 s8) (b := .slice A8 n8 c8))
      rw [← hw] at Kqqb8_23_30
      have Kqqb9_27_30 := Lib.hid (Kqqb9_27_29.out.set2 (a := .int .i64 s8) (b := .slice A8 n8 c8))
      rw [← hw] at Kqqb9_27_30
      have Gq3_30 := Lib.hid (Gq3_29.out.far2 ap3qb9_27.out (a := .int .i64 s8) (b := .slice A8 n8 c8))
      rw [← hw] at Gq3_30
      have Gq7_30 := Lib.hid (Gq7_29.out.far2 ap7qb9_27.out (a := .int .i64 s8) (b := .slice A8 n8 c8))
      rw [← hw] at Gq7_30
      refine hK.out _ _ ?_ (fun hHeld => ?_)
      · exact Bq30.out
      clear Bq29 Kqqb8_23_29 Kqqb9_27_29 Gq3_29 Gq7_29 hw
      clear hK K
      (try simp only [Act.put, uA, uB, uC])
      refine wpAnyH_done (by kernel_rfl) ?_ _
      go_wp2_with fail
      go_meet
      exact ⟨qb8_23, qb9_27, rfl, rfl, (show TwoR _ _ _ _ _ _ _ _ from ⟨_, _, _, _, _, _, _, _, ⟨Kqqb8_23_30.out, loqb8_23, Gq3_30.out, HCq3.out, FRq3.out⟩, ⟨Kqqb9_27_30.out, loqb9_27, Gq7_30.out, HCq7.out, FRq7.out⟩, Bq30.out⟩)⟩
      refine cons_at (i := 9) rfl (fun K hK => ?_) AllReadyH.nil
      go_simp
      obtain ⟨qw31, hw⟩ : ∃ W', W' = qw23.alloc (.cells #[.int .i64 0, .slice none 0 0] 24) := ⟨_, rfl⟩
      obtain ⟨qb9_31, hb⟩ : ∃ b, b = qw23.heap.size := ⟨_, rfl⟩
      have X31 := Lib.hid (bal (Below.refl qw23.heap.size qw23) (o := .cells #[.int .i64 0, .slice none 0 0] 24))
      have Kqqb9_310 := Lib.hid (Blk.new qw23 24 #[.int .i64 0, .slice none 0 0])
      rw [← hw] at X31 Kqqb9_310
      rw [← hb] at Kqqb9_310
      rw [← hw, ← hb]
      have loqb9_31 : w3.heap.size ≤ qb9_31 := by rw [hb]; exact Bq24.out.size
      have neqb8_23qb9_31 : qb8_23 ≠ qb9_31 := by rw [hb]; exact Nat.ne_of_lt Kqqb8_230.out.lt
      have ap3qb9_31 := Lib.hid (show 0 < n7 → ∀ ad, A7 = some ad → ad.block ≠ qb9_31 from fun hp ad e => by rw [hb]; exact Nat.ne_of_lt (Gq3_24.out.lt hp e))
      have Bq32 := Lib.hid (Bq24.out.trans (X31.out.mono Bq24.out.size))
      have Kqqb8_2332 := Lib.hid (Kqqb8_230.out.below X31.out Kqqb8_230.out.lt)
      have Gq3_32 := Lib.hid (Gq3_24.out.past X31.out)
      refine hK.out _ _ ?_ (fun hHeld => ?_)
      · exact Bq32.out
      clear Bq24 Kqqb8_230 Gq3_24 X31 hw hb
      clear hK K
      (try simp only [Act.put, uA, uB, uC])
      refine wpAnyH_ready (rs := [7]) (by kernel_rfl) (by simp) ?_
      refine cons_at (i := 7) rfl (fun K hK => ?_) AllReadyH.nil
      go_simp
      refine (D2.out _ Bq32.out).mono ?_
      rintro e qw33 ⟨s8, A8, n8, c8, rfl, hc, hg, hf, hb⟩
      try dsimp only
      have X33 := Lib.hid hb
      have Gq7_33 := Lib.hid hg
      have HCq7 := Lib.hid hc
      have FRq7 : Hid (Fresh w3 A8 n8) := fun hp ad e => Nat.le_trans Bq32.out.size (hf hp ad e)
      have ap7qb8_23 := Lib.hid (show 0 < n8 → ∀ ad, A8 = some ad → ad.block ≠ qb8_23 from fun hp ad e => by have := hf hp ad e; have := Kqqb8_2332.out.lt; omega)
      have ap7qb9_31 := Lib.hid (show 0 < n8 → ∀ ad, A8 = some ad → ad.block ≠ qb9_31 from fun hp ad e => by have := hf hp ad e; have := Kqqb9_310.out.lt; omega)
      have Bq34 := Lib.hid (Bq32.out.trans (X33.out.mono Bq32.out.size))
      have Kqqb8_2334 := Lib.hid (Kqqb8_2332.out.below X33.out Kqqb8_2332.out.lt)
      have Kqqb9_3134 := Lib.hid (Kqqb9_310.out.below X33.out Kqqb9_310.out.lt)
      have Gq3_34 := Lib.hid (Gq3_32.out.past X33.out)
      refine hK.out _ _ ?_ (fun hHeld => ?_)
      · exact Bq34.out
      clear Bq32 Kqqb8_2332 Kqqb9_310 Gq3_32 X33 hc hg hf hb
      clear hK K
      (try simp only [Act.put, uA, uB, uC])
      refine wpAnyH_ready (rs := [10]) (by kernel_rfl) (by simp) ?_
      refine cons_at (i := 10) rfl (fun K hK => ?_) AllReadyH.nil
      obtain ⟨f0, f1, f2, f3⟩ := sm_cells Kqqb8_2334.out
      go_simp
      clear f0 f1 f2 f3
      obtain ⟨qw35, hw⟩ : ∃ W', W' = (qw33.setCell ⟨qb8_23, 0, none⟩ (.int .i64 s7)).setCell ⟨qb8_23, 1, none⟩ (.slice A7 n7 c7) := ⟨_, rfl⟩
      rw [← hw]
      have Bq35 := Lib.hid (below_2 Bq34.out loqb8_23 (u := .int .i64 s7) (v := .slice A7 n7 c7))
      rw [← hw] at Bq35
      have Kqqb8_23_35 := Lib.hid (Kqqb8_2334.out.set2 (a := .int .i64 s7) (b := .slice A7 n7 c7))
      rw [← hw] at Kqqb8_23_35
      have Kqqb9_31_35 := Lib.hid (Kqqb9_3134.out.far2 (Ne.symm neqb8_23qb9_31) (a := .int .i64 s7) (b := .slice A7 n7 c7))
      rw [← hw] at Kqqb9_31_35
      have Gq3_35 := Lib.hid (Gq3_34.out.far2 ap3qb8_23.out (a := .int .i64 s7) (b := .slice A7 n7 c7))
      rw [← hw] at Gq3_35
      have Gq7_35 := Lib.hid (Gq7_33.out.far2 ap7qb8_23.out (a := .int .i64 s7) (b := .slice A7 n7 c7))
      rw [← hw] at Gq7_35
      refine hK.out _ _ ?_ (fun hHeld => ?_)
      · exact Bq35.out
      clear Bq34 Kqqb8_2334 Kqqb9_3134 Gq3_34 Gq7_33 hw
      clear hK K
      (try simp only [Act.put, uA, uB, uC])
      refine wpAnyH_ready (rs := [11]) (by kernel_rfl) (by simp) ?_
      refine cons_at (i := 11) rfl (fun K hK => ?_) AllReadyH.nil
      obtain ⟨f0, f1, f2, f3⟩ := sm_cells Kqqb9_31_35.out
      go_simp
      clear f0 f1 f2 f3
      obtain ⟨qw36, hw⟩ : ∃ W', W' = (qw35.setCell ⟨qb9_31, 0, none⟩ (.int .i64 s8)).setCell ⟨qb9_31, 1, none⟩ (.slice A8 n8 c8) := ⟨_, rfl⟩
      rw [← hw]
      have Bq36 := Lib.hid (below_2 Bq35.out loqb9_31 (u := .int .i64 s8) (v := .slice A8 n8 c8))
      rw [← hw] at Bq36
      have Kqqb8_23_36 := Lib.hid (Kqqb8_23_35.out.far2 neqb8_23qb9_31 (a := .int .i64 s8) (b := .slice A8 n8 c8))
      rw [← hw] at Kqqb8_23_36
      have Kqqb9_31_36 := Lib.hid (Kqqb9_31_35.out.set2 (a := .int .i64 s8) (b := .slice A8 n8 c8))
      rw [← hw] at Kqqb9_31_36
      have Gq3_36 := Lib.hid (Gq3_35.out.far2 ap3qb9_31.out (a := .int .i64 s8) (b := .slice A8 n8 c8))
      rw [← hw] at Gq3_36
      have Gq7_36 := Lib.hid (Gq7_35.out.far2 ap7qb9_31.out (a := .int .i64 s8) (b := .slice A8 n8 c8))
      rw [← hw] at Gq7_36
      refine hK.out _ _ ?_ (fun hHeld => ?_)
      · exact Bq36.out
      clear Bq35 Kqqb8_23_35 Kqqb9_31_35 Gq3_35 Gq7_35 hw
      clear hK K
      (try simp only [Act.put, uA, uB, uC])
      refine wpAnyH_done (by kernel_rfl) ?_ _
      go_wp2_with fail
      go_meet
      exact ⟨qb8_23, qb9_31, rfl, rfl, (show TwoR _ _ _ _ _ _ _ _ from ⟨_, _, _, _, _, _, _, _, ⟨Kqqb8_23_36.out, loqb8_23, Gq3_36.out, HCq3.out, FRq3.out⟩, ⟨Kqqb9_31_36.out, loqb9_31, Gq7_36.out, HCq7.out, FRq7.out⟩, Bq36.out⟩)⟩
      refine cons_at (i := 9) rfl (fun K hK => ?_) AllReadyH.nil
      go_simp
      obtain ⟨qw37, hw⟩ : ∃ W', W' = qw7.alloc (.cells #[.int .i64 0, .slice none 0 0] 24) := ⟨_, rfl⟩
      obtain ⟨qb9_37, hb⟩ : ∃ b, b = qw7.heap.size := ⟨_, rfl⟩
      have X37 := Lib.hid (bal (Below.refl qw7.heap.size qw7) (o := .cells #[.int .i64 0, .slice none 0 0] 24))
      have Kqqb9_370 := Lib.hid (Blk.new qw7 24 #[.int .i64 0, .slice none 0 0])
      rw [← hw] at X37 Kqqb9_370
      rw [← hb] at Kqqb9_370
      rw [← hw, ← hb]
      have loqb9_37 : w3.heap.size ≤ qb9_37 := by rw [hb]; exact Bq8.out.size
      have ap3qb9_37 := Lib.hid (show 0 < n7 → ∀ ad, A7 = some ad → ad.block ≠ qb9_37 from fun hp ad e => by rw [hb]; exact Nat.ne_of_lt (Gq3_7.out.lt hp e))
      have Bq38 := Lib.hid (Bq8.out.trans (X37.out.mono Bq8.out.size))
      have Gq3_38 := Lib.hid (Gq3_7.out.past X37.out)
      refine hK.out _ _ ?_ (fun hHeld => ?_)
      · exact Bq38.out
      clear Bq8 Gq3_7 X37 hw hb
      clear hK K
      (try simp only [Act.put, uA, uB, uC])
      refine wpAnyH_ready (rs := [7, 8]) (by kernel_rfl) (by simp) ?_
      refine cons_at (i := 7) rfl (fun K hK => ?_) ?_
      go_simp
      refine (D2.out _ Bq38.out).mono ?_
      rintro e qw39 ⟨s8, A8, n8, c8, rfl, hc, hg, hf, hb⟩
      try dsimp only
      have X39 := Lib.hid hb
      have Gq7_39 := Lib.hid hg
      have HCq7 := Lib.hid hc
      have FRq7 : Hid (Fresh w3 A8 n8) := fun hp ad e => Nat.le_trans Bq38.out.size (hf hp ad e)
      have ap7qb9_37 := Lib.hid (show 0 < n8 → ∀ ad, A8 = some ad → ad.block ≠ qb9_37 from fun hp ad e => by have := hf hp ad e; have := Kqqb9_370.out.lt; omega)
      have Bq40 := Lib.hid (Bq38.out.trans (X39.out.mono Bq38.out.size))
      have Kqqb9_3740 := Lib.hid (Kqqb9_370.out.below X39.out Kqqb9_370.out.lt)
      have Gq3_40 := Lib.hid (Gq3_38.out.past X39.out)
      refine hK.out _ _ ?_ (fun hHeld => ?_)
      · exact Bq40.out
      clear Bq38 Kqqb9_370 Gq3_38 X39 hc hg hf hb
      clear hK K
      (try simp only [Act.put, uA, uB, uC])
      refine wpAnyH_ready (rs := [8]) (by kernel_rfl) (by simp) ?_
      refine cons_at (i := 8) rfl (fun K hK => ?_) AllReadyH.nil
      go_simp
      obtain ⟨qw41, hw⟩ : ∃ W', W' = qw39.alloc (.cells #[.int .i64 0, .slice none 0 0] 24) := ⟨_, rfl⟩
      obtain ⟨qb8_41, hb⟩ : ∃ b, b = qw39.heap.size := ⟨_, rfl⟩
      have X41 := Lib.hid (bal (Below.refl qw39.heap.size qw39) (o := .cells #[.int .i64 0, .slice none 0 0] 24))
      have Kqqb8_410 := Lib.hid (Blk.new qw39 24 #[.int .i64 0, .slice none 0 0])
      rw [← hw] at X41 Kqqb8_410
      rw [← hb] at Kqqb8_410
      rw [← hw, ← hb]
      have loqb8_41 : w3.heap.size ≤ qb8_41 := by rw [hb]; exact Bq40.out.size
      have neqb9_37qb8_41 : qb9_37 ≠ qb8_41 := by rw [hb]; exact Nat.ne_of_lt Kqqb9_3740.out.lt
      have ap3qb8_41 := Lib.hid (show 0 < n7 → ∀ ad, A7 = some ad → ad.block ≠ qb8_41 from fun hp ad e => by rw [hb]; exact Nat.ne_of_lt (Gq3_40.out.lt hp e))
      have ap7qb8_41 := Lib.hid (show 0 < n8 → ∀ ad, A8 = some ad → ad.block ≠ qb8_41 from fun hp ad e => by rw [hb]; exact Nat.ne_of_lt (Gq7_39.out.lt hp e))
      have Bq42 := Lib.hid (Bq40.out.trans (X41.out.mono Bq40.out.size))
      have Kqqb9_3742 := Lib.hid (Kqqb9_3740.out.below X41.out Kqqb9_3740.out.lt)
      have Gq3_42 := Lib.hid (Gq3_40.out.past X41.out)
      have Gq7_42 := Lib.hid (Gq7_39.out.past X41.out)
      refine hK.out _ _ ?_ (fun hHeld => ?_)
      · exact Bq42.out
      clear Bq40 Kqqb9_3740 Gq3_40 Gq7_39 X41 hw hb
      clear hK K
      (try simp only [Act.put, uA, uB, uC])
      refine wpAnyH_ready (rs := [10]) (by kernel_rfl) (by simp) ?_
      refine cons_at (i := 10) rfl (fun K hK => ?_) AllReadyH.nil
      obtain ⟨f0, f1, f2, f3⟩ := sm_cells Kqqb8_410.out
      go_simp
      clear f0 f1 f2 f3
      obtain ⟨qw43, hw⟩ : ∃ W', W' = (qw41.setCell ⟨qb8_41, 0, none⟩ (.int .i64 s7)).setCell ⟨qb8_41, 1, none⟩ (.slice A7 n7 c7) := ⟨_, rfl⟩
      rw [← hw]
      have Bq43 := Lib.hid (below_2 Bq42.out loqb8_41 (u := .int .i64 s7) (v := .slice A7 n7 c7))
      rw [← hw] at Bq43
      have Kqqb9_37_43 := Lib.hid (Kqqb9_3742.out.far2 neqb9_37qb8_41 (a := .int .i64 s7) (b := .slice A7 n7 c7))
      rw [← hw] at Kqqb9_37_43
      have Kqqb8_41_43 := Lib.hid (Kqqb8_410.out.set2 (a := .int .i64 s7) (b := .slice A7 n7 c7))
      rw [← hw] at Kqqb8_41_43
      have Gq3_43 := Lib.hid (Gq3_42.out.far2 ap3qb8_41.out (a := .int .i64 s7) (b := .slice A7 n7 c7))
      rw [← hw] at Gq3_43
      have Gq7_43 := Lib.hid (Gq7_42.out.far2 ap7qb8_41.out (a := .int .i64 s7) (b := .slice A7 n7 c7))
      rw [← hw] at Gq7_43
      refine hK.out _ _ ?_ (fun hHeld => ?_)
      · exact Bq43.out
      clear Bq42 Kqqb9_3742 Kqqb8_410 Gq3_42 Gq7_42 hw
      clear hK K
      (try simp only [Act.put, uA, uB, uC])
      refine wpAnyH_ready (rs := [11]) (by kernel_rfl) (by simp) ?_
      refine cons_at (i := 11) rfl (fun K hK => ?_) AllReadyH.nil
      obtain ⟨f0, f1, f2, f3⟩ := sm_cells Kqqb9_37_43.out
      go_simp
      clear f0 f1 f2 f3
      obtain ⟨qw44, hw⟩ : ∃ W', W' = (qw43.setCell ⟨qb9_37, 0, none⟩ (.int .i64 s8)).setCell ⟨qb9_37, 1, none⟩ (.slice A8 n8 c8) := ⟨_, rfl⟩
      rw [← hw]
      have Bq44 := Lib.hid (below_2 Bq43.out loqb9_37 (u := .int .i64 s8) (v := .slice A8 n8 c8))
      rw [← hw] at Bq44
      have Kqqb9_37_44 := Lib.hid (Kqqb9_37_43.out.set2 (a := .int .i64 s8) (b := .slice A8 n8 c8))
      rw [← hw] at Kqqb9_37_44
      have Kqqb8_41_44 := Lib.hid (Kqqb8_41_43.out.far2 (Ne.symm neqb9_37qb8_41) (a := .int .i64 s8) (b := .slice A8 n8 c8))
      rw [← hw] at Kqqb8_41_44
      have Gq3_44 := Lib.hid (Gq3_43.out.far2 ap3qb9_37.out (a := .int .i64 s8) (b := .slice A8 n8 c8))
      rw [← hw] at Gq3_44
      have Gq7_44 := Lib.hid (Gq7_43.out.far2 ap7qb9_37.out (a := .int .i64 s8) (b := .slice A8 n8 c8))
      rw [← hw] at Gq7_44
      refine hK.out _ _ ?_ (fun hHeld => ?_)
      · exact Bq44.out
      clear Bq43 Kqqb9_37_43 Kqqb8_41_43 Gq3_43 Gq7_43 hw
      clear hK K
      (try simp only [Act.put, uA, uB, uC])
      refine wpAnyH_done (by kernel_rfl) ?_ _
      go_wp2_with fail
      go_meet
      exact ⟨qb8_41, qb9_37, rfl, rfl, (show TwoR _ _ _ _ _ _ _ _ from ⟨_, _, _, _, _, _, _, _, ⟨Kqqb8_41_44.out, loqb8_41, Gq3_44.out, HCq3.out, FRq3.out⟩, ⟨Kqqb9_37_44.out, loqb9_37, Gq7_44.out, HCq7.out, FRq7.out⟩, Bq44.out⟩)⟩
      refine cons_at (i := 8) rfl (fun K hK => ?_) AllReadyH.nil
      go_simp
      obtain ⟨qw45, hw⟩ : ∃ W', W' = qw37.alloc (.cells #[.int .i64 0, .slice none 0 0] 24) := ⟨_, rfl⟩
      obtain ⟨qb8_45, hb⟩ : ∃ b, b = qw37.heap.size := ⟨_, rfl⟩
      have X45 := Lib.hid (bal (Below.refl qw37.heap.size qw37) (o := .cells #[.int .i64 0, .slice none 0 0] 24))
      have Kqqb8_450 := Lib.hid (Blk.new qw37 24 #[.int .i64 0, .slice none 0 0])
      rw [← hw] at X45 Kqqb8_450
      rw [← hb] at Kqqb8_450
      rw [← hw, ← hb]
      have loqb8_45 : w3.heap.size ≤ qb8_45 := by rw [hb]; exact Bq38.out.size
      have neqb9_37qb8_45 : qb9_37 ≠ qb8_45 := by rw [hb]; exact Nat.ne_of_lt Kqqb9_370.out.lt
      have ap3qb8_45 := Lib.hid (show 0 < n7 → ∀ ad, A7 = some ad → ad.block ≠ qb8_45 from fun hp ad e => by rw [hb]; exact Nat.ne_of_lt (Gq3_38.out.lt hp e))
      have Bq46 := Lib.hid (Bq38.out.trans (X45.out.mono Bq38.out.size))
      have Kqqb9_3746 := Lib.hid (Kqqb9_370.out.below X45.out Kqqb9_370.out.lt)
      have Gq3_46 := Lib.hid (Gq3_38.out.past X45.out)
      refine hK.out _ _ ?_ (fun hHeld => ?_)
      · exact Bq46.out
      clear Bq38 Kqqb9_370 Gq3_38 X45 hw hb
      clear hK K
      (try simp only [Act.put, uA, uB, uC])
      refine wpAnyH_ready (rs := [7]) (by kernel_rfl) (by simp) ?_
      refine cons_at (i := 7) rfl (fun K hK => ?_) AllReadyH.nil
      go_simp
      refine (D2.out _ Bq46.out).mono ?_
      rintro e qw47 ⟨s8, A8, n8, c8, rfl, hc, hg, hf, hb⟩
      try dsimp only
      have X47 := Lib.hid hb
      have Gq7_47 := Lib.hid hg
      have HCq7 := Lib.hid hc
      have FRq7 : Hid (Fresh w3 A8 n8) := fun hp ad e => Nat.le_trans Bq46.out.size (hf hp ad e)
      have ap7qb9_37 := Lib.hid (show 0 < n8 → ∀ ad, A8 = some ad → ad.block ≠ qb9_37 from fun hp ad e => by have := hf hp ad e; have := Kqqb9_3746.out.lt; omega)
      have ap7qb8_45 := Lib.hid (show 0 < n8 → ∀ ad, A8 = some ad → ad.block ≠ qb8_45 from fun hp ad e => by have := hf hp ad e; have := Kqqb8_450.out.lt; omega)
      have Bq48 := Lib.hid (Bq46.out.trans (X47.out.mono Bq46.out.size))
      have Kqqb9_3748 := Lib.hid (Kqqb9_3746.out.below X47.out Kqqb9_3746.out.lt)
      have Kqqb8_4548 := Lib.hid (Kqqb8_450.out.below X47.out Kqqb8_450.out.lt)
      have Gq3_48 := Lib.hid (Gq3_46.out.past X47.out)
      refine hK.out _ _ ?_ (fun hHeld => ?_)
      · exact Bq48.out
      clear Bq46 Kqqb9_3746 Kqqb8_450 Gq3_46 X47 hc hg hf hb
      clear hK K
      (try simp only [Act.put, uA, uB, uC])
      refine wpAnyH_ready (rs := [10]) (by kernel_rfl) (by simp) ?_
      refine cons_at (i := 10) rfl (fun K hK => ?_) AllReadyH.nil
      obtain ⟨f0, f1, f2, f3⟩ := sm_cells Kqqb8_4548.out
      go_simp
      clear f0 f1 f2 f3
      obtain ⟨qw49, hw⟩ : ∃ W', W' = (qw47.setCell ⟨qb8_45, 0, none⟩ (.int .i64 s7)).setCell ⟨qb8_45, 1, none⟩ (.slice A7 n7 c7) := ⟨_, rfl⟩
      rw [← hw]
      have Bq49 := Lib.hid (below_2 Bq48.out loqb8_45 (u := .int .i64 s7) (v := .slice A7 n7 c7))
      rw [← hw] at Bq49
      have Kqqb9_37_49 := Lib.hid (Kqqb9_3748.out.far2 neqb9_37qb8_45 (a := .int .i64 s7) (b := .slice A7 n7 c7))
      rw [← hw] at Kqqb9_37_49
      have Kqqb8_45_49 := Lib.hid (Kqqb8_4548.out.set2 (a := .int .i64 s7) (b := .slice A7 n7 c7))
      rw [← hw] at Kqqb8_45_49
      have Gq3_49 := Lib.hid (Gq3_48.out.far2 ap3qb8_45.out (a := .int .i64 s7) (b := .slice A7 n7 c7))
      rw [← hw] at Gq3_49
      have Gq7_49 := Lib.hid (Gq7_47.out.far2 ap7qb8_45.out (a := .int .i64 s7) (b := .slice A7 n7 c7))
      rw [← hw] at Gq7_49
      refine hK.out _ _ ?_ (fun hHeld => ?_)
      · exact Bq49.out
      clear Bq48 Kqqb9_3748 Kqqb8_4548 Gq3_48 Gq7_47 hw
      clear hK K
      (try simp only [Act.put, uA, uB, uC])
      refine wpAnyH_ready (rs := [11]) (by kernel_rfl) (by simp) ?_
      refine cons_at (i := 11) rfl (fun K hK => ?_) AllReadyH.nil
      obtain ⟨f0, f1, f2, f3⟩ := sm_cells Kqqb9_37_49.out
      go_simp
      clear f0 f1 f2 f3
      obtain ⟨qw50, hw⟩ : ∃ W', W' = (qw49.setCell ⟨qb9_37, 0, none⟩ (.int .i64 s8)).setCell ⟨qb9_37, 1, none⟩ (.slice A8 n8 c8) := ⟨_, rfl⟩
      rw [← hw]
      have Bq50 := Lib.hid (below_2 Bq49.out loqb9_37 (u := .int .i64 s8) (v := .slice A8 n8 c8))
      rw [← hw] at Bq50
      have Kqqb9_37_50 := Lib.hid (Kqqb9_37_49.out.set2 (a := .int .i64 s8) (b := .slice A8 n8 c8))
      rw [← hw] at Kqqb9_37_50
      have Kqqb8_45_50 := Lib.hid (Kqqb8_45_49.out.far2 (Ne.symm neqb9_37qb8_45) (a := .int .i64 s8) (b := .slice A8 n8 c8))
      rw [← hw] at Kqqb8_45_50
      have Gq3_50 := Lib.hid (Gq3_49.out.far2 ap3qb9_37.out (a := .int .i64 s8) (b := .slice A8 n8 c8))
      rw [← hw] at Gq3_50
      have Gq7_50 := Lib.hid (Gq7_49.out.far2 ap7qb9_37.out (a := .int .i64 s8) (b := .slice A8 n8 c8))
      rw [← hw] at Gq7_50
      refine hK.out _ _ ?_ (fun hHeld => ?_)
      · exact Bq50.out
      clear Bq49 Kqqb9_37_49 Kqqb8_45_49 Gq3_49 Gq7_49 hw
      clear hK K
      (try simp only [Act.put, uA, uB, uC])
      refine wpAnyH_done (by kernel_rfl) ?_ _
      go_wp2_with fail
      go_meet
      exact ⟨qb8_45, qb9_37, rfl, rfl, (show TwoR _ _ _ _ _ _ _ _ from ⟨_, _, _, _, _, _, _, _, ⟨Kqqb8_45_50.out, loqb8_45, Gq3_50.out, HCq3.out, FRq3.out⟩, ⟨Kqqb9_37_50.out, loqb9_37, Gq7_50.out, HCq7.out, FRq7.out⟩, Bq50.out⟩)⟩
      refine cons_at (i := 8) rfl (fun K hK => ?_) ?_
      go_simp
      obtain ⟨qw51, hw⟩ : ∃ W', W' = qw0.alloc (.cells #[.int .i64 0, .slice none 0 0] 24) := ⟨_, rfl⟩
      obtain ⟨qb8_51, hb⟩ : ∃ b, b = qw0.heap.size := ⟨_, rfl⟩
      have X51 := Lib.hid (bal (Below.refl qw0.heap.size qw0) (o := .cells #[.int .i64 0, .slice none 0 0] 24))
      have Kqqb8_510 := Lib.hid (Blk.new qw0 24 #[.int .i64 0, .slice none 0 0])
      rw [← hw] at X51 Kqqb8_510
      rw [← hb] at Kqqb8_510
      rw [← hw, ← hb]
      have loqb8_51 : w3.heap.size ≤ qb8_51 := by rw [hb]; exact Bq0.out.size
      have Bq52 := Lib.hid (Bq0.out.trans (X51.out.mono Bq0.out.size))
      refine hK.out _ _ ?_ (fun hHeld => ?_)
      · exact Bq52.out
      clear Bq0 X51 hw hb
      clear hK K
      (try simp only [Act.put, uA, uB, uC])
      refine wpAnyH_ready (rs := [3, 9]) (by kernel_rfl) (by simp) ?_
      refine cons_at (i := 3) rfl (fun K hK => ?_) ?_
      go_simp
      refine (D1.out _ Bq52.out).mono ?_
      rintro e qw53 ⟨s7, A7, n7, c7, rfl, hc, hg, hf, hb⟩
      try dsimp only
      have X53 := Lib.hid hb
      have Gq3_53 := Lib.hid hg
      have HCq3 := Lib.hid hc
      have FRq3 : Hid (Fresh w3 A7 n7) := fun hp ad e => Nat.le_trans Bq52.out.size (hf hp ad e)
      have ap3qb8_51 := Lib.hid (show 0 < n7 → ∀ ad, A7 = some ad → ad.block ≠ qb8_51 from fun hp ad e => by have := hf hp ad e; have := Kqqb8_510.out.lt; omega)
      have Bq54 := Lib.hid (Bq52.out.trans (X53.out.mono Bq52.out.size))
      have Kqqb8_5154 := Lib.hid (Kqqb8_510.out.below X53.out Kqqb8_510.out.lt)
      refine hK.out _ _ ?_ (fun hHeld => ?_)
      · exact Bq54.out
      clear Bq52 Kqqb8_510 X53 hc hg hf hb
      clear hK K
      (try simp only [Act.put, uA, uB, uC])
      refine wpAnyH_ready (rs := [7, 9]) (by kernel_rfl) (by simp) ?_
      refine cons_at (i := 7) rfl (fun K hK => ?_) ?_
      go_simp
      refine (D2.out _ Bq54.out).mono ?_
      rintro e qw55 ⟨s8, A8, n8, c8, rfl, hc, hg, hf, hb⟩
      try dsimp only
      have X55 := Lib.hid hb
      have Gq7_55 := Lib.hid hg
      have HCq7 := Lib.hid hc
      have FRq7 : Hid (Fresh w3 A8 n8) := fun hp ad e => Nat.le_trans Bq54.out.size (hf hp ad e)
      have ap7qb8_51 := Lib.hid (show 0 < n8 → ∀ ad, A8 = some ad → ad.block ≠ qb8_51 from fun hp ad e => by have := hf hp ad e; have := Kqqb8_5154.out.lt; omega)
      have Bq56 := Lib.hid (Bq54.out.trans (X55.out.mono Bq54.out.size))
      have Kqqb8_5156 := Lib.hid (Kqqb8_5154.out.below X55.out Kqqb8_5154.out.lt)
      have Gq3_56 := Lib.hid (Gq3_53.out.past X55.out)
      refine hK.out _ _ ?_ (fun hHeld => ?_)
      · exact Bq56.out
      clear Bq54 Kqqb8_5154 Gq3_53 X55 hc hg hf hb
      clear hK K
      (try simp only [Act.put, uA, uB, uC])
      refine wpAnyH_ready (rs := [9]) (by kernel_rfl) (by simp) ?_
      refine cons_at (i := 9) rfl (fun K hK => ?_) AllReadyH.nil
      go_simp
      obtain ⟨qw57, hw⟩ : ∃ W', W' = qw55.alloc (.cells #[.int .i64 0, .slice none 0 0] 24) := ⟨_, rfl⟩
      obtain ⟨qb9_57, hb⟩ : ∃ b, b = qw55.heap.size := ⟨_, rfl⟩
      have X57 := Lib.hid (bal (Below.refl qw55.heap.size qw55) (o := .cells #[.int .i64 0, .slice none 0 0] 24))
      have Kqqb9_570 := Lib.hid (Blk.new qw55 24 #[.int .i64 0, .slice none 0 0])
      rw [← hw] at X57 Kqqb9_570
      rw [← hb] at Kqqb9_570
      rw [← hw, ← hb]
      have loqb9_57 : w3.heap.size ≤ qb9_57 := by rw [hb]; exact Bq56.out.size
      have neqb8_51qb9_57 : qb8_51 ≠ qb9_57 := by rw [hb]; exact Nat.ne_of_lt Kqqb8_5156.out.lt
      have ap3qb9_57 := Lib.hid (show 0 < n7 → ∀ ad, A7 = some ad → ad.block ≠ qb9_57 from fun hp ad e => by rw [hb]; exact Nat.ne_of_lt (Gq3_56.out.lt hp e))
      have ap7qb9_57 := Lib.hid (show 0 < n8 → ∀ ad, A8 = some ad → ad.block ≠ qb9_57 from fun hp ad e => by rw [hb]; exact Nat.ne_of_lt (Gq7_55.out.lt hp e))
      have Bq58 := Lib.hid (Bq56.out.trans (X57.out.mono Bq56.out.size))
      have Kqqb8_5158 := Lib.hid (Kqqb8_5156.out.below X57.out Kqqb8_5156.out.lt)
      have Gq3_58 := Lib.hid (Gq3_56.out.past X57.out)
      have Gq7_58 := Lib.hid (Gq7_55.out.past X57.out)
      refine hK.out _ _ ?_ (fun hHeld => ?_)
      · exact Bq58.out
      clear Bq56 Kqqb8_5156 Gq3_56 Gq7_55 X57 hw hb
      clear hK K
      (try simp only [Act.put, uA, uB, uC])
      refine wpAnyH_ready (rs := [10]) (by kernel_rfl) (by simp) ?_
      refine cons_at (i := 10) rfl (fun K hK => ?_) AllReadyH.nil
      obtain ⟨f0, f1, f2, f3⟩ := sm_cells Kqqb8_5158.out
      go_simp
      clear f0 f1 f2 f3
      obtain ⟨qw59, hw⟩ : ∃ W', W' = (qw57.setCell ⟨qb8_51, 0, none⟩ (.int .i64 s7)).setCell ⟨qb8_51, 1, none⟩ (.slice A7 n7 c7) := ⟨_, rfl⟩
      rw [← hw]
      have Bq59 := Lib.hid (below_2 Bq58.out loqb8_51 (u := .int .i64 s7) (v := .slice A7 n7 c7))
      rw [← hw] at Bq59
      have Kqqb8_51_59 := Lib.hid (Kqqb8_5158.out.set2 (a := .int .i64 s7) (b := .slice A7 n7 c7))
      rw [← hw] at Kqqb8_51_59
      have Kqqb9_57_59 := Lib.hid (Kqqb9_570.out.far2 (Ne.symm neqb8_51qb9_57) (a := .int .i64 s7) (b := .slice A7 n7 c7))
      rw [← hw] at Kqqb9_57_59
      have Gq3_59 := Lib.hid (Gq3_58.out.far2 ap3qb8_51.out (a := .int .i64 s7) (b := .slice A7 n7 c7))
      rw [← hw] at Gq3_59
      have Gq7_59 := Lib.hid (Gq7_58.out.far2 ap7qb8_51.out (a := .int .i64 s7) (b := .slice A7 n7 c7))
      rw [← hw] at Gq7_59
      refine hK.out _ _ ?_ (fun hHeld => ?_)
      · exact Bq59.out
      clear Bq58 Kqqb8_5158 Kqqb9_570 Gq3_58 Gq7_58 hw
      clear hK K
      (try simp only [Act.put, uA, uB, uC])
      refine wpAnyH_ready (rs := [11]) (by kernel_rfl) (by simp) ?_
      refine cons_at (i := 11) rfl (fun K hK => ?_) AllReadyH.nil
      obtain ⟨f0, f1, f2, f3⟩ := sm_cells Kqqb9_57_59.out
      go_simp
      clear f0 f1 f2 f3
      obtain ⟨qw60, hw⟩ : ∃ W', W' = (qw59.setCell ⟨qb9_57, 0, none⟩ (.int .i64 s8)).setCell ⟨qb9_57, 1, none⟩ (.slice A8 n8 c8) := ⟨_, rfl⟩
      rw [← hw]
      have Bq60 := Lib.hid (below_2 Bq59.out loqb9_57 (u := .int .i64 s8) (v := .slice A8 n8 c8))
      rw [← hw] at Bq60
      have Kqqb8_51_60 := Lib.hid (Kqqb8_51_59.out.far2 neqb8_51qb9_57 (a := .int .i64 s8) (b := .slice A8 n8 c8))
      rw [← hw] at Kqqb8_51_60
      have Kqqb9_57_60 := Lib.hid (Kqqb9_57_59.out.set2 (a := .int .i64 s8) (b := .slice A8 n8 c8))
      rw [← hw] at Kqqb9_57_60
      have Gq3_60 := Lib.hid (Gq3_59.out.far2 ap3qb9_57.out (a := .int .i64 s8) (b := .slice A8 n8 c8))
      rw [← hw] at Gq3_60
      have Gq7_60 := Lib.hid (Gq7_59.out.far2 ap7qb9_57.out (a := .int .i64 s8) (b := .slice A8 n8 c8))
      rw [← hw] at Gq7_60
      refine hK.out _ _ ?_ (fun hHeld => ?_)
      · exact Bq60.out
      clear Bq59 Kqqb8_51_59 Kqqb9_57_59 Gq3_59 Gq7_59 hw
      clear hK K
      (try simp only [Act.put, uA, uB, uC])
      refine wpAnyH_done (by kernel_rfl) ?_ _
      go_wp2_with fail
      go_meet
      exact ⟨qb8_51, qb9_57, rfl, rfl, (show TwoR _ _ _ _ _ _ _ _ from ⟨_, _, _, _, _, _, _, _, ⟨Kqqb8_51_60.out, loqb8_51, Gq3_60.out, HCq3.out, FRq3.out⟩, ⟨Kqqb9_57_60.out, loqb9_57, Gq7_60.out, HCq7.out, FRq7.out⟩, Bq60.out⟩)⟩
      refine cons_at (i := 9) rfl (fun K hK => ?_) AllReadyH.nil
      go_simp
      obtain ⟨qw61, hw⟩ : ∃ W', W' = qw53.alloc (.cells #[.int .i64 0, .slice none 0 0] 24) := ⟨_, rfl⟩
      obtain ⟨qb9_61, hb⟩ : ∃ b, b = qw53.heap.size := ⟨_, rfl⟩
      have X61 := Lib.hid (bal (Below.refl qw53.heap.size qw53) (o := .cells #[.int .i64 0, .slice none 0 0] 24))
      have Kqqb9_610 := Lib.hid (Blk.new qw53 24 #[.int .i64 0, .slice none 0 0])
      rw [← hw] at X61 Kqqb9_610
      rw [← hb] at Kqqb9_610
      rw [← hw, ← hb]
      have loqb9_61 : w3.heap.size ≤ qb9_61 := by rw [hb]; exact Bq54.out.size
      have neqb8_51qb9_61 : qb8_51 ≠ qb9_61 := by rw [hb]; exact Nat.ne_of_lt Kqqb8_5154.out.lt
      have ap3qb9_61 := Lib.hid (show 0 < n7 → ∀ ad, A7 = some ad → ad.block ≠ qb9_61 from fun hp ad e => by rw [hb]; exact Nat.ne_of_lt (Gq3_53.out.lt hp e))
      have Bq62 := Lib.hid (Bq54.out.trans (X61.out.mono Bq54.out.size))
      have Kqqb8_5162 := Lib.hid (Kqqb8_5154.out.below X61.out Kqqb8_5154.out.lt)
      have Gq3_62 := Lib.hid (Gq3_53.out.past X61.out)
      refine hK.out _ _ ?_ (fun hHeld => ?_)
      · exact Bq62.out
      clear Bq54 Kqqb8_5154 Gq3_53 X61 hw hb
      clear hK K
      (try simp only [Act.put, uA, uB, uC])
      refine wpAnyH_ready (rs := [7]) (by kernel_rfl) (by simp) ?_
      refine cons_at (i := 7) rfl (fun K hK => ?_) AllReadyH.nil
      go_simp
      refine (D2.out _ Bq62.out).mono ?_
      rintro e qw63 ⟨s8, A8, n8, c8, rfl, hc, hg, hf, hb⟩
      try dsimp only
      have X63 := Lib.hid hb
      have Gq7_63 := Lib.hid hg
      have HCq7 := Lib.hid hc
      have FRq7 : Hid (Fresh w3 A8 n8) := fun hp ad e => Nat.le_trans Bq62.out.size (hf hp ad e)
      have ap7qb8_51 := Lib.hid (show 0 < n8 → ∀ ad, A8 = some ad → ad.block ≠ qb8_51 from fun hp ad e => by have := hf hp ad e; have := Kqqb8_5162.out.lt; omega)
      have ap7qb9_61 := Lib.hid (show 0 < n8 → ∀ ad, A8 = some ad → ad.block ≠ qb9_61 from fun hp ad e => by have := hf hp ad e; have := Kqqb9_610.out.lt; omega)
      have Bq64 := Lib.hid (Bq62.out.trans (X63.out.mono Bq62.out.size))
      have Kqqb8_5164 := Lib.hid (Kqqb8_5162.out.below X63.out Kqqb8_5162.out.lt)
      have Kqqb9_6164 := Lib.hid (Kqqb9_610.out.below X63.out Kqqb9_610.out.lt)
      have Gq3_64 := Lib.hid (Gq3_62.out.past X63.out)
      refine hK.out _ _ ?_ (fun hHeld => ?_)
      · exact Bq64.out
      clear Bq62 Kqqb8_5162 Kqqb9_610 Gq3_62 X63 hc hg hf hb
      clear hK K
      (try simp only [Act.put, uA, uB, uC])
      refine wpAnyH_ready (rs := [10]) (by kernel_rfl) (by simp) ?_
      refine cons_at (i := 10) rfl (fun K hK => ?_) AllReadyH.nil
      obtain ⟨f0, f1, f2, f3⟩ := sm_cells Kqqb8_5164.out
      go_simp
      clear f0 f1 f2 f3
      obtain ⟨qw65, hw⟩ : ∃ W', W' = (qw63.setCell ⟨qb8_51, 0, none⟩ (.int .i64 s7)).setCell ⟨qb8_51, 1, none⟩ (.slice A7 n7 c7) := ⟨_, rfl⟩
      rw [← hw]
      have Bq65 := Lib.hid (below_2 Bq64.out loqb8_51 (u := .int .i64 s7) (v := .slice A7 n7 c7))
      rw [← hw] at Bq65
      have Kqqb8_51_65 := Lib.hid (Kqqb8_5164.out.set2 (a := .int .i64 s7) (b := .slice A7 n7 c7))
      rw [← hw] at Kqqb8_51_65
      have Kqqb9_61_65 := Lib.hid (Kqqb9_6164.out.far2 (Ne.symm neqb8_51qb9_61) (a := .int .i64 s7) (b := .slice A7 n7 c7))
      rw [← hw] at Kqqb9_61_65
      have Gq3_65 := Lib.hid (Gq3_64.out.far2 ap3qb8_51.out (a := .int .i64 s7) (b := .slice A7 n7 c7))
      rw [← hw] at Gq3_65
      have Gq7_65 := Lib.hid (Gq7_63.out.far2 ap7qb8_51.out (a := .int .i64 s7) (b := .slice A7 n7 c7))
      rw [← hw] at Gq7_65
      refine hK.out _ _ ?_ (fun hHeld => ?_)
      · exact Bq65.out
      clear Bq64 Kqqb8_5164 Kqqb9_6164 Gq3_64 Gq7_63 hw
      clear hK K
      (try simp only [Act.put, uA, uB, uC])
      refine wpAnyH_ready (rs := [11]) (by kernel_rfl) (by simp) ?_
      refine cons_at (i := 11) rfl (fun K hK => ?_) AllReadyH.nil
      obtain ⟨f0, f1, f2, f3⟩ := sm_cells Kqqb9_61_65.out
      go_simp
      clear f0 f1 f2 f3
      obtain ⟨qw66, hw⟩ : ∃ W', W' = (qw65.setCell ⟨qb9_61, 0, none⟩ (.int .i64 s8)).setCell ⟨qb9_61, 1, none⟩ (.slice A8 n8 c8) := ⟨_, rfl⟩
      rw [← hw]
      have Bq66 := Lib.hid (below_2 Bq65.out loqb9_61 (u := .int .i64 s8) (v := .slice A8 n8 c8))
      rw [← hw] at Bq66
      have Kqqb8_51_66 := Lib.hid (Kqqb8_51_65.out.far2 neqb8_51qb9_61 (a := .int .i64 s8) (b := .slice A8 n8 c8))
      rw [← hw] at Kqqb8_51_66
      have Kqqb9_61_66 := Lib.hid (Kqqb9_61_65.out.set2 (a := .int .i64 s8) (b := .slice A8 n8 c8))
      rw [← hw] at Kqqb9_61_66
      have Gq3_66 := Lib.hid (Gq3_65.out.far2 ap3qb9_61.out (a := .int .i64 s8) (b := .slice A8 n8 c8))
      rw [← hw] at Gq3_66
      have Gq7_66 := Lib.hid (Gq7_65.out.far2 ap7qb9_61.out (a := .int .i64 s8) (b := .slice A8 n8 c8))
      rw [← hw] at Gq7_66
      refine hK.out _ _ ?_ (fun hHeld => ?_)
      · exact Bq66.out
      clear Bq65 Kqqb8_51_65 Kqqb9_61_65 Gq3_65 Gq7_65 hw
      clear hK K
      (try simp only [Act.put, uA, uB, uC])
      refine wpAnyH_done (by kernel_rfl) ?_ _
      go_wp2_with fail
      go_meet
      exact ⟨qb8_51, qb9_61, rfl, rfl, (show TwoR _ _ _ _ _ _ _ _ from ⟨_, _, _, _, _, _, _, _, ⟨Kqqb8_51_66.out, loqb8_51, Gq3_66.out, HCq3.out, FRq3.out⟩, ⟨Kqqb9_61_66.out, loqb9_61, Gq7_66.out, HCq7.out, FRq7.out⟩, Bq66.out⟩)⟩
      refine cons_at (i := 9) rfl (fun K hK => ?_) AllReadyH.nil
      go_simp
      obtain ⟨qw67, hw⟩ : ∃ W', W' = qw51.alloc (.cells #[.int .i64 0, .slice none 0 0] 24) := ⟨_, rfl⟩
      obtain ⟨qb9_67, hb⟩ : ∃ b, b = qw51.heap.size := ⟨_, rfl⟩
      have X67 := Lib.hid (bal (Below.refl qw51.heap.size qw51) (o := .cells #[.int .i64 0, .slice none 0 0] 24))
      have Kqqb9_670 := Lib.hid (Blk.new qw51 24 #[.int .i64 0, .slice none 0 0])
      rw [← hw] at X67 Kqqb9_670
      rw [← hb] at Kqqb9_670
      rw [← hw, ← hb]
      have loqb9_67 : w3.heap.size ≤ qb9_67 := by rw [hb]; exact Bq52.out.size
      have neqb8_51qb9_67 : qb8_51 ≠ qb9_67 := by rw [hb]; exact Nat.ne_of_lt Kqqb8_510.out.lt
      have Bq68 := Lib.hid (Bq52.out.trans (X67.out.mono Bq52.out.size))
      have Kqqb8_5168 := Lib.hid (Kqqb8_510.out.below X67.out Kqqb8_510.out.lt)
      refine hK.out _ _ ?_ (fun hHeld => ?_)
      · exact Bq68.out
      clear Bq52 Kqqb8_510 X67 hw hb
      clear hK K
      (try simp only [Act.put, uA, uB, uC])
      refine wpAnyH_ready (rs := [3]) (by kernel_rfl) (by simp) ?_
      refine cons_at (i := 3) rfl (fun K hK => ?_) AllReadyH.nil
      go_simp
      refine (D1.out _ Bq68.out).mono ?_
      rintro e qw69 ⟨s7, A7, n7, c7, rfl, hc, hg, hf, hb⟩
      try dsimp only
      have X69 := Lib.hid hb
      have Gq3_69 := Lib.hid hg
      have HCq3 := Lib.hid hc
      have FRq3 : Hid (Fresh w3 A7 n7) := fun hp ad e => Nat.le_trans Bq68.out.size (hf hp ad e)
      have ap3qb8_51 := Lib.hid (show 0 < n7 → ∀ ad, A7 = some ad → ad.block ≠ qb8_51 from fun hp ad e => by have := hf hp ad e; have := Kqqb8_5168.out.lt; omega)
      have ap3qb9_67 := Lib.hid (show 0 < n7 → ∀ ad, A7 = some ad → ad.block ≠ qb9_67 from fun hp ad e => by have := hf hp ad e; have := Kqqb9_670.out.lt; omega)
      have Bq70 := Lib.hid (Bq68.out.trans (X69.out.mono Bq68.out.size))
      have Kqqb8_5170 := Lib.hid (Kqqb8_5168.out.below X69.out Kqqb8_5168.out.lt)
      have Kqqb9_6770 := Lib.hid (Kqqb9_670.out.below X69.out Kqqb9_670.out.lt)
      refine hK.out _ _ ?_ (fun hHeld => ?_)
      · exact Bq70.out
      clear Bq68 Kqqb8_5168 Kqqb9_670 X69 hc hg hf hb
      clear hK K
      (try simp only [Act.put, uA, uB, uC])
      refine wpAnyH_ready (rs := [7]) (by kernel_rfl) (by simp) ?_
      refine cons_at (i := 7) rfl (fun K hK => ?_) AllReadyH.nil
      go_simp
      refine (D2.out _ Bq70.out).mono ?_
      rintro e qw71 ⟨s8, A8, n8, c8, rfl, hc, hg, hf, hb⟩
      try dsimp only
      have X71 := Lib.hid hb
      have Gq7_71 := Lib.hid hg
      have HCq7 := Lib.hid hc
      have FRq7 : Hid (Fresh w3 A8 n8) := fun hp ad e => Nat.le_trans Bq70.out.size (hf hp ad e)
      have ap7qb8_51 := Lib.hid (show 0 < n8 → ∀ ad, A8 = some ad → ad.block ≠ qb8_51 from fun hp ad e => by have := hf hp ad e; have := Kqqb8_5170.out.lt; omega)
      have ap7qb9_67 := Lib.hid (show 0 < n8 → ∀ ad, A8 = some ad → ad.block ≠ qb9_67 from fun hp ad e => by have := hf hp ad e; have := Kqqb9_6770.out.lt; omega)
      have Bq72 := Lib.hid (Bq70.out.trans (X71.out.mono Bq70.out.size))
      have Kqqb8_5172 := Lib.hid (Kqqb8_5170.out.below X71.out Kqqb8_5170.out.lt)
      have Kqqb9_6772 := Lib.hid (Kqqb9_6770.out.below X71.out Kqqb9_6770.out.lt)
      have Gq3_72 := Lib.hid (Gq3_69.out.past X71.out)
      refine hK.out _ _ ?_ (fun hHeld => ?_)
      · exact Bq72.out
      clear Bq70 Kqqb8_5170 Kqqb9_6770 Gq3_69 X71 hc hg hf hb
      clear hK K
      (try simp only [Act.put, uA, uB, uC])
      refine wpAnyH_ready (rs := [10]) (by kernel_rfl) (by simp) ?_
      refine cons_at (i := 10) rfl (fun K hK => ?_) AllReadyH.nil
      obtain ⟨f0, f1, f2, f3⟩ := sm_cells Kqqb8_5172.out
      go_simp
      clear f0 f1 f2 f3
      obtain ⟨qw73, hw⟩ : ∃ W', W' = (qw71.setCell ⟨qb8_51, 0, none⟩ (.int .i64 s7)).setCell ⟨qb8_51, 1, none⟩ (.slice A7 n7 c7) := ⟨_, rfl⟩
      rw [← hw]
      have Bq73 := Lib.hid (below_2 Bq72.out loqb8_51 (u := .int .i64 s7) (v := .slice A7 n7 c7))
      rw [← hw] at Bq73
      have Kqqb8_51_73 := Lib.hid (Kqqb8_5172.out.set2 (a := .int .i64 s7) (b := .slice A7 n7 c7))
      rw [← hw] at Kqqb8_51_73
      have Kqqb9_67_73 := Lib.hid (Kqqb9_6772.out.far2 (Ne.symm neqb8_51qb9_67) (a := .int .i64 s7) (b := .slice A7 n7 c7))
      rw [← hw] at Kqqb9_67_73
      have Gq3_73 := Lib.hid (Gq3_72.out.far2 ap3qb8_51.out (a := .int .i64 s7) (b := .slice A7 n7 c7))
      rw [← hw] at Gq3_73
      have Gq7_73 := Lib.hid (Gq7_71.out.far2 ap7qb8_51.out (a := .int .i64 s7) (b := .slice A7 n7 c7))
      rw [← hw] at Gq7_73
      refine hK.out _ _ ?_ (fun hHeld => ?_)
      · exact Bq73.out
      clear Bq72 Kqqb8_5172 Kqqb9_6772 Gq3_72 Gq7_71 hw
      clear hK K
      (try simp only [Act.put, uA, uB, uC])
      refine wpAnyH_ready (rs := [11]) (by kernel_rfl) (by simp) ?_
      refine cons_at (i := 11) rfl (fun K hK => ?_) AllReadyH.nil
      obtain ⟨f0, f1, f2, f3⟩ := sm_cells Kqqb9_67_73.out
      go_simp
      clear f0 f1 f2 f3
      obtain ⟨qw74, hw⟩ : ∃ W', W' = (qw73.setCell ⟨qb9_67, 0, none⟩ (.int .i64 s8)).setCell ⟨qb9_67, 1, none⟩ (.slice A8 n8 c8) := ⟨_, rfl⟩
      rw [← hw]
      have Bq74 := Lib.hid (below_2 Bq73.out loqb9_67 (u := .int .i64 s8) (v := .slice A8 n8 c8))
      rw [← hw] at Bq74
      have Kqqb8_51_74 := Lib.hid (Kqqb8_51_73.out.far2 neqb8_51qb9_67 (a := .int .i64 s8) (b := .slice A8 n8 c8))
      rw [← hw] at Kqqb8_51_74
      have Kqqb9_67_74 := Lib.hid (Kqqb9_67_73.out.set2 (a := .int .i64 s8) (b := .slice A8 n8 c8))
      rw [← hw] at Kqqb9_67_74
      have Gq3_74 := Lib.hid (Gq3_73.out.far2 ap3qb9_67.out (a := .int .i64 s8) (b := .slice A8 n8 c8))
      rw [← hw] at Gq3_74
      have Gq7_74 := Lib.hid (Gq7_73.out.far2 ap7qb9_67.out (a := .int .i64 s8) (b := .slice A8 n8 c8))
      rw [← hw] at Gq7_74
      refine hK.out _ _ ?_ (fun hHeld => ?_)
      · exact Bq74.out
      clear Bq73 Kqqb8_51_73 Kqqb9_67_73 Gq3_73 Gq7_73 hw
      clear hK K
      (try simp only [Act.put, uA, uB, uC])
      refine wpAnyH_done (by kernel_rfl) ?_ _
      go_wp2_with fail
      go_meet
      exact ⟨qb8_51, qb9_67, rfl, rfl, (show TwoR _ _ _ _ _ _ _ _ from ⟨_, _, _, _, _, _, _, _, ⟨Kqqb8_51_74.out, loqb8_51, Gq3_74.out, HCq3.out, FRq3.out⟩, ⟨Kqqb9_67_74.out, loqb9_67, Gq7_74.out, HCq7.out, FRq7.out⟩, Bq74.out⟩)⟩
      refine cons_at (i := 9) rfl (fun K hK => ?_) AllReadyH.nil
      go_simp
      obtain ⟨qw75, hw⟩ : ∃ W', W' = qw0.alloc (.cells #[.int .i64 0, .slice none 0 0] 24) := ⟨_, rfl⟩
      obtain ⟨qb9_75, hb⟩ : ∃ b, b = qw0.heap.size := ⟨_, rfl⟩
      have X75 := Lib.hid (bal (Below.refl qw0.heap.size qw0) (o := .cells #[.int .i64 0, .slice none 0 0] 24))
      have Kqqb9_750 := Lib.hid (Blk.new qw0 24 #[.int .i64 0, .slice none 0 0])
      rw [← hw] at X75 Kqqb9_750
      rw [← hb] at Kqqb9_750
      rw [← hw, ← hb]
      have loqb9_75 : w3.heap.size ≤ qb9_75 := by rw [hb]; exact Bq0.out.size
      have Bq76 := Lib.hid (Bq0.out.trans (X75.out.mono Bq0.out.size))
      refine hK.out _ _ ?_ (fun hHeld => ?_)
      · exact Bq76.out
      clear Bq0 X75 hw hb
      clear hK K
      (try simp only [Act.put, uA, uB, uC])
      refine wpAnyH_ready (rs := [3, 8]) (by kernel_rfl) (by simp) ?_
      refine cons_at (i := 3) rfl (fun K hK => ?_) ?_
      go_simp
      refine (D1.out _ Bq76.out).mono ?_
      rintro e qw77 ⟨s7, A7, n7, c7, rfl, hc, hg, hf, hb⟩
      try dsimp only
      have X77 := Lib.hid hb
      have Gq3_77 := Lib.hid hg
      have HCq3 := Lib.hid hc
      have FRq3 : Hid (Fresh w3 A7 n7) := fun hp ad e => Nat.le_trans Bq76.out.size (hf hp ad e)
      have ap3qb9_75 := Lib.hid (show 0 < n7 → ∀ ad, A7 = some ad → ad.block ≠ qb9_75 from fun hp ad e => by have := hf hp ad e; have := Kqqb9_750.out.lt; omega)
      have Bq78 := Lib.hid (Bq76.out.trans (X77.out.mono Bq76.out.size))
      have Kqqb9_7578 := Lib.hid (Kqqb9_750.out.below X77.out Kqqb9_750.out.lt)
      refine hK.out _ _ ?_ (fun hHeld => ?_)
      · exact Bq78.out
      clear Bq76 Kqqb9_750 X77 hc hg hf hb
      clear hK K
      (try simp only [Act.put, uA, uB, uC])
      refine wpAnyH_ready (rs := [7, 8]) (by kernel_rfl) (by simp) ?_
      refine cons_at (i := 7) rfl (fun K hK => ?_) ?_
      go_simp
      refine (D2.out _ Bq78.out).mono ?_
      rintro e qw79 ⟨s8, A8, n8, c8, rfl, hc, hg, hf, hb⟩
      try dsimp only
      have X79 := Lib.hid hb
      have Gq7_79 := Lib.hid hg
      have HCq7 := Lib.hid hc
      have FRq7 : Hid (Fresh w3 A8 n8) := fun hp ad e => Nat.le_trans Bq78.out.size (hf hp ad e)
      have ap7qb9_75 := Lib.hid (show 0 < n8 → ∀ ad, A8 = some ad → ad.block ≠ qb9_75 from fun hp ad e => by have := hf hp ad e; have := Kqqb9_7578.out.lt; omega)
      have Bq80 := Lib.hid (Bq78.out.trans (X79.out.mono Bq78.out.size))
      have Kqqb9_7580 := Lib.hid (Kqqb9_7578.out.below X79.out Kqqb9_7578.out.lt)
      have Gq3_80 := Lib.hid (Gq3_77.out.past X79.out)
      refine hK.out _ _ ?_ (fun hHeld => ?_)
      · exact Bq80.out
      clear Bq78 Kqqb9_7578 Gq3_77 X79 hc hg hf hb
      clear hK K
      (try simp only [Act.put, uA, uB, uC])
      refine wpAnyH_ready (rs := [8]) (by kernel_rfl) (by simp) ?_
      refine cons_at (i := 8) rfl (fun K hK => ?_) AllReadyH.nil
      go_simp
      obtain ⟨qw81, hw⟩ : ∃ W', W' = qw79.alloc (.cells #[.int .i64 0, .slice none 0 0] 24) := ⟨_, rfl⟩
      obtain ⟨qb8_81, hb⟩ : ∃ b, b = qw79.heap.size := ⟨_, rfl⟩
      have X81 := Lib.hid (bal (Below.refl qw79.heap.size qw79) (o := .cells #[.int .i64 0, .slice none 0 0] 24))
      have Kqqb8_810 := Lib.hid (Blk.new qw79 24 #[.int .i64 0, .slice none 0 0])
      rw [← hw] at X81 Kqqb8_810
      rw [← hb] at Kqqb8_810
      rw [← hw, ← hb]
      have loqb8_81 : w3.heap.size ≤ qb8_81 := by rw [hb]; exact Bq80.out.size
      have neqb9_75qb8_81 : qb9_75 ≠ qb8_81 := by rw [hb]; exact Nat.ne_of_lt Kqqb9_7580.out.lt
      have ap3qb8_81 := Lib.hid (show 0 < n7 → ∀ ad, A7 = some ad → ad.block ≠ qb8_81 from fun hp ad e => by rw [hb]; exact Nat.ne_of_lt (Gq3_80.out.lt hp e))
      have ap7qb8_81 := Lib.hid (show 0 < n8 → ∀ ad, A8 = some ad → ad.block ≠ qb8_81 from fun hp ad e => by rw [hb]; exact Nat.ne_of_lt (Gq7_79.out.lt hp e))
      have Bq82 := Lib.hid (Bq80.out.trans (X81.out.mono Bq80.out.size))
      have Kqqb9_7582 := Lib.hid (Kqqb9_7580.out.below X81.out Kqqb9_7580.out.lt)
      have Gq3_82 := Lib.hid (Gq3_80.out.past X81.out)
      have Gq7_82 := Lib.hid (Gq7_79.out.past X81.out)
      refine hK.out _ _ ?_ (fun hHeld => ?_)
      · exact Bq82.out
      clear Bq80 Kqqb9_7580 Gq3_80 Gq7_79 X81 hw hb
      clear hK K
      (try simp only [Act.put, uA, uB, uC])
      refine wpAnyH_ready (rs := [10]) (by kernel_rfl) (by simp) ?_
      refine cons_at (i := 10) rfl (fun K hK => ?_) AllReadyH.nil
      obtain ⟨f0, f1, f2, f3⟩ := sm_cells Kqqb8_810.out
      go_simp
      clear f0 f1 f2 f3
      obtain ⟨qw83, hw⟩ : ∃ W', W' = (qw81.setCell ⟨qb8_81, 0, none⟩ (.int .i64 s7)).setCell ⟨qb8_81, 1, none⟩ (.slice A7 n7 c7) := ⟨_, rfl⟩
      rw [← hw]
      have Bq83 := Lib.hid (below_2 Bq82.out loqb8_81 (u := .int .i64 s7) (v := .slice A7 n7 c7))
      rw [← hw] at Bq83
      have Kqqb9_75_83 := Lib.hid (Kqqb9_7582.out.far2 neqb9_75qb8_81 (a := .int .i64 s7) (b := .slice A7 n7 c7))
      rw [← hw] at Kqqb9_75_83
      have Kqqb8_81_83 := Lib.hid (Kqqb8_810.out.set2 (a := .int .i64 s7) (b := .slice A7 n7 c7))
      rw [← hw] at Kqqb8_81_83
      have Gq3_83 := Lib.hid (Gq3_82.out.far2 ap3qb8_81.out (a := .int .i64 s7) (b := .slice A7 n7 c7))
      rw [← hw] at Gq3_83
      have Gq7_83 := Lib.hid (Gq7_82.out.far2 ap7qb8_81.out (a := .int .i64 s7) (b := .slice A7 n7 c7))
      rw [← hw] at Gq7_83
      refine hK.out _ _ ?_ (fun hHeld => ?_)
      · exact Bq83.out
      clear Bq82 Kqqb9_7582 Kqqb8_810 Gq3_82 Gq7_82 hw
      clear hK K
      (try simp only [Act.put, uA, uB, uC])
      refine wpAnyH_ready (rs := [11]) (by kernel_rfl) (by simp) ?_
      refine cons_at (i := 11) rfl (fun K hK => ?_) AllReadyH.nil
      obtain ⟨f0, f1, f2, f3⟩ := sm_cells Kqqb9_75_83.out
      go_simp
      clear f0 f1 f2 f3
      obtain ⟨qw84, hw⟩ : ∃ W', W' = (qw83.setCell ⟨qb9_75, 0, none⟩ (.int .i64 s8)).setCell ⟨qb9_75, 1, none⟩ (.slice A8 n8 c8) := ⟨_, rfl⟩
      rw [← hw]
      have Bq84 := Lib.hid (below_2 Bq83.out loqb9_75 (u := .int .i64 s8) (v := .slice A8 n8 c8))
      rw [← hw] at Bq84
      have Kqqb9_75_84 := Lib.hid (Kqqb9_75_83.out.set2 (a := .int .i64 s8) (b := .slice A8 n8 c8))
      rw [← hw] at Kqqb9_75_84
      have Kqqb8_81_84 := Lib.hid (Kqqb8_81_83.out.far2 (Ne.symm neqb9_75qb8_81) (a := .int .i64 s8) (b := .slice A8 n8 c8))
      rw [← hw] at Kqqb8_81_84
      have Gq3_84 := Lib.hid (Gq3_83.out.far2 ap3qb9_75.out (a := .int .i64 s8) (b := .slice A8 n8 c8))
      rw [← hw] at Gq3_84
      have Gq7_84 := Lib.hid (Gq7_83.out.far2 ap7qb9_75.out (a := .int .i64 s8) (b := .slice A8 n8 c8))
      rw [← hw] at Gq7_84
      refine hK.out _ _ ?_ (fun hHeld => ?_)
      · exact Bq84.out
      clear Bq83 Kqqb9_75_83 Kqqb8_81_83 Gq3_83 Gq7_83 hw
      clear hK K
      (try simp only [Act.put, uA, uB, uC])
      refine wpAnyH_done (by kernel_rfl) ?_ _
      go_wp2_with fail
      go_meet
      exact ⟨qb8_81, qb9_75, rfl, rfl, (show TwoR _ _ _ _ _ _ _ _ from ⟨_, _, _, _, _, _, _, _, ⟨Kqqb8_81_84.out, loqb8_81, Gq3_84.out, HCq3.out, FRq3.out⟩, ⟨Kqqb9_75_84.out, loqb9_75, Gq7_84.out, HCq7.out, FRq7.out⟩, Bq84.out⟩)⟩
      refine cons_at (i := 8) rfl (fun K hK => ?_) AllReadyH.nil
      go_simp
      obtain ⟨qw85, hw⟩ : ∃ W', W' = qw77.alloc (.cells #[.int .i64 0, .slice none 0 0] 24) := ⟨_, rfl⟩
      obtain ⟨qb8_85, hb⟩ : ∃ b, b = qw77.heap.size := ⟨_, rfl⟩
      have X85 := Lib.hid (bal (Below.refl qw77.heap.size qw77) (o := .cells #[.int .i64 0, .slice none 0 0] 24))
      have Kqqb8_850 := Lib.hid (Blk.new qw77 24 #[.int .i64 0, .slice none 0 0])
      rw [← hw] at X85 Kqqb8_850
      rw [← hb] at Kqqb8_850
      rw [← hw, ← hb]
      have loqb8_85 : w3.heap.size ≤ qb8_85 := by rw [hb]; exact Bq78.out.size
      have neqb9_75qb8_85 : qb9_75 ≠ qb8_85 := by rw [hb]; exact Nat.ne_of_lt Kqqb9_7578.out.lt
      have ap3qb8_85 := Lib.hid (show 0 < n7 → ∀ ad, A7 = some ad → ad.block ≠ qb8_85 from fun hp ad e => by rw [hb]; exact Nat.ne_of_lt (Gq3_77.out.lt hp e))
      have Bq86 := Lib.hid (Bq78.out.trans (X85.out.mono Bq78.out.size))
      have Kqqb9_7586 := Lib.hid (Kqqb9_7578.out.below X85.out Kqqb9_7578.out.lt)
      have Gq3_86 := Lib.hid (Gq3_77.out.past X85.out)
      refine hK.out _ _ ?_ (fun hHeld => ?_)
      · exact Bq86.out
      clear Bq78 Kqqb9_7578 Gq3_77 X85 hw hb
      clear hK K
      (try simp only [Act.put, uA, uB, uC])
      refine wpAnyH_ready (rs := [7]) (by kernel_rfl) (by simp) ?_
      refine cons_at (i := 7) rfl (fun K hK => ?_) AllReadyH.nil
      go_simp
      refine (D2.out _ Bq86.out).mono ?_
      rintro e qw87 ⟨s8, A8, n8, c8, rfl, hc, hg, hf, hb⟩
      try dsimp only
      have X87 := Lib.hid hb
      have Gq7_87 := Lib.hid hg
      have HCq7 := Lib.hid hc
      have FRq7 : Hid (Fresh w3 A8 n8) := fun hp ad e => Nat.le_trans Bq86.out.size (hf hp ad e)
      have ap7qb9_75 := Lib.hid (show 0 < n8 → ∀ ad, A8 = some ad → ad.block ≠ qb9_75 from fun hp ad e => by have := hf hp ad e; have := Kqqb9_7586.out.lt; omega)
      have ap7qb8_85 := Lib.hid (show 0 < n8 → ∀ ad, A8 = some ad → ad.block ≠ qb8_85 from fun hp ad e => by have := hf hp ad e; have := Kqqb8_850.out.lt; omega)
      have Bq88 := Lib.hid (Bq86.out.trans (X87.out.mono Bq86.out.size))
      have Kqqb9_7588 := Lib.hid (Kqqb9_7586.out.below X87.out Kqqb9_7586.out.lt)
      have Kqqb8_8588 := Lib.hid (Kqqb8_850.out.below X87.out Kqqb8_850.out.lt)
      have Gq3_88 := Lib.hid (Gq3_86.out.past X87.out)
      refine hK.out _ _ ?_ (fun hHeld => ?_)
      · exact Bq88.out
      clear Bq86 Kqqb9_7586 Kqqb8_850 Gq3_86 X87 hc hg hf hb
      clear hK K
      (try simp only [Act.put, uA, uB, uC])
      refine wpAnyH_ready (rs := [10]) (by kernel_rfl) (by simp) ?_
      refine cons_at (i := 10) rfl (fun K hK => ?_) AllReadyH.nil
      obtain ⟨f0, f1, f2, f3⟩ := sm_cells Kqqb8_8588.out
      go_simp
      clear f0 f1 f2 f3
      obtain ⟨qw89, hw⟩ : ∃ W', W' = (qw87.setCell ⟨qb8_85, 0, none⟩ (.int .i64 s7)).setCell ⟨qb8_85, 1, none⟩ (.slice A7 n7 c7) := ⟨_, rfl⟩
      rw [← hw]
      have Bq89 := Lib.hid (below_2 Bq88.out loqb8_85 (u := .int .i64 s7) (v := .slice A7 n7 c7))
      rw [← hw] at Bq89
      have Kqqb9_75_89 := Lib.hid (Kqqb9_7588.out.far2 neqb9_75qb8_85 (a := .int .i64 s7) (b := .slice A7 n7 c7))
      rw [← hw] at Kqqb9_75_89
      have Kqqb8_85_89 := Lib.hid (Kqqb8_8588.out.set2 (a := .int .i64 s7) (b := .slice A7 n7 c7))
      rw [← hw] at Kqqb8_85_89
      have Gq3_89 := Lib.hid (Gq3_88.out.far2 ap3qb8_85.out (a := .int .i64 s7) (b := .slice A7 n7 c7))
      rw [← hw] at Gq3_89
      have Gq7_89 := Lib.hid (Gq7_87.out.far2 ap7qb8_85.out (a := .int .i64 s7) (b := .slice A7 n7 c7))
      rw [← hw] at Gq7_89
      refine hK.out _ _ ?_ (fun hHeld => ?_)
      · exact Bq89.out
      clear Bq88 Kqqb9_7588 Kqqb8_8588 Gq3_88 Gq7_87 hw
      clear hK K
      (try simp only [Act.put, uA, uB, uC])
      refine wpAnyH_ready (rs := [11]) (by kernel_rfl) (by simp) ?_
      refine cons_at (i := 11) rfl (fun K hK => ?_) AllReadyH.nil
      obtain ⟨f0, f1, f2, f3⟩ := sm_cells Kqqb9_75_89.out
      go_simp
      clear f0 f1 f2 f3
      obtain ⟨qw90, hw⟩ : ∃ W', W' = (qw89.setCell ⟨qb9_75, 0, none⟩ (.int .i64 s8)).setCell ⟨qb9_75, 1, none⟩ (.slice A8 n8 c8) := ⟨_, rfl⟩
      rw [← hw]
      have Bq90 := Lib.hid (below_2 Bq89.out loqb9_75 (u := .int .i64 s8) (v := .slice A8 n8 c8))
      rw [← hw] at Bq90
      have Kqqb9_75_90 := Lib.hid (Kqqb9_75_89.out.set2 (a := .int .i64 s8) (b := .slice A8 n8 c8))
      rw [← hw] at Kqqb9_75_90
      have Kqqb8_85_90 := Lib.hid (Kqqb8_85_89.out.far2 (Ne.symm neqb9_75qb8_85) (a := .int .i64 s8) (b := .slice A8 n8 c8))
      rw [← hw] at Kqqb8_85_90
      have Gq3_90 := Lib.hid (Gq3_89.out.far2 ap3qb9_75.out (a := .int .i64 s8) (b := .slice A8 n8 c8))
      rw [← hw] at Gq3_90
      have Gq7_90 := Lib.hid (Gq7_89.out.far2 ap7qb9_75.out (a := .int .i64 s8) (b := .slice A8 n8 c8))
      rw [← hw] at Gq7_90
      refine hK.out _ _ ?_ (fun hHeld => ?_)
      · exact Bq90.out
      clear Bq89 Kqqb9_75_89 Kqqb8_85_89 Gq3_89 Gq7_89 hw
      clear hK K
      (try simp only [Act.put, uA, uB, uC])
      refine wpAnyH_done (by kernel_rfl) ?_ _
      go_wp2_with fail
      go_meet
      exact ⟨qb8_85, qb9_75, rfl, rfl, (show TwoR _ _ _ _ _ _ _ _ from ⟨_, _, _, _, _, _, _, _, ⟨Kqqb8_85_90.out, loqb8_85, Gq3_90.out, HCq3.out, FRq3.out⟩, ⟨Kqqb9_75_90.out, loqb9_75, Gq7_90.out, HCq7.out, FRq7.out⟩, Bq90.out⟩)⟩
      refine cons_at (i := 8) rfl (fun K hK => ?_) AllReadyH.nil
      go_simp
      obtain ⟨qw91, hw⟩ : ∃ W', W' = qw75.alloc (.cells #[.int .i64 0, .slice none 0 0] 24) := ⟨_, rfl⟩
      obtain ⟨qb8_91, hb⟩ : ∃ b, b = qw75.heap.size := ⟨_, rfl⟩
      have X91 := Lib.hid (bal (Below.refl qw75.heap.size qw75) (o := .cells #[.int .i64 0, .slice none 0 0] 24))
      have Kqqb8_910 := Lib.hid (Blk.new qw75 24 #[.int .i64 0, .slice none 0 0])
      rw [← hw] at X91 Kqqb8_910
      rw [← hb] at Kqqb8_910
      rw [← hw, ← hb]
      have loqb8_91 : w3.heap.size ≤ qb8_91 := by rw [hb]; exact Bq76.out.size
      have neqb9_75qb8_91 : qb9_75 ≠ qb8_91 := by rw [hb]; exact Nat.ne_of_lt Kqqb9_750.out.lt
      have Bq92 := Lib.hid (Bq76.out.trans (X91.out.mono Bq76.out.size))
      have Kqqb9_7592 := Lib.hid (Kqqb9_750.out.below X91.out Kqqb9_750.out.lt)
      refine hK.out _ _ ?_ (fun hHeld => ?_)
      · exact Bq92.out
      clear Bq76 Kqqb9_750 X91 hw hb
      clear hK K
      (try simp only [Act.put, uA, uB, uC])
      refine wpAnyH_ready (rs := [3]) (by kernel_rfl) (by simp) ?_
      refine cons_at (i := 3) rfl (fun K hK => ?_) AllReadyH.nil
      go_simp
      refine (D1.out _ Bq92.out).mono ?_
      rintro e qw93 ⟨s7, A7, n7, c7, rfl, hc, hg, hf, hb⟩
      try dsimp only
      have X93 := Lib.hid hb
      have Gq3_93 := Lib.hid hg
      have HCq3 := Lib.hid hc
      have FRq3 : Hid (Fresh w3 A7 n7) := fun hp ad e => Nat.le_trans Bq92.out.size (hf hp ad e)
      have ap3qb9_75 := Lib.hid (show 0 < n7 → ∀ ad, A7 = some ad → ad.block ≠ qb9_75 from fun hp ad e => by have := hf hp ad e; have := Kqqb9_7592.out.lt; omega)
      have ap3qb8_91 := Lib.hid (show 0 < n7 → ∀ ad, A7 = some ad → ad.block ≠ qb8_91 from fun hp ad e => by have := hf hp ad e; have := Kqqb8_910.out.lt; omega)
      have Bq94 := Lib.hid (Bq92.out.trans (X93.out.mono Bq92.out.size))
      have Kqqb9_7594 := Lib.hid (Kqqb9_7592.out.below X93.out Kqqb9_7592.out.lt)
      have Kqqb8_9194 := Lib.hid (Kqqb8_910.out.below X93.out Kqqb8_910.out.lt)
      refine hK.out _ _ ?_ (fun hHeld => ?_)
      · exact Bq94.out
      clear Bq92 Kqqb9_7592 Kqqb8_910 X93 hc hg hf hb
      clear hK K
      (try simp only [Act.put, uA, uB, uC])
      refine wpAnyH_ready (rs := [7]) (by kernel_rfl) (by simp) ?_
      refine cons_at (i := 7) rfl (fun K hK => ?_) AllReadyH.nil
      go_simp
      refine (D2.out _ Bq94.out).mono ?_
      rintro e qw95 ⟨s8, A8, n8, c8, rfl, hc, hg, hf, hb⟩
      try dsimp only
      have X95 := Lib.hid hb
      have Gq7_95 := Lib.hid hg
      have HCq7 := Lib.hid hc
      have FRq7 : Hid (Fresh w3 A8 n8) := fun hp ad e => Nat.le_trans Bq94.out.size (hf hp ad e)
      have ap7qb9_75 := Lib.hid (show 0 < n8 → ∀ ad, A8 = some ad → ad.block ≠ qb9_75 from fun hp ad e => by have := hf hp ad e; have := Kqqb9_7594.out.lt; omega)
      have ap7qb8_91 := Lib.hid (show 0 < n8 → ∀ ad, A8 = some ad → ad.block ≠ qb8_91 from fun hp ad e => by have := hf hp ad e; have := Kqqb8_9194.out.lt; omega)
      have Bq96 := Lib.hid (Bq94.out.trans (X95.out.mono Bq94.out.size))
      have Kqqb9_7596 := Lib.hid (Kqqb9_7594.out.below X95.out Kqqb9_7594.out.lt)
      have Kqqb8_9196 := Lib.hid (Kqqb8_9194.out.below X95.out Kqqb8_9194.out.lt)
      have Gq3_96 := Lib.hid (Gq3_93.out.past X95.out)
      refine hK.out _ _ ?_ (fun hHeld => ?_)
      · exact Bq96.out
      clear Bq94 Kqqb9_7594 Kqqb8_9194 Gq3_93 X95 hc hg hf hb
      clear hK K
      (try simp only [Act.put, uA, uB, uC])
      refine wpAnyH_ready (rs := [10]) (by kernel_rfl) (by simp) ?_
      refine cons_at (i := 10) rfl (fun K hK => ?_) AllReadyH.nil
      obtain ⟨f0, f1, f2, f3⟩ := sm_cells Kqqb8_9196.out
      go_simp
      clear f0 f1 f2 f3
      obtain ⟨qw97, hw⟩ : ∃ W', W' = (qw95.setCell ⟨qb8_91, 0, none⟩ (.int .i64 s7)).setCell ⟨qb8_91, 1, none⟩ (.slice A7 n7 c7) := ⟨_, rfl⟩
      rw [← hw]
      have Bq97 := Lib.hid (below_2 Bq96.out loqb8_91 (u := .int .i64 s7) (v := .slice A7 n7 c7))
      rw [← hw] at Bq97
      have Kqqb9_75_97 := Lib.hid (Kqqb9_7596.out.far2 neqb9_75qb8_91 (a := .int .i64 s7) (b := .slice A7 n7 c7))
      rw [← hw] at Kqqb9_75_97
      have Kqqb8_91_97 := Lib.hid (Kqqb8_9196.out.set2 (a := .int .i64 s7) (b := .slice A7 n7 c7))
      rw [← hw] at Kqqb8_91_97
      have Gq3_97 := Lib.hid (Gq3_96.out.far2 ap3qb8_91.out (a := .int .i64 s7) (b := .slice A7 n7 c7))
      rw [← hw] at Gq3_97
      have Gq7_97 := Lib.hid (Gq7_95.out.far2 ap7qb8_91.out (a := .int .i64 s7) (b := .slice A7 n7 c7))
      rw [← hw] at Gq7_97
      refine hK.out _ _ ?_ (fun hHeld => ?_)
      · exact Bq97.out
      clear Bq96 Kqqb9_7596 Kqqb8_9196 Gq3_96 Gq7_95 hw
      clear hK K
      (try simp only [Act.put, uA, uB, uC])
      refine wpAnyH_ready (rs := [11]) (by kernel_rfl) (by simp) ?_
      refine cons_at (i := 11) rfl (fun K hK => ?_) AllReadyH.nil
      obtain ⟨f0, f1, f2, f3⟩ := sm_cells Kqqb9_75_97.out
      go_simp
      clear f0 f1 f2 f3
      obtain ⟨qw98, hw⟩ : ∃ W', W' = (qw97.setCell ⟨qb9_75, 0, none⟩ (.int .i64 s8)).setCell ⟨qb9_75, 1, none⟩ (.slice A8 n8 c8) := ⟨_, rfl⟩
      rw [← hw]
      have Bq98 := Lib.hid (below_2 Bq97.out loqb9_75 (u := .int .i64 s8) (v := .slice A8 n8 c8))
      rw [← hw] at Bq98
      have Kqqb9_75_98 := Lib.hid (Kqqb9_75_97.out.set2 (a := .int .i64 s8) (b := .slice A8 n8 c8))
      rw [← hw] at Kqqb9_75_98
      have Kqqb8_91_98 := Lib.hid (Kqqb8_91_97.out.far2 (Ne.symm neqb9_75qb8_91) (a := .int .i64 s8) (b := .slice A8 n8 c8))
      rw [← hw] at Kqqb8_91_98
      have Gq3_98 := Lib.hid (Gq3_97.out.far2 ap3qb9_75.out (a := .int .i64 s8) (b := .slice A8 n8 c8))
      rw [← hw] at Gq3_98
      have Gq7_98 := Lib.hid (Gq7_97.out.far2 ap7qb9_75.out (a := .int .i64 s8) (b := .slice A8 n8 c8))
      rw [← hw] at Gq7_98
      refine hK.out _ _ ?_ (fun hHeld => ?_)
      · exact Bq98.out
      clear Bq97 Kqqb9_75_97 Kqqb8_91_97 Gq3_97 Gq7_97 hw
      clear hK K
      (try simp only [Act.put, uA, uB, uC])
      refine wpAnyH_done (by kernel_rfl) ?_ _
      go_wp2_with fail
      go_meet
      exact ⟨qb8_91, qb9_75, rfl, rfl, (show TwoR _ _ _ _ _ _ _ _ from ⟨_, _, _, _, _, _, _, _, ⟨Kqqb8_91_98.out, loqb8_91, Gq3_98.out, HCq3.out, FRq3.out⟩, ⟨Kqqb9_75_98.out, loqb9_75, Gq7_98.out, HCq7.out, FRq7.out⟩, Bq98.out⟩)⟩
    case rest =>
      obtain ⟨b9, b10, rfl, rfl, HT5⟩ := hcut
      obtain ⟨w5, rfl⟩ : ∃ w5 : World, w5 = wc := ⟨_, rfl⟩
      obtain ⟨s9, A9, n9, c9, s10, A10, n10, c10, hx9, hx10, hb5⟩ := HT5.out
      have S5 := Lib.hid (S3.out.call hb5)
      have K85 := Lib.hid (K8.out.below hb5 K8.out.lt)
      have GG5 := Lib.hid (GG.out.past hb5)
      have X9 := Lib.hid hx9
      have X10 := Lib.hid hx10
      have hlo9 : w.heap.size + 1 + 1 < b9 := Nat.lt_of_lt_of_le S3.out.k3.lt hx9.lo
      clear ka0 ka1 ka2 ka3 kb0 kb1 kb2 kb3 k80 k81 HT5 hx9 hx10 hb5 S3 K8 GG
      obtain ⟨⟨ka0, ka1, ka2, ka3⟩, kb0, kb1, kb2, kb3⟩ := S5.out.cells
      obtain ⟨k90, k91, -, -⟩ := sm_cells X9.out.blk
      obtain ⟨ka90, ka91, -, -⟩ := sm_cells X10.out.blk
      dsimp only at ka0 ka1 ka2 ka3 kb0 kb1 kb2 kb3
      go_upto_region 6 with (fail)
      go_cut [11, 12] (fun p11 p12 wc => p12 = .int .i64 0 ∧ ∃ b11, p11 = .pointer (some ⟨b11, 0, none⟩) ∧ Hid (OneB w5 wc b11 (k + k + (k + k) + 1) P))
      case first =>
        have HC := Lib.hid (fun (w' : World) (h : Below w5.heap.size w5 w') => (⟨(h.cell (p := ⟨w.heap.size, 0, none⟩) (World.block_lt_of_cell? _ _ ka0)).trans ka0, (h.cell (p := ⟨w.heap.size, 1, none⟩) (World.block_lt_of_cell? _ _ ka1)).trans ka1, (h.cell (p := ⟨b10, 0, none⟩) (World.block_lt_of_cell? _ _ ka90)).trans ka90, (h.cell (p := ⟨b10, 1, none⟩) (World.block_lt_of_cell? _ _ ka91)).trans ka91, (h.cell (p := ⟨w.heap.size + 1, 0, none⟩) (World.block_lt_of_cell? _ _ kb0)).trans kb0, (h.cell (p := ⟨w.heap.size + 1, 1, none⟩) (World.block_lt_of_cell? _ _ kb1)).trans kb1, (h.cell (p := ⟨b9, 0, none⟩) (World.block_lt_of_cell? _ _ k90)).trans k90, (h.cell (p := ⟨b9, 1, none⟩) (World.block_lt_of_cell? _ _ k91)).trans k91⟩ : w'.cell? ⟨w.heap.size, 0, none⟩ = some (.int .i64 s1) ∧ w'.cell? ⟨w.heap.size, 1, none⟩ = some (.slice A1 n1 c1) ∧ w'.cell? ⟨b10, 0, none⟩ = some (.int .i64 s10) ∧ w'.cell? ⟨b10, 1, none⟩ = some (.slice A10 n10 c10) ∧ w'.cell? ⟨w.heap.size + 1, 0, none⟩ = some (.int .i64 s3) ∧ w'.cell? ⟨w.heap.size + 1, 1, none⟩ = some (.slice A3 n3 c3) ∧ w'.cell? ⟨b9, 0, none⟩ = some (.int .i64 s9) ∧ w'.cell? ⟨b9, 1, none⟩ = some (.slice A9 n9 c9)))
        have D1 := Lib.hid (fun (W : World) (h : Below w5.heap.size w5 W) => times_F (((H1.out.past S5.out.bl).1).past h) (X10.out.bg.past h) (by omega) (by omega) c1 c10)
        have D2 := Lib.hid (fun (W : World) (h : Below w5.heap.size w5 W) => times_F (((H2.out.past S5.out.bl).1).past h) (X9.out.bg.past h) (by omega) (by omega) c3 c9)
        clear ka0 ka1 ka2 ka3 kb0 kb1 kb2 kb3 k90 k91 ka90 ka91
        have Bu0 := Lib.hid (Below.refl w5.heap.size w5).drew
        refine wp_region_held_drew (S := fun w' => Below w5.heap.size w5 w') (by kernel_rfl) Bu0.out (fun hHeld => ?_)
        obtain ⟨uw0, hw⟩ : ∃ W, W = w5.drew := ⟨_, rfl⟩
        rw [← hw] at hHeld Bu0 ⊢
        clear hw
        refine take_at (i := 0) (v := ?uv1) rfl (by kernel_rfl) (by kernel_rfl) (by kernel_rfl) (fun _ _ _ h => h) (Or.inl ⟨by rfl, ?uy1⟩) (by assumption) ?ur1
        case uy1 => (intro w hSw; (try dsimp only at hSw); go_simp; (try with_reducible rfl))
        simp only [Act.put, uA, uB, uC]
        refine take_at (i := 1) (v := ?uv2) rfl (by kernel_rfl) (by kernel_rfl) (by kernel_rfl) (fun _ _ _ h => h) (Or.inl ⟨by rfl, ?uy2⟩) (by assumption) ?ur2
        case uy2 => (intro w hSw; (try dsimp only at hSw); obtain ⟨cc0, cc1, cc2, cc3, cc4, cc5, cc6, cc7⟩ := HC.out _ hSw; go_simp; (try with_reducible rfl))
        simp only [Act.put, uA, uB, uC]
        refine take_at (i := 2) (v := ?uv3) rfl (by kernel_rfl) (by kernel_rfl) (by kernel_rfl) (fun _ _ _ h => h) (Or.inl ⟨by rfl, ?uy3⟩) (by assumption) ?ur3
        case uy3 => (intro w hSw; (try dsimp only at hSw); obtain ⟨cc0, cc1, cc2, cc3, cc4, cc5, cc6, cc7⟩ := HC.out _ hSw; go_simp; (try with_reducible rfl))
        simp only [Act.put, uA, uB, uC]
        refine take_at (i := 4) (v := ?uv4) rfl (by kernel_rfl) (by kernel_rfl) (by kernel_rfl) (fun _ _ _ h => h) (Or.inl ⟨by rfl, ?uy4⟩) (by assumption) ?ur4
        case uy4 => (intro w hSw; (try dsimp only at hSw); go_simp; (try with_reducible rfl))
        simp only [Act.put, uA, uB, uC]
        refine take_at (i := 5) (v := ?uv5) rfl (by kernel_rfl) (by kernel_rfl) (by kernel_rfl) (fun _ _ _ h => h) (Or.inl ⟨by rfl, ?uy5⟩) (by assumption) ?ur5
        case uy5 => (intro w hSw; (try dsimp only at hSw); obtain ⟨cc0, cc1, cc2, cc3, cc4, cc5, cc6, cc7⟩ := HC.out _ hSw; go_simp; (try with_reducible rfl))
        simp only [Act.put, uA, uB, uC]
        refine take_at (i := 6) (v := ?uv6) rfl (by kernel_rfl) (by kernel_rfl) (by kernel_rfl) (fun _ _ _ h => h) (Or.inl ⟨by rfl, ?uy6⟩) (by assumption) ?ur6
        case uy6 => (intro w hSw; (try dsimp only at hSw); obtain ⟨cc0, cc1, cc2, cc3, cc4, cc5, cc6, cc7⟩ := HC.out _ hSw; go_simp; (try with_reducible rfl))
        simp only [Act.put, uA, uB, uC]
        refine wpAnyH_ready (rs := [3, 12]) (by kernel_rfl) (by simp) ?_
        refine cons_at (i := 3) rfl (fun K hK => ?_) ?_
        go_simp
        refine (D1.out _ Bu0.out).mono ?_
        rintro e uw7 ⟨s7, A7, n7, c7, rfl, hc, hg, hf, hb⟩
        try dsimp only
        have X7 := Lib.hid hb
        have Gu3_7 := Lib.hid hg
        have HCu3 := Lib.hid hc
        have FRu3 : Hid (Fresh w5 A7 n7) := fun hp ad e => Nat.le_trans Bu0.out.size (hf hp ad e)
        have Bu8 := Lib.hid (Bu0.out.trans (X7.out.mono Bu0.out.size))
        refine hK.out _ _ ?_ (fun hHeld => ?_)
        · exact Bu8.out
        clear Bu0 X7 hc hg hf hb
        clear hK K
        (try simp only [Act.put, uA, uB, uC])
        refine wpAnyH_ready (rs := [7, 12]) (by kernel_rfl) (by simp) ?_
        refine cons_at (i := 7) rfl (fun K hK => ?_) ?_
        go_simp
        refine (D2.out _ Bu8.out).mono ?_
        rintro e uw9 ⟨s8, A8, n8, c8, rfl, hc, hg, hf, hb⟩
        try dsimp only
        have X9 := Lib.hid hb
        have Gu7_9 := Lib.hid hg
        have HCu7 := Lib.hid hc
        have FRu7 : Hid (Fresh w5 A8 n8) := fun hp ad e => Nat.le_trans Bu8.out.size (hf hp ad e)
        have Bu10 := Lib.hid (Bu8.out.trans (X9.out.mono Bu8.out.size))
        have Gu3_10 := Lib.hid (Gu3_7.out.past X9.out)
        refine hK.out _ _ ?_ (fun hHeld => ?_)
        · exact Bu10.out
        clear Bu8 Gu3_7 X9 hc hg hf hb
        clear hK K
        (try simp only [Act.put, uA, uB, uC])
        refine wpAnyH_ready (rs := [8, 12]) (by kernel_rfl) (by simp) ?_
        refine cons_at (i := 8) rfl (fun K hK => ?_) ?_
        go_simp
        refine (add_F Gu3_10.out Gu7_9.out (by omega) (by omega) c7 c8).mono ?_
        rintro e uw11 ⟨sa, Aa, na, ca, rfl, hc, hg, hf, hb⟩
        try dsimp only
        have X11 := Lib.hid hb
        have Gu8_11 := Lib.hid hg
        have HCu8 := Lib.hid hc
        have FRu8 : Hid (Fresh w5 Aa na) := fun hp ad e => Nat.le_trans Bu10.out.size (hf hp ad e)
        have Bu12 := Lib.hid (Bu10.out.trans (X11.out.mono Bu10.out.size))
        have Gu3_12 := Lib.hid (Gu3_10.out.past X11.out)
        have Gu7_12 := Lib.hid (Gu7_9.out.past X11.out)
        refine hK.out _ _ ?_ (fun hHeld => ?_)
        · exact Bu12.out
        clear Bu10 Gu3_10 Gu7_9 X11 hc hg hf hb
        clear hK K
        (try simp only [Act.put, uA, uB, uC])
        refine take_at (i := 9) (v := ?uv13) rfl (by kernel_rfl) (by kernel_rfl) (by kernel_rfl) (fun _ _ _ h => h) (Or.inl ⟨by rfl, ?uy13⟩) (by assumption) ?ur13
        case uy13 => (intro w hSw; (try dsimp only at hSw); go_simp; (try with_reducible rfl))
        simp only [Act.put, uA, uB, uC]
        refine take_at (i := 10) (v := ?uv14) rfl (by kernel_rfl) (by kernel_rfl) (by kernel_rfl) (fun _ _ _ h => h) (Or.inl ⟨by rfl, ?uy14⟩) (by assumption) ?ur14
        case uy14 => (intro w hSw; (try dsimp only at hSw); go_simp; (try with_reducible rfl))
        simp only [Act.put, uA, uB, uC]
        refine take_at (i := 11) (v := ?uv15) rfl (by kernel_rfl) (by kernel_rfl) (by kernel_rfl) (fun _ _ _ h => h) (Or.inl ⟨by rfl, ?uy15⟩) (by assumption) ?ur15
        case uy15 => (intro w hSw; (try dsimp only at hSw); go_simp; (try with_reducible rfl))
        simp only [Act.put, uA, uB, uC]
        refine wpAnyH_ready (rs := [12]) (by kernel_rfl) (by simp) ?_
        refine cons_at (i := 12) rfl (fun K hK => ?_) AllReadyH.nil
        go_simp
        obtain ⟨uw16, hw⟩ : ∃ W', W' = uw11.alloc (.cells #[.int .i64 0, .slice none 0 0] 24) := ⟨_, rfl⟩
        obtain ⟨ub12_16, hb⟩ : ∃ b, b = uw11.heap.size := ⟨_, rfl⟩
        have X16 := Lib.hid (bal (Below.refl uw11.heap.size uw11) (o := .cells #[.int .i64 0, .slice none 0 0] 24))
        have Kuub12_160 := Lib.hid (Blk.new uw11 24 #[.int .i64 0, .slice none 0 0])
        rw [← hw] at X16 Kuub12_160
        rw [← hb] at Kuub12_160
        rw [← hw, ← hb]
        have loub12_16 : w5.heap.size ≤ ub12_16 := by rw [hb]; exact Bu12.out.size
        have ap3ub12_16 := Lib.hid (show 0 < n7 → ∀ ad, A7 = some ad → ad.block ≠ ub12_16 from fun hp ad e => by rw [hb]; exact Nat.ne_of_lt (Gu3_12.out.lt hp e))
        have ap7ub12_16 := Lib.hid (show 0 < n8 → ∀ ad, A8 = some ad → ad.block ≠ ub12_16 from fun hp ad e => by rw [hb]; exact Nat.ne_of_lt (Gu7_12.out.lt hp e))
        have ap8ub12_16 := Lib.hid (show 0 < na → ∀ ad, Aa = some ad → ad.block ≠ ub12_16 from fun hp ad e => by rw [hb]; exact Nat.ne_of_lt (Gu8_11.out.lt hp e))
        have Bu17 := Lib.hid (Bu12.out.trans (X16.out.mono Bu12.out.size))
        have Gu3_17 := Lib.hid (Gu3_12.out.past X16.out)
        have Gu7_17 := Lib.hid (Gu7_12.out.past X16.out)
        have Gu8_17 := Lib.hid (Gu8_11.out.past X16.out)
        refine hK.out _ _ ?_ (fun hHeld => ?_)
        · exact Bu17.out
        clear Bu12 Gu3_12 Gu7_12 Gu8_11 X16 hw hb
        clear hK K
        (try simp only [Act.put, uA, uB, uC])
        refine wpAnyH_ready (rs := [13]) (by kernel_rfl) (by simp) ?_
        refine cons_at (i := 13) rfl (fun K hK => ?_) AllReadyH.nil
        obtain ⟨f0, f1, f2, f3⟩ := sm_cells Kuub12_160.out
        go_simp
        clear f0 f1 f2 f3
        obtain ⟨uw18, hw⟩ : ∃ W', W' = (uw16.setCell ⟨ub12_16, 0, none⟩ (.int .i64 sa)).setCell ⟨ub12_16, 1, none⟩ (.slice Aa na ca) := ⟨_, rfl⟩
        rw [← hw]
        have Bu18 := Lib.hid (below_2 Bu17.out loub12_16 (u := .int .i64 sa) (v := .slice Aa na ca))
        rw [← hw] at Bu18
        have Kuub12_16_18 := Lib.hid (Kuub12_160.out.set2 (a := .int .i64 sa) (b := .slice Aa na ca))
        rw [← hw] at Kuub12_16_18
        have Gu3_18 := Lib.hid (Gu3_17.out.far2 ap3ub12_16.out (a := .int .i64 sa) (b := .slice Aa na ca))
        rw [← hw] at Gu3_18
        have Gu7_18 := Lib.hid (Gu7_17.out.far2 ap7ub12_16.out (a := .int .i64 sa) (b := .slice Aa na ca))
        rw [← hw] at Gu7_18
        have Gu8_18 := Lib.hid (Gu8_17.out.far2 ap8ub12_16.out (a := .int .i64 sa) (b := .slice Aa na ca))
        rw [← hw] at Gu8_18
        refine hK.out _ _ ?_ (fun hHeld => ?_)
        · exact Bu18.out
        clear Bu17 Kuub12_160 Gu3_17 Gu7_17 Gu8_17 hw
        clear hK K
        (try simp only [Act.put, uA, uB, uC])
        refine take_at (i := 14) (v := ?uv19) rfl (by kernel_rfl) (by kernel_rfl) (by kernel_rfl) (fun _ _ _ h => h) (Or.inl ⟨by rfl, ?uy19⟩) (by assumption) ?ur19
        case uy19 => (intro w hSw; (try dsimp only at hSw); go_simp; (try with_reducible rfl))
        simp only [Act.put, uA, uB, uC]
        refine wpAnyH_done (by kernel_rfl) ?_ _
        rw [← HP.out] at Gu8_18
        go_wp2_with fail
        go_meet
        exact ⟨rfl, ub12_16, rfl, (show OneB _ _ _ _ _ from ⟨_, _, _, _, ⟨Kuub12_16_18.out, loub12_16, Gu8_18.out, HCu8.out, FRu8.out⟩, Bu18.out⟩)⟩
        refine cons_at (i := 12) rfl (fun K hK => ?_) AllReadyH.nil
        go_simp
        obtain ⟨uw20, hw⟩ : ∃ W', W' = uw9.alloc (.cells #[.int .i64 0, .slice none 0 0] 24) := ⟨_, rfl⟩
        obtain ⟨ub12_20, hb⟩ : ∃ b, b = uw9.heap.size := ⟨_, rfl⟩
        have X20 := Lib.hid (bal (Below.refl uw9.heap.size uw9) (o := .cells #[.int .i64 0, .slice none 0 0] 24))
        have Kuub12_200 := Lib.hid (Blk.new uw9 24 #[.int .i64 0, .slice none 0 0])
        rw [← hw] at X20 Kuub12_200
        rw [← hb] at Kuub12_200
        rw [← hw, ← hb]
        have loub12_20 : w5.heap.size ≤ ub12_20 := by rw [hb]; exact Bu10.out.size
        have ap3ub12_20 := Lib.hid (show 0 < n7 → ∀ ad, A7 = some ad → ad.block ≠ ub12_20 from fun hp ad e => by rw [hb]; exact Nat.ne_of_lt (Gu3_10.out.lt hp e))
        have ap7ub12_20 := Lib.hid (show 0 < n8 → ∀ ad, A8 = some ad → ad.block ≠ ub12_20 from fun hp ad e => by rw [hb]; exact Nat.ne_of_lt (Gu7_9.out.lt hp e))
        have Bu21 := Lib.hid (Bu10.out.trans (X20.out.mono Bu10.out.size))
        have Gu3_21 := Lib.hid (Gu3_10.out.past X20.out)
        have Gu7_21 := Lib.hid (Gu7_9.out.past X20.out)
        refine hK.out _ _ ?_ (fun hHeld => ?_)
        · exact Bu21.out
        clear Bu10 Gu3_10 Gu7_9 X20 hw hb
        clear hK K
        (try simp only [Act.put, uA, uB, uC])
        refine wpAnyH_ready (rs := [8]) (by kernel_rfl) (by simp) ?_
        refine cons_at (i := 8) rfl (fun K hK => ?_) AllReadyH.nil
        go_simp
        refine (add_F Gu3_21.out Gu7_21.out (by omega) (by omega) c7 c8).mono ?_
        rintro e uw22 ⟨sa, Aa, na, ca, rfl, hc, hg, hf, hb⟩
        try dsimp only
        have X22 := Lib.hid hb
        have Gu8_22 := Lib.hid hg
        have HCu8 := Lib.hid hc
        have FRu8 : Hid (Fresh w5 Aa na) := fun hp ad e => Nat.le_trans Bu21.out.size (hf hp ad e)
        have ap8ub12_20 := Lib.hid (show 0 < na → ∀ ad, Aa = some ad → ad.block ≠ ub12_20 from fun hp ad e => by have := hf hp ad e; have := Kuub12_200.out.lt; omega)
        have Bu23 := Lib.hid (Bu21.out.trans (X22.out.mono Bu21.out.size))
        have Kuub12_2023 := Lib.hid (Kuub12_200.out.below X22.out Kuub12_200.out.lt)
        have Gu3_23 := Lib.hid (Gu3_21.out.past X22.out)
        have Gu7_23 := Lib.hid (Gu7_21.out.past X22.out)
        refine hK.out _ _ ?_ (fun hHeld => ?_)
        · exact Bu23.out
        clear Bu21 Kuub12_200 Gu3_21 Gu7_21 X22 hc hg hf hb
        clear hK K
        (try simp only [Act.put, uA, uB, uC])
        refine take_at (i := 9) (v := ?uv24) rfl (by kernel_rfl) (by kernel_rfl) (by kernel_rfl) (fun _ _ _ h => h) (Or.inl ⟨by rfl, ?uy24⟩) (by assumption) ?ur24
        case uy24 => (intro w hSw; (try dsimp only at hSw); go_simp; (try with_reducible rfl))
        simp only [Act.put, uA, uB, uC]
        refine take_at (i := 10) (v := ?uv25) rfl (by kernel_rfl) (by kernel_rfl) (by kernel_rfl) (fun _ _ _ h => h) (Or.inl ⟨by rfl, ?uy25⟩) (by assumption) ?ur25
        case uy25 => (intro w hSw; (try dsimp only at hSw); go_simp; (try with_reducible rfl))
        simp only [Act.put, uA, uB, uC]
        refine take_at (i := 11) (v := ?uv26) rfl (by kernel_rfl) (by kernel_rfl) (by kernel_rfl) (fun _ _ _ h => h) (Or.inl ⟨by rfl, ?uy26⟩) (by assumption) ?ur26
        case uy26 => (intro w hSw; (try dsimp only at hSw); go_simp; (try with_reducible rfl))
        simp only [Act.put, uA, uB, uC]
        refine wpAnyH_ready (rs := [13]) (by kernel_rfl) (by simp) ?_
        refine cons_at (i := 13) rfl (fun K hK => ?_) AllReadyH.nil
        obtain ⟨f0, f1, f2, f3⟩ := sm_cells Kuub12_2023.out
        go_simp
        clear f0 f1 f2 f3
        obtain ⟨uw27, hw⟩ : ∃ W', W' = (uw22.setCell ⟨ub12_20, 0, none⟩ (.int .i64 sa)).setCell ⟨ub12_20, 1, none⟩ (.slice Aa na ca) := ⟨_, rfl⟩
        rw [← hw]
        have Bu27 := Lib.hid (below_2 Bu23.out loub12_20 (u := .int .i64 sa) (v := .slice Aa na ca))
        rw [← hw] at Bu27
        have Kuub12_20_27 := Lib.hid (Kuub12_2023.out.set2 (a := .int .i64 sa) (b := .slice Aa na ca))
        rw [← hw] at Kuub12_20_27
        have Gu3_27 := Lib.hid (Gu3_23.out.far2 ap3ub12_20.out (a := .int .i64 sa) (b := .slice Aa na ca))
        rw [← hw] at Gu3_27
        have Gu7_27 := Lib.hid (Gu7_23.out.far2 ap7ub12_20.out (a := .int .i64 sa) (b := .slice Aa na ca))
        rw [← hw] at Gu7_27
        have Gu8_27 := Lib.hid (Gu8_22.out.far2 ap8ub12_20.out (a := .int .i64 sa) (b := .slice Aa na ca))
        rw [← hw] at Gu8_27
        refine hK.out _ _ ?_ (fun hHeld => ?_)
        · exact Bu27.out
        clear Bu23 Kuub12_2023 Gu3_23 Gu7_23 Gu8_22 hw
        clear hK K
        (try simp only [Act.put, uA, uB, uC])
        refine take_at (i := 14) (v := ?uv28) rfl (by kernel_rfl) (by kernel_rfl) (by kernel_rfl) (fun _ _ _ h => h) (Or.inl ⟨by rfl, ?uy28⟩) (by assumption) ?ur28
        case uy28 => (intro w hSw; (try dsimp only at hSw); go_simp; (try with_reducible rfl))
        simp only [Act.put, uA, uB, uC]
        refine wpAnyH_done (by kernel_rfl) ?_ _
        rw [← HP.out] at Gu8_27
        go_wp2_with fail
        go_meet
        exact ⟨rfl, ub12_20, rfl, (show OneB _ _ _ _ _ from ⟨_, _, _, _, ⟨Kuub12_20_27.out, loub12_20, Gu8_27.out, HCu8.out, FRu8.out⟩, Bu27.out⟩)⟩
        refine cons_at (i := 12) rfl (fun K hK => ?_) AllReadyH.nil
        go_simp
        obtain ⟨uw29, hw⟩ : ∃ W', W' = uw7.alloc (.cells #[.int .i64 0, .slice none 0 0] 24) := ⟨_, rfl⟩
        obtain ⟨ub12_29, hb⟩ : ∃ b, b = uw7.heap.size := ⟨_, rfl⟩
        have X29 := Lib.hid (bal (Below.refl uw7.heap.size uw7) (o := .cells #[.int .i64 0, .slice none 0 0] 24))
        have Kuub12_290 := Lib.hid (Blk.new uw7 24 #[.int .i64 0, .slice none 0 0])
        rw [← hw] at X29 Kuub12_290
        rw [← hb] at Kuub12_290
        rw [← hw, ← hb]
        have loub12_29 : w5.heap.size ≤ ub12_29 := by rw [hb]; exact Bu8.out.size
        have ap3ub12_29 := Lib.hid (show 0 < n7 → ∀ ad, A7 = some ad → ad.block ≠ ub12_29 from fun hp ad e => by rw [hb]; exact Nat.ne_of_lt (Gu3_7.out.lt hp e))
        have Bu30 := Lib.hid (Bu8.out.trans (X29.out.mono Bu8.out.size))
        have Gu3_30 := Lib.hid (Gu3_7.out.past X29.out)
        refine hK.out _ _ ?_ (fun hHeld => ?_)
        · exact Bu30.out
        clear Bu8 Gu3_7 X29 hw hb
        clear hK K
        (try simp only [Act.put, uA, uB, uC])
        refine wpAnyH_ready (rs := [7]) (by kernel_rfl) (by simp) ?_
        refine cons_at (i := 7) rfl (fun K hK => ?_) AllReadyH.nil
        go_simp
        refine (D2.out _ Bu30.out).mono ?_
        rintro e uw31 ⟨s8, A8, n8, c8, rfl, hc, hg, hf, hb⟩
        try dsimp only
        have X31 := Lib.hid hb
        have Gu7_31 := Lib.hid hg
        have HCu7 := Lib.hid hc
        have FRu7 : Hid (Fresh w5 A8 n8) := fun hp ad e => Nat.le_trans Bu30.out.size (hf hp ad e)
        have ap7ub12_29 := Lib.hid (show 0 < n8 → ∀ ad, A8 = some ad → ad.block ≠ ub12_29 from fun hp ad e => by have := hf hp ad e; have := Kuub12_290.out.lt; omega)
        have Bu32 := Lib.hid (Bu30.out.trans (X31.out.mono Bu30.out.size))
        have Kuub12_2932 := Lib.hid (Kuub12_290.out.below X31.out Kuub12_290.out.lt)
        have Gu3_32 := Lib.hid (Gu3_30.out.past X31.out)
        refine hK.out _ _ ?_ (fun hHeld => ?_)
        · exact Bu32.out
        clear Bu30 Kuub12_290 Gu3_30 X31 hc hg hf hb
        clear hK K
        (try simp only [Act.put, uA, uB, uC])
        refine wpAnyH_ready (rs := [8]) (by kernel_rfl) (by simp) ?_
        refine cons_at (i := 8) rfl (fun K hK => ?_) AllReadyH.nil
        go_simp
        refine (add_F Gu3_32.out Gu7_31.out (by omega) (by omega) c7 c8).mono ?_
        rintro e uw33 ⟨sa, Aa, na, ca, rfl, hc, hg, hf, hb⟩
        try dsimp only
        have X33 := Lib.hid hb
        have Gu8_33 := Lib.hid hg
        have HCu8 := Lib.hid hc
        have FRu8 : Hid (Fresh w5 Aa na) := fun hp ad e => Nat.le_trans Bu32.out.size (hf hp ad e)
        have ap8ub12_29 := Lib.hid (show 0 < na → ∀ ad, Aa = some ad → ad.block ≠ ub12_29 from fun hp ad e => by have := hf hp ad e; have := Kuub12_2932.out.lt; omega)
        have Bu34 := Lib.hid (Bu32.out.trans (X33.out.mono Bu32.out.size))
        have Kuub12_2934 := Lib.hid (Kuub12_2932.out.below X33.out Kuub12_2932.out.lt)
        have Gu3_34 := Lib.hid (Gu3_32.out.past X33.out)
        have Gu7_34 := Lib.hid (Gu7_31.out.past X33.out)
        refine hK.out _ _ ?_ (fun hHeld => ?_)
        · exact Bu34.out
        clear Bu32 Kuub12_2932 Gu3_32 Gu7_31 X33 hc hg hf hb
        clear hK K
        (try simp only [Act.put, uA, uB, uC])
        refine take_at (i := 9) (v := ?uv35) rfl (by kernel_rfl) (by kernel_rfl) (by kernel_rfl) (fun _ _ _ h => h) (Or.inl ⟨by rfl, ?uy35⟩) (by assumption) ?ur35
        case uy35 => (intro w hSw; (try dsimp only at hSw); go_simp; (try with_reducible rfl))
        simp only [Act.put, uA, uB, uC]
        refine take_at (i := 10) (v := ?uv36) rfl (by kernel_rfl) (by kernel_rfl) (by kernel_rfl) (fun _ _ _ h => h) (Or.inl ⟨by rfl, ?uy36⟩) (by assumption) ?ur36
        case uy36 => (intro w hSw; (try dsimp only at hSw); go_simp; (try with_reducible rfl))
        simp only [Act.put, uA, uB, uC]
        refine take_at (i := 11) (v := ?uv37) rfl (by kernel_rfl) (by kernel_rfl) (by kernel_rfl) (fun _ _ _ h => h) (Or.inl ⟨by rfl, ?uy37⟩) (by assumption) ?ur37
        case uy37 => (intro w hSw; (try dsimp only at hSw); go_simp; (try with_reducible rfl))
        simp only [Act.put, uA, uB, uC]
        refine wpAnyH_ready (rs := [13]) (by kernel_rfl) (by simp) ?_
        refine cons_at (i := 13) rfl (fun K hK => ?_) AllReadyH.nil
        obtain ⟨f0, f1, f2, f3⟩ := sm_cells Kuub12_2934.out
        go_simp
        clear f0 f1 f2 f3
        obtain ⟨uw38, hw⟩ : ∃ W', W' = (uw33.setCell ⟨ub12_29, 0, none⟩ (.int .i64 sa)).setCell ⟨ub12_29, 1, none⟩ (.slice Aa na ca) := ⟨_, rfl⟩
        rw [← hw]
        have Bu38 := Lib.hid (below_2 Bu34.out loub12_29 (u := .int .i64 sa) (v := .slice Aa na ca))
        rw [← hw] at Bu38
        have Kuub12_29_38 := Lib.hid (Kuub12_2934.out.set2 (a := .int .i64 sa) (b := .slice Aa na ca))
        rw [← hw] at Kuub12_29_38
        have Gu3_38 := Lib.hid (Gu3_34.out.far2 ap3ub12_29.out (a := .int .i64 sa) (b := .slice Aa na ca))
        rw [← hw] at Gu3_38
        have Gu7_38 := Lib.hid (Gu7_34.out.far2 ap7ub12_29.out (a := .int .i64 sa) (b := .slice Aa na ca))
        rw [← hw] at Gu7_38
        have Gu8_38 := Lib.hid (Gu8_33.out.far2 ap8ub12_29.out (a := .int .i64 sa) (b := .slice Aa na ca))
        rw [← hw] at Gu8_38
        refine hK.out _ _ ?_ (fun hHeld => ?_)
        · exact Bu38.out
        clear Bu34 Kuub12_2934 Gu3_34 Gu7_34 Gu8_33 hw
        clear hK K
        (try simp only [Act.put, uA, uB, uC])
        refine take_at (i := 14) (v := ?uv39) rfl (by kernel_rfl) (by kernel_rfl) (by kernel_rfl) (fun _ _ _ h => h) (Or.inl ⟨by rfl, ?uy39⟩) (by assumption) ?ur39
        case uy39 => (intro w hSw; (try dsimp only at hSw); go_simp; (try with_reducible rfl))
        simp only [Act.put, uA, uB, uC]
        refine wpAnyH_done (by kernel_rfl) ?_ _
        rw [← HP.out] at Gu8_38
        go_wp2_with fail
        go_meet
        exact ⟨rfl, ub12_29, rfl, (show OneB _ _ _ _ _ from ⟨_, _, _, _, ⟨Kuub12_29_38.out, loub12_29, Gu8_38.out, HCu8.out, FRu8.out⟩, Bu38.out⟩)⟩
        refine cons_at (i := 12) rfl (fun K hK => ?_) AllReadyH.nil
        go_simp
        obtain ⟨uw40, hw⟩ : ∃ W', W' = uw0.alloc (.cells #[.int .i64 0, .slice none 0 0] 24) := ⟨_, rfl⟩
        obtain ⟨ub12_40, hb⟩ : ∃ b, b = uw0.heap.size := ⟨_, rfl⟩
        have X40 := Lib.hid (bal (Below.refl uw0.heap.size uw0) (o := .cells #[.int .i64 0, .slice none 0 0] 24))
        have Kuub12_400 := Lib.hid (Blk.new uw0 24 #[.int .i64 0, .slice none 0 0])
        rw [← hw] at X40 Kuub12_400
        rw [← hb] at Kuub12_400
        rw [← hw, ← hb]
        have loub12_40 : w5.heap.size ≤ ub12_40 := by rw [hb]; exact Bu0.out.size
        have Bu41 := Lib.hid (Bu0.out.trans (X40.out.mono Bu0.out.size))
        refine hK.out _ _ ?_ (fun hHeld => ?_)
        · exact Bu41.out
        clear Bu0 X40 hw hb
        clear hK K
        (try simp only [Act.put, uA, uB, uC])
        refine wpAnyH_ready (rs := [3]) (by kernel_rfl) (by simp) ?_
        refine cons_at (i := 3) rfl (fun K hK => ?_) AllReadyH.nil
        go_simp
        refine (D1.out _ Bu41.out).mono ?_
        rintro e uw42 ⟨s7, A7, n7, c7, rfl, hc, hg, hf, hb⟩
        try dsimp only
        have X42 := Lib.hid hb
        have Gu3_42 := Lib.hid hg
        have HCu3 := Lib.hid hc
        have FRu3 : Hid (Fresh w5 A7 n7) := fun hp ad e => Nat.le_trans Bu41.out.size (hf hp ad e)
        have ap3ub12_40 := Lib.hid (show 0 < n7 → ∀ ad, A7 = some ad → ad.block ≠ ub12_40 from fun hp ad e => by have := hf hp ad e; have := Kuub12_400.out.lt; omega)
        have Bu43 := Lib.hid (Bu41.out.trans (X42.out.mono Bu41.out.size))
        have Kuub12_4043 := Lib.hid (Kuub12_400.out.below X42.out Kuub12_400.out.lt)
        refine hK.out _ _ ?_ (fun hHeld => ?_)
        · exact Bu43.out
        clear Bu41 Kuub12_400 X42 hc hg hf hb
        clear hK K
        (try simp only [Act.put, uA, uB, uC])
        refine wpAnyH_ready (rs := [7]) (by kernel_rfl) (by simp) ?_
        refine cons_at (i := 7) rfl (fun K hK => ?_) AllReadyH.nil
        go_simp
        refine (D2.out _ Bu43.out).mono ?_
        rintro e uw44 ⟨s8, A8, n8, c8, rfl, hc, hg, hf, hb⟩
        try dsimp only
        have X44 := Lib.hid hb
        have Gu7_44 := Lib.hid hg
        have HCu7 := Lib.hid hc
        have FRu7 : Hid (Fresh w5 A8 n8) := fun hp ad e => Nat.le_trans Bu43.out.size (hf hp ad e)
        have ap7ub12_40 := Lib.hid (show 0 < n8 → ∀ ad, A8 = some ad → ad.block ≠ ub12_40 from fun hp ad e => by have := hf hp ad e; have := Kuub12_4043.out.lt; omega)
        have Bu45 := Lib.hid (Bu43.out.trans (X44.out.mono Bu43.out.size))
        have Kuub12_4045 := Lib.hid (Kuub12_4043.out.below X44.out Kuub12_4043.out.lt)
        have Gu3_45 := Lib.hid (Gu3_42.out.past X44.out)
        refine hK.out _ _ ?_ (fun hHeld => ?_)
        · exact Bu45.out
        clear Bu43 Kuub12_4043 Gu3_42 X44 hc hg hf hb
        clear hK K
        (try simp only [Act.put, uA, uB, uC])
        refine wpAnyH_ready (rs := [8]) (by kernel_rfl) (by simp) ?_
        refine cons_at (i := 8) rfl (fun K hK => ?_) AllReadyH.nil
        go_simp
        refine (add_F Gu3_45.out Gu7_44.out (by omega) (by omega) c7 c8).mono ?_
        rintro e uw46 ⟨sa, Aa, na, ca, rfl, hc, hg, hf, hb⟩
        try dsimp only
        have X46 := Lib.hid hb
        have Gu8_46 := Lib.hid hg
        have HCu8 := Lib.hid hc
        have FRu8 : Hid (Fresh w5 Aa na) := fun hp ad e => Nat.le_trans Bu45.out.size (hf hp ad e)
        have ap8ub12_40 := Lib.hid (show 0 < na → ∀ ad, Aa = some ad → ad.block ≠ ub12_40 from fun hp ad e => by have := hf hp ad e; have := Kuub12_4045.out.lt; omega)
        have Bu47 := Lib.hid (Bu45.out.trans (X46.out.mono Bu45.out.size))
        have Kuub12_4047 := Lib.hid (Kuub12_4045.out.below X46.out Kuub12_4045.out.lt)
        have Gu3_47 := Lib.hid (Gu3_45.out.past X46.out)
        have Gu7_47 := Lib.hid (Gu7_44.out.past X46.out)
        refine hK.out _ _ ?_ (fun hHeld => ?_)
        · exact Bu47.out
        clear Bu45 Kuub12_4045 Gu3_45 Gu7_44 X46 hc hg hf hb
        clear hK K
        (try simp only [Act.put, uA, uB, uC])
        refine take_at (i := 9) (v := ?uv48) rfl (by kernel_rfl) (by kernel_rfl) (by kernel_rfl) (fun _ _ _ h => h) (Or.inl ⟨by rfl, ?uy48⟩) (by assumption) ?ur48
        case uy48 => (intro w hSw; (try dsimp only at hSw); go_simp; (try with_reducible rfl))
        simp only [Act.put, uA, uB, uC]
        refine take_at (i := 10) (v := ?uv49) rfl (by kernel_rfl) (by kernel_rfl) (by kernel_rfl) (fun _ _ _ h => h) (Or.inl ⟨by rfl, ?uy49⟩) (by assumption) ?ur49
        case uy49 => (intro w hSw; (try dsimp only at hSw); go_simp; (try with_reducible rfl))
        simp only [Act.put, uA, uB, uC]
        refine take_at (i := 11) (v := ?uv50) rfl (by kernel_rfl) (by kernel_rfl) (by kernel_rfl) (fun _ _ _ h => h) (Or.inl ⟨by rfl, ?uy50⟩) (by assumption) ?ur50
        case uy50 => (intro w hSw; (try dsimp only at hSw); go_simp; (try with_reducible rfl))
        simp only [Act.put, uA, uB, uC]
        refine wpAnyH_ready (rs := [13]) (by kernel_rfl) (by simp) ?_
        refine cons_at (i := 13) rfl (fun K hK => ?_) AllReadyH.nil
        obtain ⟨f0, f1, f2, f3⟩ := sm_cells Kuub12_4047.out
        go_simp
        clear f0 f1 f2 f3
        obtain ⟨uw51, hw⟩ : ∃ W', W' = (uw46.setCell ⟨ub12_40, 0, none⟩ (.int .i64 sa)).setCell ⟨ub12_40, 1, none⟩ (.slice Aa na ca) := ⟨_, rfl⟩
        rw [← hw]
        have Bu51 := Lib.hid (below_2 Bu47.out loub12_40 (u := .int .i64 sa) (v := .slice Aa na ca))
        rw [← hw] at Bu51
        have Kuub12_40_51 := Lib.hid (Kuub12_4047.out.set2 (a := .int .i64 sa) (b := .slice Aa na ca))
        rw [← hw] at Kuub12_40_51
        have Gu3_51 := Lib.hid (Gu3_47.out.far2 ap3ub12_40.out (a := .int .i64 sa) (b := .slice Aa na ca))
        rw [← hw] at Gu3_51
        have Gu7_51 := Lib.hid (Gu7_47.out.far2 ap7ub12_40.out (a := .int .i64 sa) (b := .slice Aa na ca))
        rw [← hw] at Gu7_51
        have Gu8_51 := Lib.hid (Gu8_46.out.far2 ap8ub12_40.out (a := .int .i64 sa) (b := .slice Aa na ca))
        rw [← hw] at Gu8_51
        refine hK.out _ _ ?_ (fun hHeld => ?_)
        · exact Bu51.out
        clear Bu47 Kuub12_4047 Gu3_47 Gu7_47 Gu8_46 hw
        clear hK K
        (try simp only [Act.put, uA, uB, uC])
        refine take_at (i := 14) (v := ?uv52) rfl (by kernel_rfl) (by kernel_rfl) (by kernel_rfl) (fun _ _ _ h => h) (Or.inl ⟨by rfl, ?uy52⟩) (by assumption) ?ur52
        case uy52 => (intro w hSw; (try dsimp only at hSw); go_simp; (try with_reducible rfl))
        simp only [Act.put, uA, uB, uC]
        refine wpAnyH_done (by kernel_rfl) ?_ _
        rw [← HP.out] at Gu8_51
        go_wp2_with fail
        go_meet
        exact ⟨rfl, ub12_40, rfl, (show OneB _ _ _ _ _ from ⟨_, _, _, _, ⟨Kuub12_40_51.out, loub12_40, Gu8_51.out, HCu8.out, FRu8.out⟩, Bu51.out⟩)⟩
      case rest =>
        obtain ⟨rfl, b11, rfl, HT6⟩ := hcut
        obtain ⟨w6, rfl⟩ : ∃ w6 : World, w6 = wc := ⟨_, rfl⟩
        obtain ⟨s11, A11, n11, c11, hx11, hb6⟩ := HT6.out
        have S6 := Lib.hid (S5.out.call hb6)
        have K86 := Lib.hid (K85.out.below hb6 K85.out.lt)
        have GG6 := Lib.hid (GG5.out.past hb6)
        have K96 := Lib.hid (X9.out.blk.below hb6 X9.out.blk.lt)
        have G96 := Lib.hid (X9.out.bg.past hb6)
        have X11 := Lib.hid hx11
        have HZH : Hid (Sz (k + k + (k + k) + 1) h) := by show Sz _ _; rw [← HHH.out]; exact gcd_sz hx11.bg.1 (GG6.out.1.mono (by omega))
        have hlo11 : w.heap.size + 1 + 1 < b11 := Nat.lt_of_lt_of_le S5.out.k3.lt hx11.lo
        clear ka0 ka1 ka2 ka3 kb0 kb1 kb2 kb3 k90 k91 ka90 ka91 HT6 hx11 hb6 S5 K85 GG5 X9 X10
        obtain ⟨k80, k81, -, -⟩ := sm_cells K86.out
        obtain ⟨k110, k111, -, -⟩ := sm_cells X11.out.blk
        go_wp2_with fail
        refine (common_F X11.out.bg GG6.out (HT.out.on S6.out.bl) (by omega) (by omega) c11 cg _ h HHH.out HZH.out).mono ?_
        rintro e w7 ⟨sh, Ah, nh, ch, rfl, hch, hgh, hfh, hb⟩
        have S7 := Lib.hid (S6.out.call hb)
        have K97 := Lib.hid (K96.out.below hb K96.out.lt)
        have K117 := Lib.hid (X11.out.blk.below hb X11.out.blk.lt)
        have G97 := Lib.hid (G96.out.past hb)
        have G117 := Lib.hid (X11.out.bg.past hb)
        clear k80 k81 k110 k111 hch hfh hb S6 K86 GG6 K96 G96 X11
        obtain ⟨w8, hw8⟩ : ∃ w8, w8 = w7.alloc (.cells #[.int .i64 sh, .slice Ah nh ch] 24) := ⟨_, rfl⟩
        obtain ⟨b13, hb13⟩ : ∃ b, b = w7.heap.size := ⟨_, rfl⟩
        have X8 := Lib.hid (bal (Below.refl w7.heap.size w7) (o := .cells #[.int .i64 sh, .slice Ah nh ch] 24))
        rw [← hw8] at X8
        have S8 := Lib.hid (S7.out.call X8.out)
        have K98 := Lib.hid (K97.out.below X8.out K97.out.lt)
        have K118 := Lib.hid (K117.out.below X8.out K117.out.lt)
        have G98 := Lib.hid (G97.out.past X8.out)
        have G118 := Lib.hid (G117.out.past X8.out)
        have K138 : Hid (Blk w8 b13 24 #[.int .i64 sh, .slice Ah nh ch]) := by show Blk _ _ _ _; rw [hw8, hb13]; exact Blk.new _ _ _
        have GH : Hid (Bg w8 _ h sh Ah nh) := hgh.past X8.out
        have hlo13 : w.heap.size + 1 + 1 < b13 := by rw [hb13]; exact S7.out.k3.lt
        have hS8 := Lib.hid S8.out.k3.lt
        clear hgh S7 K97 K117 G97 G117 X8
        go_upto_region 8 with (fail)
        rw [← hw8, ← hb13]
        clear hw8 hb13
        obtain ⟨-, -, -, kb2, kb3⟩ := S8.out.cells
        obtain ⟨k90, k91, -, -⟩ := sm_cells K98.out
        obtain ⟨k110, k111, -, -⟩ := sm_cells K118.out
        obtain ⟨k130, k131, -, -⟩ := sm_cells K138.out
        dsimp only at kb2 kb3
        have HC := Lib.hid (fun (w' : World) (h : Below w8.heap.size w8 w') => (⟨(h.cell (p := ⟨b11, 0, none⟩) (World.block_lt_of_cell? _ _ k110)).trans k110, (h.cell (p := ⟨b11, 1, none⟩) (World.block_lt_of_cell? _ _ k111)).trans k111, (h.cell (p := ⟨b13, 0, none⟩) (World.block_lt_of_cell? _ _ k130)).trans k130, (h.cell (p := ⟨b13, 1, none⟩) (World.block_lt_of_cell? _ _ k131)).trans k131, (h.cell (p := ⟨b9, 0, none⟩) (World.block_lt_of_cell? _ _ k90)).trans k90, (h.cell (p := ⟨b9, 1, none⟩) (World.block_lt_of_cell? _ _ k91)).trans k91, (h.cell (p := ⟨w.heap.size + 1, 2, none⟩) (World.block_lt_of_cell? _ _ kb2)).trans kb2, (h.cell (p := ⟨w.heap.size + 1, 3, none⟩) (World.block_lt_of_cell? _ _ kb3)).trans kb3⟩ : w'.cell? ⟨b11, 0, none⟩ = some (.int .i64 s11) ∧ w'.cell? ⟨b11, 1, none⟩ = some (.slice A11 n11 c11) ∧ w'.cell? ⟨b13, 0, none⟩ = some (.int .i64 sh) ∧ w'.cell? ⟨b13, 1, none⟩ = some (.slice Ah nh ch) ∧ w'.cell? ⟨b9, 0, none⟩ = some (.int .i64 s9) ∧ w'.cell? ⟨b9, 1, none⟩ = some (.slice A9 n9 c9) ∧ w'.cell? ⟨w.heap.size + 1, 2, none⟩ = some (.int .i64 s4) ∧ w'.cell? ⟨w.heap.size + 1, 3, none⟩ = some (.slice A4 n4 c4)))
        have D1 := Lib.hid (fun (W : World) (h' : Below w8.heap.size w8 W) => divided_F (G118.out.past h') (GH.out.past h') (by omega) (by omega) (by omega) c11 ch HFP.out)
        have D2 := Lib.hid (fun (W : World) (h' : Below w8.heap.size w8 W) => divided_F (((H2.out.past S8.out.bl).2).past h') (GH.out.past h') (by omega) (by omega) (by omega) c4 ch HFg.out)
        clear kb2 kb3 k90 k91 k110 k111 k130 k131
        have Bv0 := Lib.hid (Below.refl w8.heap.size w8).drew
        have Tv0 := Lib.hid (S8.out.call (Below.refl w8.heap.size w8).drew)
        refine wp_region_held_drew (S := fun w' => w'.cell? ⟨b11, 0, none⟩ = some (.int .i64 s11) ∧ w'.cell? ⟨b11, 1, none⟩ = some (.slice A11 n11 c11) ∧ w'.cell? ⟨b13, 0, none⟩ = some (.int .i64 sh) ∧ w'.cell? ⟨b13, 1, none⟩ = some (.slice Ah nh ch) ∧ w'.cell? ⟨b9, 0, none⟩ = some (.int .i64 s9) ∧ w'.cell? ⟨b9, 1, none⟩ = some (.slice A9 n9 c9) ∧ w'.cell? ⟨w.heap.size + 1, 2, none⟩ = some (.int .i64 s4) ∧ w'.cell? ⟨w.heap.size + 1, 3, none⟩ = some (.slice A4 n4 c4)) (by kernel_rfl) (HC.out _ Bv0.out) (fun hHeld => ?_)
        obtain ⟨vw0, hw⟩ : ∃ W, W = w8.drew := ⟨_, rfl⟩
        rw [← hw] at hHeld Bv0 Tv0 ⊢
        clear hw
        refine take_at (i := 0) (v := ?vv1) rfl (by kernel_rfl) (by kernel_rfl) (by kernel_rfl) (fun _ _ _ h => h) (Or.inl ⟨by rfl, ?vy1⟩) (by assumption) ?vr1
        case vy1 => (intro w hSw; (try dsimp only at hSw); obtain ⟨cc0, cc1, cc2, cc3, cc4, cc5, cc6, cc7⟩ := hSw; go_simp; (try with_reducible rfl))
        simp only [Act.put, uA, uB, uC]
        refine take_at (i := 1) (v := ?vv2) rfl (by kernel_rfl) (by kernel_rfl) (by kernel_rfl) (fun _ _ _ h => h) (Or.inl ⟨by rfl, ?vy2⟩) (by assumption) ?vr2
        case vy2 => (intro w hSw; (try dsimp only at hSw); obtain ⟨cc0, cc1, cc2, cc3, cc4, cc5, cc6, cc7⟩ := hSw; go_simp; (try with_reducible rfl))
        simp only [Act.put, uA, uB, uC]
        refine take_at (i := 3) (v := ?vv3) rfl (by kernel_rfl) (by kernel_rfl) (by kernel_rfl) (fun _ _ _ h => h) (Or.inl ⟨by rfl, ?vy3⟩) (by assumption) ?vr3
        case vy3 => (intro w hSw; (try dsimp only at hSw); obtain ⟨cc0, cc1, cc2, cc3, cc4, cc5, cc6, cc7⟩ := hSw; go_simp; (try with_reducible rfl))
        simp only [Act.put, uA, uB, uC]
        refine take_at (i := 4) (v := ?vv4) rfl (by kernel_rfl) (by kernel_rfl) (by kernel_rfl) (fun _ _ _ h => h) (Or.inl ⟨by rfl, ?vy4⟩) (by assumption) ?vr4
        case vy4 => (intro w hSw; (try dsimp only at hSw); go_simp; (try with_reducible rfl))
        simp only [Act.put, uA, uB, uC]
        refine take_at (i := 5) (v := ?vv5) rfl (by kernel_rfl) (by kernel_rfl) (by kernel_rfl) (fun _ _ _ h => h) (Or.inl ⟨by rfl, ?vy5⟩) (by assumption) ?vr5
        case vy5 => (intro w hSw; (try dsimp only at hSw); obtain ⟨cc0, cc1, cc2, cc3, cc4, cc5, cc6, cc7⟩ := hSw; go_simp; (try with_reducible rfl))
        simp only [Act.put, uA, uB, uC]
        refine take_at (i := 6) (v := ?vv6) rfl (by kernel_rfl) (by kernel_rfl) (by kernel_rfl) (fun _ _ _ h => h) (Or.inl ⟨by rfl, ?vy6⟩) (by assumption) ?vr6
        case vy6 => (intro w hSw; (try dsimp only at hSw); obtain ⟨cc0, cc1, cc2, cc3, cc4, cc5, cc6, cc7⟩ := hSw; go_simp; (try with_reducible rfl))
        simp only [Act.put, uA, uB, uC]
        refine wpAnyH_ready (rs := [2]) (by kernel_rfl) (by simp) ?_
        refine cons_at (i := 2) rfl (fun K hK => ?_) AllReadyH.nil
        go_simp
        refine (D1.out _ Bv0.out).mono ?_
        rintro e vw7 ⟨sp, Ap, np, cp, rfl, hc, hg, hf, hb⟩
        try dsimp only
        have X7 := Lib.hid hb
        have Gv2_7 := Lib.hid hg
        have HCv2 := Lib.hid hc
        have FRv2 : Hid (Fresh w8 Ap np) := fun hp ad e => Nat.le_trans Bv0.out.size (hf hp ad e)
        have Bv8 := Lib.hid (Bv0.out.trans (X7.out.mono Bv0.out.size))
        have Tv8 := Lib.hid (Tv0.out.call X7.out)
        refine hK.out _ _ ?_ (fun hHeld => ?_)
        · exact HC.out _ Bv8.out
        clear Bv0 Tv0 X7 hc hg hf hb
        clear hK K
        (try simp only [Act.put, uA, uB, uC])
        refine wpAnyH_ready (rs := [7]) (by kernel_rfl) (by simp) ?_
        refine cons_at (i := 7) rfl (fun K hK => ?_) AllReadyH.nil
        go_simp
        refine (D2.out _ Bv8.out).mono ?_
        rintro e vw9 ⟨st, At, nt, ct, rfl, hc, hg, hf, hb⟩
        try dsimp only
        have X9 := Lib.hid hb
        have Gv7_9 := Lib.hid hg
        have HCv7 := Lib.hid hc
        have FRv7 : Hid (Fresh w8 At nt) := fun hp ad e => Nat.le_trans Bv8.out.size (hf hp ad e)
        have Bv10 := Lib.hid (Bv8.out.trans (X9.out.mono Bv8.out.size))
        have Gv2_10 := Lib.hid (Gv2_7.out.past X9.out)
        have Tv10 := Lib.hid (Tv8.out.call X9.out)
        refine hK.out _ _ ?_ (fun hHeld => ?_)
        · exact HC.out _ Bv10.out
        clear Bv8 Gv2_7 Tv8 X9 hc hg hf hb
        clear hK K
        (try simp only [Act.put, uA, uB, uC])
        refine wpAnyH_ready (rs := [8]) (by kernel_rfl) (by simp) ?_
        refine cons_at (i := 8) rfl (fun K hK => ?_) AllReadyH.nil
        go_simp
        refine (times_F (G98.out.past Bv10.out) Gv7_9.out (by omega) (by omega) c9 ct).mono ?_
        rintro e vw11 ⟨sq, Aq, nq, cq, rfl, hc, hg, hf, hb⟩
        try dsimp only
        have X11 := Lib.hid hb
        have Gv8_11 := Lib.hid hg
        have HCv8 := Lib.hid hc
        have FRv8 : Hid (Fresh w8 Aq nq) := fun hp ad e => Nat.le_trans Bv10.out.size (hf hp ad e)
        have Bv12 := Lib.hid (Bv10.out.trans (X11.out.mono Bv10.out.size))
        have Gv2_12 := Lib.hid (Gv2_10.out.past X11.out)
        have Gv7_12 := Lib.hid (Gv7_9.out.past X11.out)
        have Tv12 := Lib.hid (Tv10.out.call X11.out)
        refine hK.out _ _ ?_ (fun hHeld => ?_)
        · exact HC.out _ Bv12.out
        clear Bv10 Gv2_10 Gv7_9 Tv10 X11 hc hg hf hb
        clear hK K
        (try simp only [Act.put, uA, uB, uC])
        refine take_at (i := 9) (v := ?vv13) rfl (by kernel_rfl) (by kernel_rfl) (by kernel_rfl) (fun _ _ _ h => h) (Or.inl ⟨by rfl, ?vy13⟩) (by assumption) ?vr13
        case vy13 => (intro w hSw; (try dsimp only at hSw); go_simp; (try with_reducible rfl))
        simp only [Act.put, uA, uB, uC]
        refine wpAnyH_ready (rs := [10]) (by kernel_rfl) (by simp) ?_
        refine cons_at (i := 10) rfl (fun K hK => ?_) AllReadyH.nil
        obtain ⟨f0, f1, f2, f3, f4, f5, f6, f7⟩ := fr_cells Tv12.out.k3
        go_simp
        clear f0 f1 f2 f3 f4 f5 f6 f7
        obtain ⟨wf, hwf, r0, r1, r2, r3, kE⟩ := fr_end Tv12.out.k3 (by omega) hS8.out Tv12.out.bl ((by have := Gv2_12.out; rw [← HL.out.num] at this; exact this.as HS.out.1 : Bg _ _ (x + y).num _ _ _)) ((by have := Gv8_11.out; rw [← HL.out.den] at this; exact this.as HS.out.2 : Bg _ _ ((x + y).den : Int) _ _ _)) FRv2.out FRv8.out HCv2.out HCv8.out (Low.self _)
        have HE := Lib.hid kE
        clear kE
        refine hK.out _ _ ?_ (fun hHeld => ?_)
        · obtain ⟨cc0, cc1, cc2, cc3, cc4, cc5, cc6, cc7⟩ := HC.out _ Bv12.out
          exact ⟨stc4 cc0 (by dsimp only; omega), stc4 cc1 (by dsimp only; omega), stc4 cc2 (by dsimp only; omega), stc4 cc3 (by dsimp only; omega), stc4 cc4 (by dsimp only; omega), stc4 cc5 (by dsimp only; omega), stc4 cc6 (by dsimp only; omega), stc4 cc7 (by dsimp only; omega)⟩
        clear hK K
        (try simp only [Act.put, uA, uB, uC])
        refine wpAnyH_done (by kernel_rfl) ?_ _
        go_wp2_with fail
        rw [← hwf]
        clear hwf
        exact bodyPost_ret (v := .agg #[.int .i64 sp, .slice Ap np cp, .int .i64 sq, .slice Aq nq cq]) (by simp [results, Tryz.results151, go_sem, r0, r1, r2, r3]) rfl HE.out
end
end Go.Proofs.YtikfjmdeeknalaaGreatDoor
