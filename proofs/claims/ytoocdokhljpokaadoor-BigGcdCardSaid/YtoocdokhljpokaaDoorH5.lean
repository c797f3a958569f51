/- The walk of the law BigGcd. Conditions: the arguments' memory, the tables of math/bits and strconv. -/
import Derived.Test.YtoocdokhljpokaaDoorH2
import Derived.Deep.DeepCutAuto
namespace Go.Proofs.YtoocdokhljpokaaDoor
set_option maxRecDepth 8000
open Go.RowKit
set_option maxRecDepth 100000 in
set_option maxHeartbeats 8000000 in
theorem gcd_B_n (s1a : Int) (A1a : Option Addr) (n1a c1a : Nat) (l1a : List Int) (s2a : Int) (A2a : Option Addr) (n2a c2a : Nat) (l2a : List Int) (s3a : Int) (A3a : Option Addr) (n3a c3a : Nat) (l3a : List Int) (w : World) (ha1 : BigArg w ⟨s1a, A1a, n1a, c1a⟩ l1a) (ha2 : BigArg w ⟨s2a, A2a, n2a, c2a⟩ l2a) (ha3 : BigArg w ⟨s3a, A3a, n3a, c3a⟩ l3a) (hT : Tab w) (hZ : TabZ w) (t0 : (n1a : Int) ≤ 12) (t1 : (n2a : Int) ≤ 12) (t2 : (n3a : Int) ≤ 4) (t3 : rightB s1a l1a = true) (t4 : rightB s2a l2a = true) (t5 : rightB s3a l3a = true) (x1 x2 x3 : Int) (hx1 : Bg w 12 x1 s1a A1a n1a) (hx2 : Bg w 12 x2 s2a A2a n2a) (hx3 : Bg w 4 x3 s3a A3a n3a) (ha0 : x1 = 0) (hb0 : x2 ≠ 0) (hc0 : x3 < 0) :
    Calls Tryd.prog 3 #[.agg #[.int .i64 s1a, .slice A1a n1a c1a], .agg #[.int .i64 s2a, .slice A2a n2a c2a], .agg #[.int .i64 s3a, .slice A3a n3a c3a]] w fun e w' => e = .returned (.bool true) ∧ Below w.heap.size w w' := by
  obtain rfl : s1a = 0 := by
    have := hx1.sign
    omega
  subst ha0
  have hs2 : ¬ s2a = 0 := by
    have := hx2.sign
    omega
  have hs2e := beq_no hs2
  obtain rfl : s3a = -1 := by
    have := hx3.sign
    omega
  obtain ⟨G, hG⟩ : ∃ G : Int, ((Int.gcd 0 x2 : Nat) : Int) = G := ⟨_, rfl⟩
  have HG := Lib.hid hG
  have HZG : Hid (Sz 12 G) := by show Sz 12 G; rw [← hG]; exact gcd_sz hx1.1 hx2.1
  have HGN : Hid (((Int.gcd (-x2) 0 : Nat) : Int) = G) := by show _ = _; rw [← hG, Int.neg_gcd, Int.gcd_comm]
  have HD1 : Hid (G ∣ 0) := by show G ∣ 0; rw [← hG]; exact Int.gcd_dvd_left ..
  have HD2 : Hid (G ∣ x2) := by show G ∣ x2; rw [← hG]; exact Int.gcd_dvd_right ..
  have hGp : 0 < G := by
    rw [← hG]
    have : 0 < Int.gcd 0 x2 := Int.gcd_pos_of_ne_zero_right _ (by assumption)
    omega
  have HX12 : Hid (Sz 12 0 ∧ Sz 12 x2) := ⟨hx1.1, hx2.1⟩
  have HX3S : Hid (Sz 4 x3) := hx3.1
  have HC0 := Lib.hid hc0
  clear hG hc0
  clear hb0 hs2
  have HX1 := Lib.hid hx1
  have HX2 := Lib.hid hx2
  have HX3 := Lib.hid hx3
  clear hx1 hx2 hx3
  have HR3 := Lib.hid t3
  clear t3
  have HR4 := Lib.hid t4
  clear t4
  have HR5 := Lib.hid t5
  clear t5
  have HT := Lib.hid hT
  have HZ := Lib.hid hZ
  have HA1 := Lib.hid ha1
  have HA2 := Lib.hid ha2
  have HA3 := Lib.hid ha3
  clear hT hZ ha1 ha2 ha3
  have K := Lib.hid (show BxA w _ [⟨0, A1a, n1a, c1a⟩, ⟨s2a, A2a, n2a, c2a⟩, ⟨-1, A3a, n3a, c3a⟩] from ((((BxA.new w).box (by simp) ⟨0, A1a, n1a, c1a⟩).box (by simp) ⟨s2a, A2a, n2a, c2a⟩).box (by simp) ⟨-1, A3a, n3a, c3a⟩))
  go_enter Tryd.func3, Tryd.ntmps3
  go_wp2_with fail
  refine (small_any _ (HT.out.on K.out.bl) (HZ.out.on K.out.bl)).mono ?_
  rintro e wa0 ⟨rfl, hb⟩
  have K0 := Lib.hid (K.out.call hb)
  clear hb K
  have zb := K0.out.bx 0 _ rfl
  have z0 := zb.c0
  have z1 := zb.c1
  clear zb
  simp only [Nat.add_zero] at z0 z1
  go_wp2_with fail
  refine (few_T _ t0).mono ?_
  rintro e wa1 ⟨rfl, hb⟩
  have K1 := Lib.hid (K0.out.call hb)
  clear hb z0 z1 K0
  have zb := K1.out.bx 1 _ rfl
  have z0 := zb.c0
  have z1 := zb.c1
  clear zb
  go_wp2_with fail
  refine (few_T _ t1).mono ?_
  rintro e wa2 ⟨rfl, hb⟩
  have K2 := Lib.hid (K1.out.call hb)
  clear hb z0 z1 K1
  have zb := K2.out.bx 2 _ rfl
  have z0 := zb.c0
  have z1 := zb.c1
  clear zb
  rw [show w.heap.size + 2 = w.heap.size + 1 + 1 from rfl] at z0 z1
  go_wp2_with fail
  refine (few_T _ t2).mono ?_
  rintro e wa3 ⟨rfl, hb⟩
  have K3 := Lib.hid (K2.out.call hb)
  clear hb z0 z1 K2
  have zb := K3.out.bx 0 _ rfl
  have z0 := zb.c0
  have z1 := zb.c1
  clear zb
  simp only [Nat.add_zero] at z0 z1
  go_wp2_with fail
  refine (right_is HA1.out (by dsimp only; omega) K3.out.bl HR3.out).mono ?_
  rintro e wa4 ⟨rfl, hb⟩
  have K4 := Lib.hid (K3.out.call hb)
  clear hb z0 z1 K3
  have zb := K4.out.bx 1 _ rfl
  have z0 := zb.c0
  have z1 := zb.c1
  clear zb
  go_wp2_with fail
  refine (right_is HA2.out (by dsimp only; omega) K4.out.bl HR4.out).mono ?_
  rintro e wa5 ⟨rfl, hb⟩
  have K5 := Lib.hid (K4.out.call hb)
  clear hb z0 z1 K4
  have zb := K5.out.bx 2 _ rfl
  have z0 := zb.c0
  have z1 := zb.c1
  clear zb
  rw [show w.heap.size + 2 = w.heap.size + 1 + 1 from rfl] at z0 z1
  go_wp2_with fail
  refine (right_is HA3.out (by dsimp only; omega) K5.out.bl HR5.out).mono ?_
  rintro e wa6 ⟨rfl, hb⟩
  have K6 := Lib.hid (K5.out.call hb)
  clear hb z0 z1 K5
  have S0 := Lib.hid (K6.out.st3 HX1.out HX2.out HX3.out)
  clear K6 HX1 HA1 HX2 HA2 HX3 HA3 HT HR3 HR4 HR5
  have Fa := S0.out.bx _ (List.mem_of_getElem? (i := 0) rfl)
  dsimp only at Fa
  have za0 := Fa.1.c0
  have za1 := Fa.1.c1
  have Ga := Lib.hid Fa.2
  clear Fa
  have Fb := S0.out.bx _ (List.mem_of_getElem? (i := 1) rfl)
  dsimp only at Fb
  have zb0 := Fb.1.c0
  have zb1 := Fb.1.c1
  have Gb := Lib.hid Fb.2
  clear Fb
  have M := Lib.hid (gcd_F Ga.out Gb.out (HZ.out.on S0.out.bl) (by decide) (by decide) c1a c2a 12 G (HG.out) (HZG.out))
  go_wp2_with fail
  refine M.out.mono ?_
  rintro e w1 ⟨s1, A1, n1, c1, rfl, -, hg1, hf1, hb1⟩
  have S1 := Lib.hid (S0.out.made hb1 hg1 hf1 c1)
  clear hg1 hf1 hb1 M S0
  clear za0 za1 Ga zb0 zb1 Gb
  have FS := S1.out.bx _ (List.mem_of_getElem? (i := 0) rfl)
  dsimp only at FS
  obtain rfl : s1 = 1 := by
    have := FS.2.sign
    omega
  clear FS
  go_upto_region 5 with (fail)
  generalize hwq : (w1.alloc (.cells #[.int .i64 1, .slice A1 n1 c1] 24)) = wq at S1 ⊢
  clear hwq
  have Fa := S1.out.bx _ (List.mem_of_getElem? (i := 1) rfl)
  dsimp only at Fa
  have za0 := Fa.1.c0
  have za1 := Fa.1.c1
  have Ga := Lib.hid Fa.2
  clear Fa
  have Fb := S1.out.bx _ (List.mem_of_getElem? (i := 2) rfl)
  dsimp only at Fb
  have zb0 := Fb.1.c0
  have zb1 := Fb.1.c1
  have Gb := Lib.hid Fb.2
  clear Fb
  obtain ⟨L2, HL2⟩ : ∃ L : List BoxR, Hid (L = [⟨w1.heap.size, 12, G, 1, A1, n1, c1⟩, ⟨w.heap.size, 12, 0, 0, A1a, n1a, c1a⟩, ⟨w.heap.size + 1, 12, x2, s2a, A2a, n2a, c2a⟩, ⟨w.heap.size + 1 + 1, 4, x3, -1, A3a, n3a, c3a⟩]) := ⟨_, rfl⟩
  rw [← HL2.out] at S1
  have hlta : w.heap.size < wq.heap.size := World.block_lt_of_cell? _ _ za0
  have hltb : w.heap.size + 1 < wq.heap.size := World.block_lt_of_cell? _ _ zb0
  go_cut [10, 11] (fun sp sq wc => sq = .int .i64 0 ∧ ∃ b s A n c, sp = .pointer (some ⟨b, 0, none⟩) ∧ Hid (StR w wc (⟨b, 12, G, s, A, n, c⟩ :: L2)))
  case first =>
    have SD := Lib.hid (S1.out.call (Below.refl _ _).drew)
    have SN : Hid (StR w (wq.alloc (.cells #[.int .i64 0, .slice none 0 0] 24)).drew (⟨wq.heap.size, 4, 0, 0, none, 0, 0⟩ :: L2)) := (S1.out.made (Below.refl _ _) (Bg.nil _ 4) (fun h => absurd h (by omega)) 0).call (Below.refl _ _).drew
    have NB1 := Lib.hid (neg_F (Gb.out.past (Below.refl wq.heap.size wq).drew) (by decide) c2a)
    have NB2 := Lib.hid (neg_F (Gb.out.past ((Below.refl wq.heap.size wq).alloc (Nat.le_refl _) (.cells #[.int .i64 0, .slice none 0 0] 24)).drew) (by decide) c2a)
    go_region_held3 (fun w' => w'.cell? ⟨w.heap.size, 0, none⟩ = some (.int .i64 0) ∧ w'.cell? ⟨w.heap.size, 1, none⟩ = some (.slice A1a n1a c1a) ∧ w'.cell? ⟨w.heap.size + 1, 0, none⟩ = some (.int .i64 s2a) ∧ w'.cell? ⟨w.heap.size + 1, 1, none⟩ = some (.slice A2a n2a c2a))
      (first | exact ⟨ya0, ya1, yb0, yb1⟩ | exact ⟨alc ya0, alc ya1, alc yb0, alc yb1⟩ | exact ⟨ua0, ua1, ub0, ub1⟩ | exact ⟨alc ua0, alc ua1, alc ub0, alc ub1⟩ | exact ⟨za0, za1, zb0, zb1⟩ | exact ⟨alc za0, alc za1, alc zb0, alc zb1⟩ | exact ⟨stc ya0 (by have := B0.out.size; dsimp only; omega), stc ya1 (by have := B0.out.size; dsimp only; omega), stc yb0 (by have := B0.out.size; dsimp only; omega), stc yb1 (by have := B0.out.size; dsimp only; omega)⟩ | exact ⟨stc (stc ya0 (by have := B0.out.size; dsimp only; omega)) (by have := B0.out.size; dsimp only; omega), stc (stc ya1 (by have := B0.out.size; dsimp only; omega)) (by have := B0.out.size; dsimp only; omega), stc (stc yb0 (by have := B0.out.size; dsimp only; omega)) (by have := B0.out.size; dsimp only; omega), stc (stc yb1 (by have := B0.out.size; dsimp only; omega)) (by have := B0.out.size; dsimp only; omega)⟩)
      (first | (go_at_call 8; (first | ((with_reducible refine NB1.out.mono ?_); (rintro e wo ⟨so, Ao, no, co, rfl, -, ho, fo, bo⟩; have SO := Lib.hid (SD.out.call bo); have B0 := Lib.hid ((Below.refl wq.heap.size wq).drew.trans bo); have TZ := Lib.hid (HZ.out.on SO.out.bl))) | ((with_reducible refine NB2.out.mono ?_); (rintro e wo ⟨so, Ao, no, co, rfl, -, ho, fo, bo⟩; have SO2 := Lib.hid (SN.out.call bo); have B0 := Lib.hid (((Below.refl wq.heap.size wq).alloc (Nat.le_refl _) (.cells #[.int .i64 0, .slice none 0 0] 24)).drew.trans (bo.mono (by simp))); have TZ := Lib.hid (HZ.out.on SO2.out.bl)))); have ua0 := (B0.out.cell (p := ⟨w.heap.size, 0, none⟩) hlta).trans za0; have ua1 := (B0.out.cell (p := ⟨w.heap.size, 1, none⟩) hlta).trans za1; have ub0 := (B0.out.cell (p := ⟨w.heap.size + 1, 0, none⟩) hltb).trans zb0; have ub1 := (B0.out.cell (p := ⟨w.heap.size + 1, 1, none⟩) hltb).trans zb1; have HOg := Lib.hid ho; clear ho fo bo) | (go_at_call 7; (first | ((with_reducible refine (gcd_F HOg.out (Ga.out.past B0.out) TZ.out (by decide) (by decide) _ _ 12 G HGN.out HZG.out).mono ?_); rintro e w2 ⟨s2, A2, n2, c2, rfl, -, h2, f2, b2⟩; have B2 := Lib.hid (B0.out.trans (b2.mono B0.out.size))) | ((with_reducible refine (gcd_F (HOg.out.past ((Below.refl _ _).alloc (Nat.le_refl _) _)) (Ga.out.past (B0.out.alloc B0.out.size _)) (TZ.out.on ((Below.refl _ _).alloc (Nat.le_refl _) _)) (by decide) (by decide) _ _ 12 G HGN.out HZG.out).mono ?_); rintro e w2 ⟨s2, A2, n2, c2, rfl, -, h2, f2, b2⟩; have B2 := Lib.hid ((B0.out.alloc B0.out.size _).trans (b2.mono (Nat.le_trans B0.out.size (by simp)))))); have ya0 := (B2.out.cell (p := ⟨w.heap.size, 0, none⟩) hlta).trans za0; have ya1 := (B2.out.cell (p := ⟨w.heap.size, 1, none⟩) hlta).trans za1; have yb0 := (B2.out.cell (p := ⟨w.heap.size + 1, 0, none⟩) hltb).trans zb0; have yb1 := (B2.out.cell (p := ⟨w.heap.size + 1, 1, none⟩) hltb).trans zb1; (first | (have PP := Lib.hid (SO2.out.put b2 h2 f2 c2 (i := 0) rfl); have QQ := (SO2.out.call b2).bx _ List.mem_cons_self; have q0 := QQ.1.c0; have q1 := QQ.1.c1; have q2 := QQ.1.frozen 0; have q3 := QQ.1.frozen 1; clear QQ) | (have PP := Lib.hid ((SO.out.made (Below.refl _ _) (Bg.nil _ 4) (fun h => absurd h (by omega)) 0).put b2 h2 f2 c2 (i := 0) rfl); have QQ := ((SO.out.made (Below.refl _ _) (Bg.nil _ 4) (fun h => absurd h (by omega)) 0).call b2).bx _ List.mem_cons_self; have q0 := QQ.1.c0; have q1 := QQ.1.c1; have q2 := QQ.1.frozen 0; have q3 := QQ.1.frozen 1; clear QQ) | (have PP := Lib.hid (SO.out.made b2 h2 f2 c2))); clear h2 f2 b2))
    all_goals
      go_wp2_with fail
      go_meet
      exact ⟨rfl, _, _, _, _, _, rfl, PP⟩
  obtain ⟨rfl, b2, s2, A2, n2, c2, rfl, S2⟩ := hcut
  rw [HL2.out] at S2
  clear S1 hlta hltb za0 za1 zb0 zb1 Ga Gb HL2
  have Fg := S2.out.bx _ (List.mem_of_getElem? (i := 1) rfl)
  dsimp only at Fg
  have zg0 := Fg.1.c0
  have zg1 := Fg.1.c1
  have Gg := Lib.hid Fg.2
  clear Fg
  have Fh := S2.out.bx _ (List.mem_of_getElem? (i := 0) rfl)
  dsimp only at Fh
  have zh0 := Fh.1.c0
  have zh1 := Fh.1.c1
  have Gh := Lib.hid Fh.2
  clear Fh
  have M := Lib.hid (same_B Gg.out Gh.out (by decide) (by decide) c1 c2 (r := true) (decide_eq_true rfl))
  go_wp2_with fail
  refine M.out.mono ?_
  rintro e w3 ⟨rfl, hb3⟩
  have S3 := Lib.hid (S2.out.call hb3)
  clear hb3 M S2
  clear zg0 zg1 Gg zh0 zh1 Gh
  have Fa := S3.out.bx _ (List.mem_of_getElem? (i := 2) rfl)
  dsimp only at Fa
  have za0 := Fa.1.c0
  have za1 := Fa.1.c1
  have Ga := Lib.hid Fa.2
  clear Fa
  have Fg := S3.out.bx _ (List.mem_of_getElem? (i := 1) rfl)
  dsimp only at Fg
  have zg0 := Fg.1.c0
  have zg1 := Fg.1.c1
  have Gg := Lib.hid Fg.2
  clear Fg
  have Fb := S3.out.bx _ (List.mem_of_getElem? (i := 3) rfl)
  dsimp only at Fb
  have zb0 := Fb.1.c0
  clear Fb
  have M := Lib.hid (div_F Ga.out Gg.out (by omega) (by decide) (by decide) c1a c1)
  go_wp2_with fail
  refine M.out.mono ?_
  rintro e w4 ⟨q4, r4, s4, A4, n4, c4, s4', A4', n4', c4', rfl, hv4, hq4, hr4, hb4⟩
  obtain rfl : r4 = 0 := floor_zero hv4 hGp HD1.out
  obtain rfl : s4' = 0 := by
    have := hr4.sign
    omega
  have T4 := Lib.hid (((StB.mk S3.out.bl S3.out.bx).call hb4).box2 c4 c4' hq4 hr4)
  have S4 := Lib.hid (S3.out.call ((hb4.alloc hb4.size (.cells #[.int .i64 s4, .slice A4 n4 c4] 24)).alloc (by have := hb4.size; (try simp at this); simp; omega) (.cells #[.int .i64 0, .slice A4' n4' c4'] 24)))
  have HV4 := Lib.hid hv4
  clear hv4 hq4 hr4 hb4 M S3
  clear za0 za1 Ga zg0 zg1 Gg
  clear zb0
  have Fb := S4.out.bx _ (List.mem_of_getElem? (i := 3) rfl)
  dsimp only at Fb
  have zb0 := Fb.1.c0
  have zb1 := Fb.1.c1
  have Gb := Lib.hid Fb.2
  clear Fb
  have Fg := S4.out.bx _ (List.mem_of_getElem? (i := 1) rfl)
  dsimp only at Fg
  have zg0 := Fg.1.c0
  have zg1 := Fg.1.c1
  have Gg := Lib.hid Fg.2
  clear Fg
  have M := Lib.hid (div_F Gb.out Gg.out (by omega) (by decide) (by decide) c2a c1)
  go_wp2_with fail
  refine M.out.mono ?_
  rintro e w5 ⟨q5, r5, s5, A5, n5, c5, s5', A5', n5', c5', rfl, hv5, hq5, hr5, hb5⟩
  obtain rfl : r5 = 0 := floor_zero hv5 hGp HD2.out
  obtain rfl : s5' = 0 := by
    have := hr5.sign
    omega
  have T5 := Lib.hid ((T4.out.call hb5).box2 c5 c5' hq5 hr5)
  have S5 := Lib.hid (S4.out.call ((hb5.alloc hb5.size (.cells #[.int .i64 s5, .slice A5 n5 c5] 24)).alloc (by have := hb5.size; (try simp at this); simp; omega) (.cells #[.int .i64 0, .slice A5' n5' c5'] 24)))
  have HV5 := Lib.hid hv5
  clear hv5 hq5 hr5 hb5 M S4 T4
  clear zb0 zb1 Gb zg0 zg1 Gg
  have Fr1 := T5.out.bx _ (List.mem_of_getElem? (i := 2) rfl)
  dsimp only at Fr1
  have zr10 := Fr1.1.c0
  have zr11 := Fr1.1.c1
  have Gr1 := Lib.hid Fr1.2
  clear Fr1
  have Fr2 := T5.out.bx _ (List.mem_of_getElem? (i := 0) rfl)
  dsimp only at Fr2
  have zr20 := Fr2.1.c0
  have zr21 := Fr2.1.c1
  have Gr2 := Lib.hid Fr2.2
  clear Fr2
  have Fa := S5.out.bx _ (List.mem_of_getElem? (i := 2) rfl)
  dsimp only at Fa
  have za0 := Fa.1.c0
  have za1 := Fa.1.c1
  have Ga := Lib.hid Fa.2
  clear Fa
  have Fc := S5.out.bx _ (List.mem_of_getElem? (i := 4) rfl)
  dsimp only at Fc
  have zc0 := Fc.1.c0
  have zc1 := Fc.1.c1
  have Gc := Lib.hid Fc.2
  clear Fc
  have M := Lib.hid (mul_F Ga.out Gc.out (by decide) (by decide) c1a c3a)
  go_wp2_with fail
  refine M.out.mono ?_
  rintro e w6 ⟨s6, A6, n6, c6, rfl, -, hg6, hf6, hb6⟩
  have S6 := Lib.hid (S5.out.made hb6 hg6 hf6 c6)
  clear hg6 hf6 hb6 M S5
  clear za0 za1 Ga zc0 zc1 Gc
  clear zr10 zr11 Gr1
  clear zr20 zr21 Gr2
  clear T5
  have Fb := S6.out.bx _ (List.mem_of_getElem? (i := 4) rfl)
  dsimp only at Fb
  have zb0 := Fb.1.c0
  have zb1 := Fb.1.c1
  have Gb := Lib.hid Fb.2
  clear Fb
  have Fc := S6.out.bx _ (List.mem_of_getElem? (i := 5) rfl)
  dsimp only at Fc
  have zc0 := Fc.1.c0
  have zc1 := Fc.1.c1
  have Gc := Lib.hid Fc.2
  clear Fc
  have M := Lib.hid (mul_F Gb.out Gc.out (by decide) (by decide) c2a c3a)
  go_wp2_with fail
  refine M.out.mono ?_
  rintro e w7 ⟨s7, A7, n7, c7, rfl, -, hg7, hf7, hb7⟩
  have S7 := Lib.hid (S6.out.made hb7 hg7 hf7 c7)
  clear hg7 hf7 hb7 M S6
  clear zb0 zb1 Gb zc0 zc1 Gc
  have Fx := S7.out.bx _ (List.mem_of_getElem? (i := 1) rfl)
  dsimp only at Fx
  have zx0 := Fx.1.c0
  have zx1 := Fx.1.c1
  have Gx := Lib.hid Fx.2
  clear Fx
  have Fy := S7.out.bx _ (List.mem_of_getElem? (i := 0) rfl)
  dsimp only at Fy
  have zy0 := Fy.1.c0
  have zy1 := Fy.1.c1
  have Gy := Lib.hid Fy.2
  clear Fy
  have M := Lib.hid (gcd_F Gx.out Gy.out (HZ.out.on S7.out.bl) (by decide) (by decide) c6 c7 16 (G * (x3.natAbs : Int)) (by rw [Int.gcd_mul_right, Int.natCast_mul, HG.out]) (by rw [show G * (x3.natAbs : Int) = ((Int.gcd (0 * x3) (x2 * x3) : Nat) : Int) by rw [Int.gcd_mul_right, Int.natCast_mul, HG.out]]; exact gcd_sz (HX12.out.1.mul HX3S.out) (HX12.out.2.mul HX3S.out)))
  go_wp2_with fail
  refine M.out.mono ?_
  rintro e w8 ⟨s8, A8, n8, c8, rfl, -, hg8, hf8, hb8⟩
  have S8 := Lib.hid (S7.out.made hb8 hg8 hf8 c8)
  clear hg8 hf8 hb8 M S7
  clear zx0 zx1 Gx zy0 zy1 Gy
  have Fg := S8.out.bx _ (List.mem_of_getElem? (i := 4) rfl)
  dsimp only at Fg
  have zg0 := Fg.1.c0
  have zg1 := Fg.1.c1
  have Gg := Lib.hid Fg.2
  clear Fg
  have Fc := S8.out.bx _ (List.mem_of_getElem? (i := 7) rfl)
  dsimp only at Fc
  have zc0 := Fc.1.c0
  have zc1 := Fc.1.c1
  have Gc := Lib.hid Fc.2
  clear Fc
  have M := Lib.hid (mul_F Gg.out Gc.out (by decide) (by decide) c1 c3a)
  go_wp2_with fail
  refine M.out.mono ?_
  rintro e w9 ⟨s9, A9, n9, c9, rfl, -, hg9, hf9, hb9⟩
  have S9 := Lib.hid (S8.out.made hb9 hg9 hf9 c9)
  clear hg9 hf9 hb9 M S8
  clear zg0 zg1 Gg zc0 zc1 Gc
  have Fc := S9.out.bx _ (List.mem_of_getElem? (i := 8) rfl)
  dsimp only at Fc
  have zc0 := Fc.1.c0
  clear Fc
  have Fm := S9.out.bx _ (List.mem_of_getElem? (i := 0) rfl)
  dsimp only at Fm
  have zm0 := Fm.1.c0
  have zm1 := Fm.1.c1
  have Gm := Lib.hid Fm.2
  clear Fm
  have M := Lib.hid (neg_F Gm.out (by decide) c9)
  go_wp2_with fail
  refine M.out.mono ?_
  rintro e w10 ⟨s10, A10, n10, c10, rfl, -, hg10, hf10, hb10⟩
  have S10 := Lib.hid (S9.out.put hb10 hg10 hf10 c10 (i := 0) rfl)
  simp only [List.set_cons_zero] at S10
  have cz0 := (S9.out.call hb10).bx _ (List.mem_of_getElem? (i := 0) rfl)
  dsimp only at cz0
  have cz1 := cz0.1.c0
  have cz2 := cz0.1.c1
  have cz3 := cz0.1.frozen 0
  have cz4 := cz0.1.frozen 1
  clear cz0
  clear hg10 hf10 hb10 M S9 zc0 zm0 zm1 Gm
  have Fk2 := S10.out.bx _ (List.mem_of_getElem? (i := 1) rfl)
  dsimp only at Fk2
  have zk20 := Fk2.1.c0
  have zk21 := Fk2.1.c1
  have Gk2 := Lib.hid Fk2.2
  clear Fk2
  have Fm := S10.out.bx _ (List.mem_of_getElem? (i := 0) rfl)
  dsimp only at Fm
  have zm0 := Fm.1.c0
  have zm1 := Fm.1.c1
  have Gm := Lib.hid Fm.2
  clear Fm
  have M := Lib.hid (same_B Gk2.out Gm.out (by decide) (by decide) c8 c10 (r := true) (decide_eq_true (by have := HC0.out; rw [show (x3.natAbs : Int) = -x3 by omega]; grind)))
  go_wp2_with fail
  clear cz1 cz2 cz3 cz4
  refine M.out.mono ?_
  rintro e w11 ⟨rfl, hb11⟩
  have S11 := Lib.hid (S10.out.call hb11)
  clear hb11 M
  go_wp2_with fail
  go_ret
  exact ⟨by first | rfl | simp, S11.out.bl⟩
set_option maxRecDepth 100000 in
set_option maxHeartbeats 8000000 in
theorem gcd_B_p (s1a : Int) (A1a : Option Addr) (n1a c1a : Nat) (l1a : List Int) (s2a : Int) (A2a : Option Addr) (n2a c2a : Nat) (l2a : List Int) (s3a : Int) (A3a : Option Addr) (n3a c3a : Nat) (l3a : List Int) (w : World) (ha1 : BigArg w ⟨s1a, A1a, n1a, c1a⟩ l1a) (ha2 : BigArg w ⟨s2a, A2a, n2a, c2a⟩ l2a) (ha3 : BigArg w ⟨s3a, A3a, n3a, c3a⟩ l3a) (hT : Tab w) (hZ : TabZ w) (t0 : (n1a : Int) ≤ 12) (t1 : (n2a : Int) ≤ 12) (t2 : (n3a : Int) ≤ 4) (t3 : rightB s1a l1a = true) (t4 : rightB s2a l2a = true) (t5 : rightB s3a l3a = true) (x1 x2 x3 : Int) (hx1 : Bg w 12 x1 s1a A1a n1a) (hx2 : Bg w 12 x2 s2a A2a n2a) (hx3 : Bg w 4 x3 s3a A3a n3a) (ha0 : x1 = 0) (hb0 : x2 ≠ 0) (hc0 : 0 ≤ x3) :
    Calls Tryd.prog 3 #[.agg #[.int .i64 s1a, .slice A1a n1a c1a], .agg #[.int .i64 s2a, .slice A2a n2a c2a], .agg #[.int .i64 s3a, .slice A3a n3a c3a]] w fun e w' => e = .returned (.bool true) ∧ Below w.heap.size w w' := by
  obtain rfl : s1a = 0 := by
    have := hx1.sign
    omega
  subst ha0
  have hs2 : ¬ s2a = 0 := by
    have := hx2.sign
    omega
  have hs2e := beq_no hs2
  have hs3 : decide (s3a < 0) = false := decide_eq_false (by
    have := hx3.sign
    omega)
  obtain ⟨G, hG⟩ : ∃ G : Int, ((Int.gcd 0 x2 : Nat) : Int) = G := ⟨_, rfl⟩
  have HG := Lib.hid hG
  have HZG : Hid (Sz 12 G) := by show Sz 12 G; rw [← hG]; exact gcd_sz hx1.1 hx2.1
  have HGN : Hid (((Int.gcd (-x2) 0 : Nat) : Int) = G) := by show _ = _; rw [← hG, Int.neg_gcd, Int.gcd_comm]
  have HD1 : Hid (G ∣ 0) := by show G ∣ 0; rw [← hG]; exact Int.gcd_dvd_left ..
  have HD2 : Hid (G ∣ x2) := by show G ∣ x2; rw [← hG]; exact Int.gcd_dvd_right ..
  have hGp : 0 < G := by
    rw [← hG]
    have : 0 < Int.gcd 0 x2 := Int.gcd_pos_of_ne_zero_right _ (by assumption)
    omega
  have HX12 : Hid (Sz 12 0 ∧ Sz 12 x2) := ⟨hx1.1, hx2.1⟩
  have HX3S : Hid (Sz 4 x3) := hx3.1
  have HC0 := Lib.hid hc0
  clear hG hc0
  clear hb0 hs2
  have HX1 := Lib.hid hx1
  have HX2 := Lib.hid hx2
  have HX3 := Lib.hid hx3
  clear hx1 hx2 hx3
  have HR3 := Lib.hid t3
  clear t3
  have HR4 := Lib.hid t4
  clear t4
  have HR5 := Lib.hid t5
  clear t5
  have HT := Lib.hid hT
  have HZ := Lib.hid hZ
  have HA1 := Lib.hid ha1
  have HA2 := Lib.hid ha2
  have HA3 := Lib.hid ha3
  clear hT hZ ha1 ha2 ha3
  have K := Lib.hid (show BxA w _ [⟨0, A1a, n1a, c1a⟩, ⟨s2a, A2a, n2a, c2a⟩, ⟨s3a, A3a, n3a, c3a⟩] from ((((BxA.new w).box (by simp) ⟨0, A1a, n1a, c1a⟩).box (by simp) ⟨s2a, A2a, n2a, c2a⟩).box (by simp) ⟨s3a, A3a, n3a, c3a⟩))
  go_enter Tryd.func3, Tryd.ntmps3
  go_wp2_with fail
  refine (small_any _ (HT.out.on K.out.bl) (HZ.out.on K.out.bl)).mono ?_
  rintro e wa0 ⟨rfl, hb⟩
  have K0 := Lib.hid (K.out.call hb)
  clear hb K
  have zb := K0.out.bx 0 _ rfl
  have z0 := zb.c0
  have z1 := zb.c1
  clear zb
  simp only [Nat.add_zero] at z0 z1
  go_wp2_with fail
  refine (few_T _ t0).mono ?_
  rintro e wa1 ⟨rfl, hb⟩
  have K1 := Lib.hid (K0.out.call hb)
  clear hb z0 z1 K0
  have zb := K1.out.bx 1 _ rfl
  have z0 := zb.c0
  have z1 := zb.c1
  clear zb
  go_wp2_with fail
  refine (few_T _ t1).mono ?_
  rintro e wa2 ⟨rfl, hb⟩
  have K2 := Lib.hid (K1.out.call hb)
  clear hb z0 z1 K1
  have zb := K2.out.bx 2 _ rfl
  have z0 := zb.c0
  have z1 := zb.c1
  clear zb
  rw [show w.heap.size + 2 = w.heap.size + 1 + 1 from rfl] at z0 z1
  go_wp2_with fail
  refine (few_T _ t2).mono ?_
  rintro e wa3 ⟨rfl, hb⟩
  have K3 := Lib.hid (K2.out.call hb)
  clear hb z0 z1 K2
  have zb := K3.out.bx 0 _ rfl
  have z0 := zb.c0
  have z1 := zb.c1
  clear zb
  simp only [Nat.add_zero] at z0 z1
  go_wp2_with fail
  refine (right_is HA1.out (by dsimp only; omega) K3.out.bl HR3.out).mono ?_
  rintro e wa4 ⟨rfl, hb⟩
  have K4 := Lib.hid (K3.out.call hb)
  clear hb z0 z1 K3
  have zb := K4.out.bx 1 _ rfl
  have z0 := zb.c0
  have z1 := zb.c1
  clear zb
  go_wp2_with fail
  refine (right_is HA2.out (by dsimp only; omega) K4.out.bl HR4.out).mono ?_
  rintro e wa5 ⟨rfl, hb⟩
  have K5 := Lib.hid (K4.out.call hb)
  clear hb z0 z1 K4
  have zb := K5.out.bx 2 _ rfl
  have z0 := zb.c0
  have z1 := zb.c1
  clear zb
  rw [show w.heap.size + 2 = w.heap.size + 1 + 1 from rfl] at z0 z1
  go_wp2_with fail
  refine (right_is HA3.out (by dsimp only; omega) K5.out.bl HR5.out).mono ?_
  rintro e wa6 ⟨rfl, hb⟩
  have K6 := Lib.hid (K5.out.call hb)
  clear hb z0 z1 K5
  have S0 := Lib.hid (K6.out.st3 HX1.out HX2.out HX3.out)
  clear K6 HX1 HA1 HX2 HA2 HX3 HA3 HT HR3 HR4 HR5
  have Fa := S0.out.bx _ (List.mem_of_getElem? (i := 0) rfl)
  dsimp only at Fa
  have za0 := Fa.1.c0
  have za1 := Fa.1.c1
  have Ga := Lib.hid Fa.2
  clear Fa
  have Fb := S0.out.bx _ (List.mem_of_getElem? (i := 1) rfl)
  dsimp only at Fb
  have zb0 := Fb.1.c0
  have zb1 := Fb.1.c1
  have Gb := Lib.hid Fb.2
  clear Fb
  have M := Lib.hid (gcd_F Ga.out Gb.out (HZ.out.on S0.out.bl) (by decide) (by decide) c1a c2a 12 G (HG.out) (HZG.out))
  go_wp2_with fail
  refine M.out.mono ?_
  rintro e w1 ⟨s1, A1, n1, c1, rfl, -, hg1, hf1, hb1⟩
  have S1 := Lib.hid (S0.out.made hb1 hg1 hf1 c1)
  clear hg1 hf1 hb1 M S0
  clear za0 za1 Ga zb0 zb1 Gb
  have FS := S1.out.bx _ (List.mem_of_getElem? (i := 0) rfl)
  dsimp only at FS
  obtain rfl : s1 = 1 := by
    have := FS.2.sign
    omega
  clear FS
  go_upto_region 5 with (fail)
  generalize hwq : (w1.alloc (.cells #[.int .i64 1, .slice A1 n1 c1] 24)) = wq at S1 ⊢
  clear hwq
  have Fa := S1.out.bx _ (List.mem_of_getElem? (i := 1) rfl)
  dsimp only at Fa
  have za0 := Fa.1.c0
  have za1 := Fa.1.c1
  have Ga := Lib.hid Fa.2
  clear Fa
  have Fb := S1.out.bx _ (List.mem_of_getElem? (i := 2) rfl)
  dsimp only at Fb
  have zb0 := Fb.1.c0
  have zb1 := Fb.1.c1
  have Gb := Lib.hid Fb.2
  clear Fb
  obtain ⟨L2, HL2⟩ : ∃ L : List BoxR, Hid (L = [⟨w1.heap.size, 12, G, 1, A1, n1, c1⟩, ⟨w.heap.size, 12, 0, 0, A1a, n1a, c1a⟩, ⟨w.heap.size + 1, 12, x2, s2a, A2a, n2a, c2a⟩, ⟨w.heap.size + 1 + 1, 4, x3, s3a, A3a, n3a, c3a⟩]) := ⟨_, rfl⟩
  rw [← HL2.out] at S1
  have hlta : w.heap.size < wq.heap.size := World.block_lt_of_cell? _ _ za0
  have hltb : w.heap.size + 1 < wq.heap.size := World.block_lt_of_cell? _ _ zb0
  go_cut [10, 11] (fun sp sq wc => sq = .int .i64 0 ∧ ∃ b s A n c, sp = .pointer (some ⟨b, 0, none⟩) ∧ Hid (StR w wc (⟨b, 12, G, s, A, n, c⟩ :: L2)))
  case first =>
    have SD := Lib.hid (S1.out.call (Below.refl _ _).drew)
    have SN : Hid (StR w (wq.alloc (.cells #[.int .i64 0, .slice none 0 0] 24)).drew (⟨wq.heap.size, 4, 0, 0, none, 0, 0⟩ :: L2)) := (S1.out.made (Below.refl _ _) (Bg.nil _ 4) (fun h => absurd h (by omega)) 0).call (Below.refl _ _).drew
    have NB1 := Lib.hid (neg_F (Gb.out.past (Below.refl wq.heap.size wq).drew) (by decide) c2a)
    have NB2 := Lib.hid (neg_F (Gb.out.past ((Below.refl wq.heap.size wq).alloc (Nat.le_refl _) (.cells #[.int .i64 0, .slice none 0 0] 24)).drew) (by decide) c2a)
    go_region_held3 (fun w' => w'.cell? ⟨w.heap.size, 0, none⟩ = some (.int .i64 0) ∧ w'.cell? ⟨w.heap.size, 1, none⟩ = some (.slice A1a n1a c1a) ∧ w'.cell? ⟨w.heap.size + 1, 0, none⟩ = some (.int .i64 s2a) ∧ w'.cell? ⟨w.heap.size + 1, 1, none⟩ = some (.slice A2a n2a c2a))
      (first | exact ⟨ya0, ya1, yb0, yb1⟩ | exact ⟨alc ya0, alc ya1, alc yb0, alc yb1⟩ | exact ⟨ua0, ua1, ub0, ub1⟩ | exact ⟨alc ua0, alc ua1, alc ub0, alc ub1⟩ | exact ⟨za0, za1, zb0, zb1⟩ | exact ⟨alc za0, alc za1, alc zb0, alc zb1⟩ | exact ⟨stc ya0 (by have := B0.out.size; dsimp only; omega), stc ya1 (by have := B0.out.size; dsimp only; omega), stc yb0 (by have := B0.out.size; dsimp only; omega), stc yb1 (by have := B0.out.size; dsimp only; omega)⟩ | exact ⟨stc (stc ya0 (by have := B0.out.size; dsimp only; omega)) (by have := B0.out.size; dsimp only; omega), stc (stc ya1 (by have := B0.out.size; dsimp only; omega)) (by have := B0.out.size; dsimp only; omega), stc (stc yb0 (by have := B0.out.size; dsimp only; omega)) (by have := B0.out.size; dsimp only; omega), stc (stc yb1 (by have := B0.out.size; dsimp only; omega)) (by have := B0.out.size; dsimp only; omega)⟩)
      (first | (go_at_call 8; (first | ((with_reducible refine NB1.out.mono ?_); (rintro e wo ⟨so, Ao, no, co, rfl, -, ho, fo, bo⟩; have SO := Lib.hid (SD.out.call bo); have B0 := Lib.hid ((Below.refl wq.heap.size wq).drew.trans bo); have TZ := Lib.hid (HZ.out.on SO.out.bl))) | ((with_reducible refine NB2.out.mono ?_); (rintro e wo ⟨so, Ao, no, co, rfl, -, ho, fo, bo⟩; have SO2 := Lib.hid (SN.out.call bo); have B0 := Lib.hid (((Below.refl wq.heap.size wq).alloc (Nat.le_refl _) (.cells #[.int .i64 0, .slice none 0 0] 24)).drew.trans (bo.mono (by simp))); have TZ := Lib.hid (HZ.out.on SO2.out.bl)))); have ua0 := (B0.out.cell (p := ⟨w.heap.size, 0, none⟩) hlta).trans za0; have ua1 := (B0.out.cell (p := ⟨w.heap.size, 1, none⟩) hlta).trans za1; have ub0 := (B0.out.cell (p := ⟨w.heap.size + 1, 0, none⟩) hltb).trans zb0; have ub1 := (B0.out.cell (p := ⟨w.heap.size + 1, 1, none⟩) hltb).trans zb1; have HOg := Lib.hid ho; clear ho fo bo) | (go_at_call 7; (first | ((with_reducible refine (gcd_F HOg.out (Ga.out.past B0.out) TZ.out (by decide) (by decide) _ _ 12 G HGN.out HZG.out).mono ?_); rintro e w2 ⟨s2, A2, n2, c2, rfl, -, h2, f2, b2⟩; have B2 := Lib.hid (B0.out.trans (b2.mono B0.out.size))) | ((with_reducible refine (gcd_F (HOg.out.past ((Below.refl _ _).alloc (Nat.le_refl _) _)) (Ga.out.past (B0.out.alloc B0.out.size _)) (TZ.out.on ((Below.refl _ _).alloc (Nat.le_refl _) _)) (by decide) (by decide) _ _ 12 G HGN.out HZG.out).mono ?_); rintro e w2 ⟨s2, A2, n2, c2, rfl, -, h2, f2, b2⟩; have B2 := Lib.hid ((B0.out.alloc B0.out.size _).trans (b2.mono (Nat.le_trans B0.out.size (by simp)))))); have ya0 := (B2.out.cell (p := ⟨w.heap.size, 0, none⟩) hlta).trans za0; have ya1 := (B2.out.cell (p := ⟨w.heap.size, 1, none⟩) hlta).trans za1; have yb0 := (B2.out.cell (p := ⟨w.heap.size + 1, 0, none⟩) hltb).trans zb0; have yb1 := (B2.out.cell (p := ⟨w.heap.size + 1, 1, none⟩) hltb).trans zb1; (first | (have PP := Lib.hid (SO2.out.put b2 h2 f2 c2 (i := 0) rfl); have QQ := (SO2.out.call b2).bx _ List.mem_cons_self; have q0 := QQ.1.c0; have q1 := QQ.1.c1; have q2 := QQ.1.frozen 0; have q3 := QQ.1.frozen 1; clear QQ) | (have PP := Lib.hid ((SO.out.made (Below.refl _ _) (Bg.nil _ 4) (fun h => absurd h (by omega)) 0).put b2 h2 f2 c2 (i := 0) rfl); have QQ := ((SO.out.made (Below.refl _ _) (Bg.nil _ 4) (fun h => absurd h (by omega)) 0).call b2).bx _ List.mem_cons_self; have q0 := QQ.1.c0; have q1 := QQ.1.c1; have q2 := QQ.1.frozen 0; have q3 := QQ.1.frozen 1; clear QQ) | (have PP := Lib.hid (SO.out.made b2 h2 f2 c2))); clear h2 f2 b2))
    all_goals
      go_wp2_with fail
      go_meet
      exact ⟨rfl, _, _, _, _, _, rfl, PP⟩
  obtain ⟨rfl, b2, s2, A2, n2, c2, rfl, S2⟩ := hcut
  rw [HL2.out] at S2
  clear S1 hlta hltb za0 za1 zb0 zb1 Ga Gb HL2
  have Fg := S2.out.bx _ (List.mem_of_getElem? (i := 1) rfl)
  dsimp only at Fg
  have zg0 := Fg.1.c0
  have zg1 := Fg.1.c1
  have Gg := Lib.hid Fg.2
  clear Fg
  have Fh := S2.out.bx _ (List.mem_of_getElem? (i := 0) rfl)
  dsimp only at Fh
  have zh0 := Fh.1.c0
  have zh1 := Fh.1.c1
  have Gh := Lib.hid Fh.2
  clear Fh
  have M := Lib.hid (same_B Gg.out Gh.out (by decide) (by decide) c1 c2 (r := true) (decide_eq_true rfl))
  go_wp2_with fail
  refine M.out.mono ?_
  rintro e w3 ⟨rfl, hb3⟩
  have S3 := Lib.hid (S2.out.call hb3)
  clear hb3 M S2
  clear zg0 zg1 Gg zh0 zh1 Gh
  have Fa := S3.out.bx _ (List.mem_of_getElem? (i := 2) rfl)
  dsimp only at Fa
  have za0 := Fa.1.c0
  have za1 := Fa.1.c1
  have Ga := Lib.hid Fa.2
  clear Fa
  have Fg := S3.out.bx _ (List.mem_of_getElem? (i := 1) rfl)
  dsimp only at Fg
  have zg0 := Fg.1.c0
  have zg1 := Fg.1.c1
  have Gg := Lib.hid Fg.2
  clear Fg
  have Fb := S3.out.bx _ (List.mem_of_getElem? (i := 3) rfl)
  dsimp only at Fb
  have zb0 := Fb.1.c0
  clear Fb
  have M := Lib.hid (div_F Ga.out Gg.out (by omega) (by decide) (by decide) c1a c1)
  go_wp2_with fail
  refine M.out.mono ?_
  rintro e w4 ⟨q4, r4, s4, A4, n4, c4, s4', A4', n4', c4', rfl, hv4, hq4, hr4, hb4⟩
  obtain rfl : r4 = 0 := floor_zero hv4 hGp HD1.out
  obtain rfl : s4' = 0 := by
    have := hr4.sign
    omega
  have T4 := Lib.hid (((StB.mk S3.out.bl S3.out.bx).call hb4).box2 c4 c4' hq4 hr4)
  have S4 := Lib.hid (S3.out.call ((hb4.alloc hb4.size (.cells #[.int .i64 s4, .slice A4 n4 c4] 24)).alloc (by have := hb4.size; (try simp at this); simp; omega) (.cells #[.int .i64 0, .slice A4' n4' c4'] 24)))
  have HV4 := Lib.hid hv4
  clear hv4 hq4 hr4 hb4 M S3
  clear za0 za1 Ga zg0 zg1 Gg
  clear zb0
  have Fb := S4.out.bx _ (List.mem_of_getElem? (i := 3) rfl)
  dsimp only at Fb
  have zb0 := Fb.1.c0
  have zb1 := Fb.1.c1
  have Gb := Lib.hid Fb.2
  clear Fb
  have Fg := S4.out.bx _ (List.mem_of_getElem? (i := 1) rfl)
  dsimp only at Fg
  have zg0 := Fg.1.c0
  have zg1 := Fg.1.c1
  have Gg := Lib.hid Fg.2
  clear Fg
  have M := Lib.hid (div_F Gb.out Gg.out (by omega) (by decide) (by decide) c2a c1)
  go_wp2_with fail
  refine M.out.mono ?_
  rintro e w5 ⟨q5, r5, s5, A5, n5, c5, s5', A5', n5', c5', rfl, hv5, hq5, hr5, hb5⟩
  obtain rfl : r5 = 0 := floor_zero hv5 hGp HD2.out
  obtain rfl : s5' = 0 := by
    have := hr5.sign
    omega
  have T5 := Lib.hid ((T4.out.call hb5).box2 c5 c5' hq5 hr5)
  have S5 := Lib.hid (S4.out.call ((hb5.alloc hb5.size (.cells #[.int .i64 s5, .slice A5 n5 c5] 24)).alloc (by have := hb5.size; (try simp at this); simp; omega) (.cells #[.int .i64 0, .slice A5' n5' c5'] 24)))
  have HV5 := Lib.hid hv5
  clear hv5 hq5 hr5 hb5 M S4 T4
  clear zb0 zb1 Gb zg0 zg1 Gg
  have Fr1 := T5.out.bx _ (List.mem_of_getElem? (i := 2) rfl)
  dsimp only at Fr1
  have zr10 := Fr1.1.c0
  have zr11 := Fr1.1.c1
  have Gr1 := Lib.hid Fr1.2
  clear Fr1
  have Fr2 := T5.out.bx _ (List.mem_of_getElem? (i := 0) rfl)
  dsimp only at Fr2
  have zr20 := Fr2.1.c0
  have zr21 := Fr2.1.c1
  have Gr2 := Lib.hid Fr2.2
  clear Fr2
  have Fa := S5.out.bx _ (List.mem_of_getElem? (i := 2) rfl)
  dsimp only at Fa
  have za0 := Fa.1.c0
  have za1 := Fa.1.c1
  have Ga := Lib.hid Fa.2
  clear Fa
  have Fc := S5.out.bx _ (List.mem_of_getElem? (i := 4) rfl)
  dsimp only at Fc
  have zc0 := Fc.1.c0
  have zc1 := Fc.1.c1
  have Gc := Lib.hid Fc.2
  clear Fc
  have M := Lib.hid (mul_F Ga.out Gc.out (by decide) (by decide) c1a c3a)
  go_wp2_with fail
  refine M.out.mono ?_
  rintro e w6 ⟨s6, A6, n6, c6, rfl, -, hg6, hf6, hb6⟩
  have S6 := Lib.hid (S5.out.made hb6 hg6 hf6 c6)
  clear hg6 hf6 hb6 M S5
  clear za0 za1 Ga zc0 zc1 Gc
  clear zr10 zr11 Gr1
  clear zr20 zr21 Gr2
  clear T5
  have Fb := S6.out.bx _ (List.mem_of_getElem? (i := 4) rfl)
  dsimp only at Fb
  have zb0 := Fb.1.c0
  have zb1 := Fb.1.c1
  have Gb := Lib.hid Fb.2
  clear Fb
  have Fc := S6.out.bx _ (List.mem_of_getElem? (i := 5) rfl)
  dsimp only at Fc
  have zc0 := Fc.1.c0
  have zc1 := Fc.1.c1
  have Gc := Lib.hid Fc.2
  clear Fc
  have M := Lib.hid (mul_F Gb.out Gc.out (by decide) (by decide) c2a c3a)
  go_wp2_with fail
  refine M.out.mono ?_
  rintro e w7 ⟨s7, A7, n7, c7, rfl, -, hg7, hf7, hb7⟩
  have S7 := Lib.hid (S6.out.made hb7 hg7 hf7 c7)
  clear hg7 hf7 hb7 M S6
  clear zb0 zb1 Gb zc0 zc1 Gc
  have Fx := S7.out.bx _ (List.mem_of_getElem? (i := 1) rfl)
  dsimp only at Fx
  have zx0 := Fx.1.c0
  have zx1 := Fx.1.c1
  have Gx := Lib.hid Fx.2
  clear Fx
  have Fy := S7.out.bx _ (List.mem_of_getElem? (i := 0) rfl)
  dsimp only at Fy
  have zy0 := Fy.1.c0
  have zy1 := Fy.1.c1
  have Gy := Lib.hid Fy.2
  clear Fy
  have M := Lib.hid (gcd_F Gx.out Gy.out (HZ.out.on S7.out.bl) (by decide) (by decide) c6 c7 16 (G * (x3.natAbs : Int)) (by rw [Int.gcd_mul_right, Int.natCast_mul, HG.out]) (by rw [show G * (x3.natAbs : Int) = ((Int.gcd (0 * x3) (x2 * x3) : Nat) : Int) by rw [Int.gcd_mul_right, Int.natCast_mul, HG.out]]; exact gcd_sz (HX12.out.1.mul HX3S.out) (HX12.out.2.mul HX3S.out)))
  go_wp2_with fail
  refine M.out.mono ?_
  rintro e w8 ⟨s8, A8, n8, c8, rfl, -, hg8, hf8, hb8⟩
  have S8 := Lib.hid (S7.out.made hb8 hg8 hf8 c8)
  clear hg8 hf8 hb8 M S7
  clear zx0 zx1 Gx zy0 zy1 Gy
  have Fg := S8.out.bx _ (List.mem_of_getElem? (i := 4) rfl)
  dsimp only at Fg
  have zg0 := Fg.1.c0
  have zg1 := Fg.1.c1
  have Gg := Lib.hid Fg.2
  clear Fg
  have Fc := S8.out.bx _ (List.mem_of_getElem? (i := 7) rfl)
  dsimp only at Fc
  have zc0 := Fc.1.c0
  have zc1 := Fc.1.c1
  have Gc := Lib.hid Fc.2
  clear Fc
  have M := Lib.hid (mul_F Gg.out Gc.out (by decide) (by decide) c1 c3a)
  go_wp2_with fail
  refine M.out.mono ?_
  rintro e w9 ⟨s9, A9, n9, c9, rfl, -, hg9, hf9, hb9⟩
  have S9 := Lib.hid (S8.out.made hb9 hg9 hf9 c9)
  clear hg9 hf9 hb9 M S8
  clear zg0 zg1 Gg zc0 zc1 Gc
  have Fc := S9.out.bx _ (List.mem_of_getElem? (i := 8) rfl)
  dsimp only at Fc
  have zc0 := Fc.1.c0
  clear Fc
  have Fk2 := S9.out.bx _ (List.mem_of_getElem? (i := 1) rfl)
  dsimp only at Fk2
  have zk20 := Fk2.1.c0
  have zk21 := Fk2.1.c1
  have Gk2 := Lib.hid Fk2.2
  clear Fk2
  have Fm := S9.out.bx _ (List.mem_of_getElem? (i := 0) rfl)
  dsimp only at Fm
  have zm0 := Fm.1.c0
  have zm1 := Fm.1.c1
  have Gm := Lib.hid Fm.2
  clear Fm
  have M := Lib.hid (same_B Gk2.out Gm.out (by decide) (by decide) c8 c9 (r := true) (decide_eq_true (by have := HC0.out; rw [show (x3.natAbs : Int) = x3 by omega])))
  go_wp2_with fail
  refine M.out.mono ?_
  rintro e w10 ⟨rfl, hb10⟩
  have S10 := Lib.hid (S9.out.call hb10)
  clear hb10 M
  go_wp2_with fail
  go_ret
  exact ⟨by first | rfl | simp, S10.out.bl⟩
end Go.Proofs.YtoocdokhljpokaaDoor
