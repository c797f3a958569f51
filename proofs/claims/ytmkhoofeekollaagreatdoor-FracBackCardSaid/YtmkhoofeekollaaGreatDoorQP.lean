/- The walks of the laws' least and small. Conditions: the tables of math/bits and strconv as their texts lay them; the variable MaxLen of internal/bytealg holds an int. -/
import Derived.Test.YtmkhoofeekollaaGreatDoorQO
import Derived.Deep.DeepCutAuto
namespace Go.Proofs.YtmkhoofeekollaaGreatDoor
set_option maxRecDepth 20000
open Go.RowKit

theorem text_lit {w : World} {k : Nat} {x : Rat} (r : FrR) (a : Array UInt8) (h1 : Fg w k x r) (hT : TabZ w) (hS : Tab w) (hk : k ≤ 60) (hx : txtF x = a.toList) :
    Calls Tryz.prog 28 #[frV r] w fun e w' => e = .returned (.string ⟨a⟩) ∧ Below w.heap.size w w' := by
  have := text_R r h1 hT hS hk
  rw [hx] at this
  exact this
theorem Fg.at {w : World} {j k : Nat} {x y : Rat} {r : FrR} (h : Fg w j x r) (hk : j ≤ k) (e : x = y) : Fg w k y r := by subst e; exact h.more hk
set_option maxHeartbeats 8000000 in
theorem least_R {w : World} (r r2 : FrR) (h1 : Fg w 4 (ratio (-1) 2) r) (h2 : Fg w 4 (ratio 1 3) r2) (hT : TabZ w) :
    Calls Tryz.prog 51 #[frV r, frV r2] w fun e w' => e = .returned (.bool true) ∧ Below w.heap.size w w' := by
  have S := Lib.hid (DuoF.new w r r2)
  obtain ⟨W0, hW0⟩ : ∃ W0, W0 = ((w.alloc (.cells (frC r) 26)).alloc (.cells (frC r2) 26)) := ⟨_, rfl⟩
  rw [← hW0] at S
  have HT := Lib.hid hT
  obtain ⟨s1a, A1a, n1a, c1a, s2a, A2a, n2a, c2a⟩ := r
  obtain ⟨s1b, A1b, n1b, c1b, s2b, A2b, n2b, c2b⟩ := r2
  dsimp only [frV, frC] at *
  have Ka := Lib.hid S.out.k1
  have Kb := Lib.hid S.out.k2
  dsimp only [frC] at Ka Kb
  have Ga := Lib.hid (h1.past S.out.bl)
  have Gb := Lib.hid (h2.past S.out.bl)
  have B0 := Lib.hid S.out.bl
  clear h1 h2 hT S
  go_enter Tryz.func51, Tryz.ntmps51
  go_wp2_with fail
  rw [← hW0]
  clear hW0
  obtain ⟨za0, za1, za2, za3, -, -, -, -⟩ := fr_cells Ka.out
  obtain ⟨zb0, zb1, zb2, zb3, -, -, -, -⟩ := fr_cells Kb.out
  have M := Lib.hid (min_a ⟨s1a, A1a, n1a, c1a, s2a, A2a, n2a, c2a⟩ ⟨s1b, A1b, n1b, c1b, s2b, A2b, n2b, c2b⟩ Ga.out Gb.out (HT.out.on B0.out) (by decide) (by decide +kernel))
  (try dsimp only [frV] at M)
  go_wp2_with fail
  refine M.out.mono ?_
  rintro e wa1 ⟨⟨s1c, A1c, n1c, c1c, s2c, A2c, n2c, c2c⟩, rfl, hc1, hc2, hf, f1, f2, hb⟩
  clear M
  (try dsimp only [frV])
  have X := Lib.hid hb
  have Gc := Lib.hid hf
  clear hc1 hc2 hf f1 f2 hb
  have Ba2 := Lib.hid (B0.out.trans (X.out.mono B0.out.size))
  have Kaa2 := Lib.hid (Ka.out.below X.out Ka.out.lt)
  have Kab2 := Lib.hid (Kb.out.below X.out Kb.out.lt)
  have Gaa2 := Lib.hid (Ga.out.past X.out)
  have Gab2 := Lib.hid (Gb.out.past X.out)
  clear X B0 Ka Kb Ga Gb
  clear za0 za1 za2 za3 zb0 zb1 zb2 zb3
  obtain ⟨wa3, hw⟩ : ∃ W, W = wa1.alloc (.cells #[.int .i64 s1c, .slice A1c n1c c1c, .int .i64 s2c, .slice A2c n2c c2c] 26) := ⟨_, rfl⟩
  obtain ⟨bc, hbb⟩ : ∃ b, b = wa1.heap.size := ⟨_, rfl⟩
  have X := Lib.hid (bal (Below.refl wa1.heap.size wa1) (o := .cells #[.int .i64 s1c, .slice A1c n1c c1c, .int .i64 s2c, .slice A2c n2c c2c] 26))
  rw [← hw] at X
  have Kc := Lib.hid (Blk.new wa1 26 #[.int .i64 s1c, .slice A1c n1c c1c, .int .i64 s2c, .slice A2c n2c c2c])
  rw [← hw, ← hbb] at Kc
  go_upto_region 2 with (fail)
  rw [← hw, ← hbb]
  clear hw hbb
  have Ba4 := Lib.hid (Ba2.out.trans (X.out.mono Ba2.out.size))
  have Kaa4 := Lib.hid (Kaa2.out.below X.out Kaa2.out.lt)
  have Kab4 := Lib.hid (Kab2.out.below X.out Kab2.out.lt)
  have Gaa4 := Lib.hid (Gaa2.out.past X.out)
  have Gab4 := Lib.hid (Gab2.out.past X.out)
  have Gac4 := Lib.hid (Gc.out.past X.out)
  clear X Ba2 Kaa2 Kab2 Gaa2 Gab2 Gc
  obtain ⟨za0, za1, za2, za3, -, -, -, -⟩ := fr_cells Kaa4.out
  obtain ⟨zb0, zb1, zb2, zb3, -, -, -, -⟩ := fr_cells Kab4.out
  have M := Lib.hid (max_b ⟨s1a, A1a, n1a, c1a, s2a, A2a, n2a, c2a⟩ ⟨s1b, A1b, n1b, c1b, s2b, A2b, n2b, c2b⟩ Gaa4.out Gab4.out (HT.out.on Ba4.out) (by decide) (by decide +kernel))
  (try dsimp only [frV] at M)
  go_wp2_with fail
  refine M.out.mono ?_
  rintro e wa5 ⟨⟨s1d, A1d, n1d, c1d, s2d, A2d, n2d, c2d⟩, rfl, hc1, hc2, hf, f1, f2, hb⟩
  clear M
  (try dsimp only [frV])
  have X := Lib.hid hb
  have Gd := Lib.hid hf
  clear hc1 hc2 hf f1 f2 hb
  have Ba6 := Lib.hid (Ba4.out.trans (X.out.mono Ba4.out.size))
  have Kaa6 := Lib.hid (Kaa4.out.below X.out Kaa4.out.lt)
  have Kab6 := Lib.hid (Kab4.out.below X.out Kab4.out.lt)
  have Kac6 := Lib.hid (Kc.out.below X.out Kc.out.lt)
  have Gaa6 := Lib.hid (Gaa4.out.past X.out)
  have Gab6 := Lib.hid (Gab4.out.past X.out)
  have Gac6 := Lib.hid (Gac4.out.past X.out)
  clear X Ba4 Kaa4 Kab4 Kc Gaa4 Gab4 Gac4
  clear za0 za1 za2 za3 zb0 zb1 zb2 zb3
  obtain ⟨wa7, hw⟩ : ∃ W, W = wa5.alloc (.cells #[.int .i64 s1d, .slice A1d n1d c1d, .int .i64 s2d, .slice A2d n2d c2d] 26) := ⟨_, rfl⟩
  obtain ⟨bd, hbb⟩ : ∃ b, b = wa5.heap.size := ⟨_, rfl⟩
  have X := Lib.hid (bal (Below.refl wa5.heap.size wa5) (o := .cells #[.int .i64 s1d, .slice A1d n1d c1d, .int .i64 s2d, .slice A2d n2d c2d] 26))
  rw [← hw] at X
  have Kd := Lib.hid (Blk.new wa5 26 #[.int .i64 s1d, .slice A1d n1d c1d, .int .i64 s2d, .slice A2d n2d c2d])
  rw [← hw, ← hbb] at Kd
  go_upto_region 3 with (fail)
  rw [← hw, ← hbb]
  clear hw hbb
  have Ba8 := Lib.hid (Ba6.out.trans (X.out.mono Ba6.out.size))
  have Kaa8 := Lib.hid (Kaa6.out.below X.out Kaa6.out.lt)
  have Kab8 := Lib.hid (Kab6.out.below X.out Kab6.out.lt)
  have Kac8 := Lib.hid (Kac6.out.below X.out Kac6.out.lt)
  have Gaa8 := Lib.hid (Gaa6.out.past X.out)
  have Gab8 := Lib.hid (Gab6.out.past X.out)
  have Gac8 := Lib.hid (Gac6.out.past X.out)
  have Gad8 := Lib.hid (Gd.out.past X.out)
  clear X Ba6 Kaa6 Kab6 Kac6 Gaa6 Gab6 Gac6 Gd
  obtain ⟨zc0, zc1, zc2, zc3, -, -, -, -⟩ := fr_cells Kac8.out
  obtain ⟨za0, za1, za2, za3, -, -, -, -⟩ := fr_cells Kaa8.out
  have M := Lib.hid (same_R ⟨s1c, A1c, n1c, c1c, s2c, A2c, n2c, c2c⟩ ⟨s1a, A1a, n1a, c1a, s2a, A2a, n2a, c2a⟩ Gac8.out Gaa8.out (by decide) (o := true) (by decide +kernel))
  (try dsimp only [frV] at M)
  go_wp2_with fail
  refine M.out.mono ?_
  rintro e wa9 ⟨rfl, hb⟩
  clear M
  have X := Lib.hid hb
  clear hb
  have Ba10 := Lib.hid (Ba8.out.trans (X.out.mono Ba8.out.size))
  have Kaa10 := Lib.hid (Kaa8.out.below X.out Kaa8.out.lt)
  have Kab10 := Lib.hid (Kab8.out.below X.out Kab8.out.lt)
  have Kac10 := Lib.hid (Kac8.out.below X.out Kac8.out.lt)
  have Kad10 := Lib.hid (Kd.out.below X.out Kd.out.lt)
  have Gaa10 := Lib.hid (Gaa8.out.past X.out)
  have Gab10 := Lib.hid (Gab8.out.past X.out)
  have Gac10 := Lib.hid (Gac8.out.past X.out)
  have Gad10 := Lib.hid (Gad8.out.past X.out)
  clear X Ba8 Kaa8 Kab8 Kac8 Kd Gaa8 Gab8 Gac8 Gad8
  clear zc0 zc1 zc2 zc3 za0 za1 za2 za3
  obtain ⟨zd0, zd1, zd2, zd3, -, -, -, -⟩ := fr_cells Kad10.out
  obtain ⟨zb0, zb1, zb2, zb3, -, -, -, -⟩ := fr_cells Kab10.out
  have M := Lib.hid (same_R ⟨s1d, A1d, n1d, c1d, s2d, A2d, n2d, c2d⟩ ⟨s1b, A1b, n1b, c1b, s2b, A2b, n2b, c2b⟩ Gad10.out Gab10.out (by decide) (o := true) (by decide +kernel))
  (try dsimp only [frV] at M)
  go_wp2_with fail
  refine M.out.mono ?_
  rintro e wa11 ⟨rfl, hb⟩
  clear M
  have X := Lib.hid hb
  clear hb
  have Ba12 := Lib.hid (Ba10.out.trans (X.out.mono Ba10.out.size))
  have Kaa12 := Lib.hid (Kaa10.out.below X.out Kaa10.out.lt)
  have Kab12 := Lib.hid (Kab10.out.below X.out Kab10.out.lt)
  have Kac12 := Lib.hid (Kac10.out.below X.out Kac10.out.lt)
  have Kad12 := Lib.hid (Kad10.out.below X.out Kad10.out.lt)
  have Gaa12 := Lib.hid (Gaa10.out.past X.out)
  have Gab12 := Lib.hid (Gab10.out.past X.out)
  have Gac12 := Lib.hid (Gac10.out.past X.out)
  have Gad12 := Lib.hid (Gad10.out.past X.out)
  clear X Ba10 Kaa10 Kab10 Kac10 Kad10 Gaa10 Gab10 Gac10 Gad10
  clear zd0 zd1 zd2 zd3 zb0 zb1 zb2 zb3
  obtain ⟨za0, za1, za2, za3, -, -, -, -⟩ := fr_cells Kaa12.out
  have M := Lib.hid (sign_R ⟨s1a, A1a, n1a, c1a, s2a, A2a, n2a, c2a⟩ Gaa12.out (HT.out.on Ba12.out) (by decide) (o := -1) (by decide +kernel))
  (try dsimp only [frV] at M)
  go_wp2_with fail
  refine M.out.mono ?_
  rintro e wa13 ⟨rfl, hb⟩
  clear M
  have X := Lib.hid hb
  clear hb
  have Ba14 := Lib.hid (Ba12.out.trans (X.out.mono Ba12.out.size))
  have Kaa14 := Lib.hid (Kaa12.out.below X.out Kaa12.out.lt)
  have Kab14 := Lib.hid (Kab12.out.below X.out Kab12.out.lt)
  have Kac14 := Lib.hid (Kac12.out.below X.out Kac12.out.lt)
  have Kad14 := Lib.hid (Kad12.out.below X.out Kad12.out.lt)
  have Gaa14 := Lib.hid (Gaa12.out.past X.out)
  have Gab14 := Lib.hid (Gab12.out.past X.out)
  have Gac14 := Lib.hid (Gac12.out.past X.out)
  have Gad14 := Lib.hid (Gad12.out.past X.out)
  clear X Ba12 Kaa12 Kab12 Kac12 Kad12 Gaa12 Gab12 Gac12 Gad12
  clear za0 za1 za2 za3
  obtain ⟨za0, za1, za2, za3, -, -, -, -⟩ := fr_cells Kaa14.out
  have M := Lib.hid (neg_R ⟨s1a, A1a, n1a, c1a, s2a, A2a, n2a, c2a⟩ Gaa14.out (HT.out.on Ba14.out) (by decide))
  (try dsimp only [frV] at M)
  go_wp2_with fail
  refine M.out.mono ?_
  rintro e wa15 ⟨⟨s1m, A1m, n1m, c1m, s2m, A2m, n2m, c2m⟩, rfl, hc1, hc2, hf, f1, f2, hb⟩
  clear M
  (try dsimp only [frV])
  have X := Lib.hid hb
  have Gm := Lib.hid hf
  clear hc1 hc2 hf f1 f2 hb
  have Ba16 := Lib.hid (Ba14.out.trans (X.out.mono Ba14.out.size))
  have Kaa16 := Lib.hid (Kaa14.out.below X.out Kaa14.out.lt)
  have Kab16 := Lib.hid (Kab14.out.below X.out Kab14.out.lt)
  have Kac16 := Lib.hid (Kac14.out.below X.out Kac14.out.lt)
  have Kad16 := Lib.hid (Kad14.out.below X.out Kad14.out.lt)
  have Gaa16 := Lib.hid (Gaa14.out.past X.out)
  have Gab16 := Lib.hid (Gab14.out.past X.out)
  have Gac16 := Lib.hid (Gac14.out.past X.out)
  have Gad16 := Lib.hid (Gad14.out.past X.out)
  clear X Ba14 Kaa14 Kab14 Kac14 Kad14 Gaa14 Gab14 Gac14 Gad14
  clear za0 za1 za2 za3
  have M := Lib.hid (sign_R ⟨s1m, A1m, n1m, c1m, s2m, A2m, n2m, c2m⟩ Gm.out (HT.out.on Ba16.out) (by decide) (o := 1) (by decide +kernel))
  (try dsimp only [frV] at M)
  go_wp2_with fail
  refine M.out.mono ?_
  rintro e wa17 ⟨rfl, hb⟩
  clear M
  have X := Lib.hid hb
  clear hb
  have Ba18 := Lib.hid (Ba16.out.trans (X.out.mono Ba16.out.size))
  have Kaa18 := Lib.hid (Kaa16.out.below X.out Kaa16.out.lt)
  have Kab18 := Lib.hid (Kab16.out.below X.out Kab16.out.lt)
  have Kac18 := Lib.hid (Kac16.out.below X.out Kac16.out.lt)
  have Kad18 := Lib.hid (Kad16.out.below X.out Kad16.out.lt)
  have Gaa18 := Lib.hid (Gaa16.out.past X.out)
  have Gab18 := Lib.hid (Gab16.out.past X.out)
  have Gac18 := Lib.hid (Gac16.out.past X.out)
  have Gad18 := Lib.hid (Gad16.out.past X.out)
  have Gam18 := Lib.hid (Gm.out.past X.out)
  clear X Ba16 Kaa16 Kab16 Kac16 Kad16 Gaa16 Gab16 Gac16 Gad16 Gm
  obtain ⟨za0, za1, za2, za3, -, -, -, -⟩ := fr_cells Kaa18.out
  have M := Lib.hid (neg_R ⟨s1a, A1a, n1a, c1a, s2a, A2a, n2a, c2a⟩ Gaa18.out (HT.out.on Ba18.out) (by decide))
  (try dsimp only [frV] at M)
  go_wp2_with fail
  refine M.out.mono ?_
  rintro e wa19 ⟨⟨s1p, A1p, n1p, c1p, s2p, A2p, n2p, c2p⟩, rfl, hc1, hc2, hf, f1, f2, hb⟩
  clear M
  (try dsimp only [frV])
  have X := Lib.hid hb
  have Gp := Lib.hid hf
  clear hc1 hc2 hf f1 f2 hb
  have Ba20 := Lib.hid (Ba18.out.trans (X.out.mono Ba18.out.size))
  have Kaa20 := Lib.hid (Kaa18.out.below X.out Kaa18.out.lt)
  have Kab20 := Lib.hid (Kab18.out.below X.out Kab18.out.lt)
  have Kac20 := Lib.hid (Kac18.out.below X.out Kac18.out.lt)
  have Kad20 := Lib.hid (Kad18.out.below X.out Kad18.out.lt)
  have Gaa20 := Lib.hid (Gaa18.out.past X.out)
  have Gab20 := Lib.hid (Gab18.out.past X.out)
  have Gac20 := Lib.hid (Gac18.out.past X.out)
  have Gad20 := Lib.hid (Gad18.out.past X.out)
  have Gam20 := Lib.hid (Gam18.out.past X.out)
  clear X Ba18 Kaa18 Kab18 Kac18 Kad18 Gaa18 Gab18 Gac18 Gad18 Gam18
  clear za0 za1 za2 za3
  have M := Lib.hid (lof5 1 2 wa19 (by decide) (by decide) (by decide) (by decide) (by decide) (HT.out.on Ba20.out))
  (try dsimp only [frV] at M)
  go_wp2_with fail
  refine M.out.mono ?_
  rintro e wa21 ⟨⟨s1q, A1q, n1q, c1q, s2q, A2q, n2q, c2q⟩, rfl, hc1, hc2, hf, f1, f2, hb⟩
  clear M
  (try dsimp only [frV])
  have X := Lib.hid hb
  have Gq := Lib.hid hf
  clear hc1 hc2 hf f1 f2 hb
  have Ba22 := Lib.hid (Ba20.out.trans (X.out.mono Ba20.out.size))
  have Kaa22 := Lib.hid (Kaa20.out.below X.out Kaa20.out.lt)
  have Kab22 := Lib.hid (Kab20.out.below X.out Kab20.out.lt)
  have Kac22 := Lib.hid (Kac20.out.below X.out Kac20.out.lt)
  have Kad22 := Lib.hid (Kad20.out.below X.out Kad20.out.lt)
  have Gaa22 := Lib.hid (Gaa20.out.past X.out)
  have Gab22 := Lib.hid (Gab20.out.past X.out)
  have Gac22 := Lib.hid (Gac20.out.past X.out)
  have Gad22 := Lib.hid (Gad20.out.past X.out)
  have Gam22 := Lib.hid (Gam20.out.past X.out)
  have Gap22 := Lib.hid (Gp.out.past X.out)
  clear X Ba20 Kaa20 Kab20 Kac20 Kad20 Gaa20 Gab20 Gac20 Gad20 Gam20 Gp
  have M := Lib.hid (same_R ⟨s1p, A1p, n1p, c1p, s2p, A2p, n2p, c2p⟩ ⟨s1q, A1q, n1q, c1q, s2q, A2q, n2q, c2q⟩ Gap22.out Gq.out (by decide) (o := true) (by decide +kernel))
  (try dsimp only [frV] at M)
  go_wp2_with fail
  refine M.out.mono ?_
  rintro e wa23 ⟨rfl, hb⟩
  clear M
  have X := Lib.hid hb
  clear hb
  have Ba24 := Lib.hid (Ba22.out.trans (X.out.mono Ba22.out.size))
  have Kaa24 := Lib.hid (Kaa22.out.below X.out Kaa22.out.lt)
  have Kab24 := Lib.hid (Kab22.out.below X.out Kab22.out.lt)
  have Kac24 := Lib.hid (Kac22.out.below X.out Kac22.out.lt)
  have Kad24 := Lib.hid (Kad22.out.below X.out Kad22.out.lt)
  have Gaa24 := Lib.hid (Gaa22.out.past X.out)
  have Gab24 := Lib.hid (Gab22.out.past X.out)
  have Gac24 := Lib.hid (Gac22.out.past X.out)
  have Gad24 := Lib.hid (Gad22.out.past X.out)
  have Gam24 := Lib.hid (Gam22.out.past X.out)
  have Gap24 := Lib.hid (Gap22.out.past X.out)
  have Gaq24 := Lib.hid (Gq.out.past X.out)
  clear X Ba22 Kaa22 Kab22 Kac22 Kad22 Gaa22 Gab22 Gac22 Gad22 Gam22 Gap22 Gq
  have M := Lib.hid (int_R (-2) wa23 (by decide) (by decide))
  (try dsimp only [frV] at M)
  go_wp2_with fail
  refine M.out.mono ?_
  rintro e wa25 ⟨⟨s1u, A1u, n1u, c1u, s2u, A2u, n2u, c2u⟩, rfl, hc1, hc2, hf, f1, f2, hb⟩
  clear M
  (try dsimp only [frV])
  have X := Lib.hid hb
  have Gu := Lib.hid hf
  clear hc1 hc2 hf f1 f2 hb
  have Ba26 := Lib.hid (Ba24.out.trans (X.out.mono Ba24.out.size))
  have Kaa26 := Lib.hid (Kaa24.out.below X.out Kaa24.out.lt)
  have Kab26 := Lib.hid (Kab24.out.below X.out Kab24.out.lt)
  have Kac26 := Lib.hid (Kac24.out.below X.out Kac24.out.lt)
  have Kad26 := Lib.hid (Kad24.out.below X.out Kad24.out.lt)
  have Gaa26 := Lib.hid (Gaa24.out.past X.out)
  have Gab26 := Lib.hid (Gab24.out.past X.out)
  have Gac26 := Lib.hid (Gac24.out.past X.out)
  have Gad26 := Lib.hid (Gad24.out.past X.out)
  have Gam26 := Lib.hid (Gam24.out.past X.out)
  have Gap26 := Lib.hid (Gap24.out.past X.out)
  have Gaq26 := Lib.hid (Gaq24.out.past X.out)
  clear X Ba24 Kaa24 Kab24 Kac24 Kad24 Gaa24 Gab24 Gac24 Gad24 Gam24 Gap24 Gaq24
  have M := Lib.hid (lof5 4 (-2) wa25 (by decide) (by decide) (by decide) (by decide) (by decide) (HT.out.on Ba26.out))
  (try dsimp only [frV] at M)
  go_wp2_with fail
  refine M.out.mono ?_
  rintro e wa27 ⟨⟨s1v, A1v, n1v, c1v, s2v, A2v, n2v, c2v⟩, rfl, hc1, hc2, hf, f1, f2, hb⟩
  clear M
  (try dsimp only [frV])
  have X := Lib.hid hb
  have Gv := Lib.hid hf
  clear hc1 hc2 hf f1 f2 hb
  have Ba28 := Lib.hid (Ba26.out.trans (X.out.mono Ba26.out.size))
  have Kaa28 := Lib.hid (Kaa26.out.below X.out Kaa26.out.lt)
  have Kab28 := Lib.hid (Kab26.out.below X.out Kab26.out.lt)
  have Kac28 := Lib.hid (Kac26.out.below X.out Kac26.out.lt)
  have Kad28 := Lib.hid (Kad26.out.below X.out Kad26.out.lt)
  have Gaa28 := Lib.hid (Gaa26.out.past X.out)
  have Gab28 := Lib.hid (Gab26.out.past X.out)
  have Gac28 := Lib.hid (Gac26.out.past X.out)
  have Gad28 := Lib.hid (Gad26.out.past X.out)
  have Gam28 := Lib.hid (Gam26.out.past X.out)
  have Gap28 := Lib.hid (Gap26.out.past X.out)
  have Gaq28 := Lib.hid (Gaq26.out.past X.out)
  have Gau28 := Lib.hid (Gu.out.past X.out)
  clear X Ba26 Kaa26 Kab26 Kac26 Kad26 Gaa26 Gab26 Gac26 Gad26 Gam26 Gap26 Gaq26 Gu
  have M := Lib.hid (same_R ⟨s1u, A1u, n1u, c1u, s2u, A2u, n2u, c2u⟩ ⟨s1v, A1v, n1v, c1v, s2v, A2v, n2v, c2v⟩ Gau28.out Gv.out (by decide) (o := true) (by decide +kernel))
  (try dsimp only [frV] at M)
  go_wp2_with fail
  refine M.out.mono ?_
  rintro e wa29 ⟨rfl, hb⟩
  clear M
  have X := Lib.hid hb
  clear hb
  have Ba30 := Lib.hid (Ba28.out.trans (X.out.mono Ba28.out.size))
  have Kaa30 := Lib.hid (Kaa28.out.below X.out Kaa28.out.lt)
  have Kab30 := Lib.hid (Kab28.out.below X.out Kab28.out.lt)
  have Kac30 := Lib.hid (Kac28.out.below X.out Kac28.out.lt)
  have Kad30 := Lib.hid (Kad28.out.below X.out Kad28.out.lt)
  have Gaa30 := Lib.hid (Gaa28.out.past X.out)
  have Gab30 := Lib.hid (Gab28.out.past X.out)
  have Gac30 := Lib.hid (Gac28.out.past X.out)
  have Gad30 := Lib.hid (Gad28.out.past X.out)
  have Gam30 := Lib.hid (Gam28.out.past X.out)
  have Gap30 := Lib.hid (Gap28.out.past X.out)
  have Gaq30 := Lib.hid (Gaq28.out.past X.out)
  have Gau30 := Lib.hid (Gau28.out.past X.out)
  have Gav30 := Lib.hid (Gv.out.past X.out)
  clear X Ba28 Kaa28 Kab28 Kac28 Kad28 Gaa28 Gab28 Gac28 Gad28 Gam28 Gap28 Gaq28 Gau28 Gv
  go_wp2_with fail
  go_ret
  exact ⟨rfl, Ba30.out⟩
set_option maxHeartbeats 16000000 in
theorem small5_any (w : World) (hT : TabZ w) (hS : Tab w) (hM : MaxL w) :
    Calls Tryz.prog 11 #[] w fun e w' => e = .returned (.bool true) ∧ Below w.heap.size w w' := by
  have HT := Lib.hid hT
  have HS := Lib.hid hS
  have HM := Lib.hid hM
  have B0 := Lib.hid (Below.refl w.heap.size w)
  clear hT hS hM
  go_enter Tryz.func11, Tryz.ntmps11
  have M := Lib.hid (lof5 1 2 w (by decide) (by decide) (by decide) (by decide) (by decide) (HT.out.on B0.out))
  (try dsimp only [frV] at M)
  go_wp2_with fail
  refine M.out.mono ?_
  rintro e wa1 ⟨⟨s1a, A1a, n1a, c1a, s2a, A2a, n2a, c2a⟩, rfl, hc1, hc2, hf, f1, f2, hb⟩
  clear M
  (try dsimp only [frV])
  have X := Lib.hid hb
  have Ga := Lib.hid hf
  clear hc1 hc2 hf f1 f2 hb
  have Ba2 := Lib.hid (B0.out.trans (X.out.mono B0.out.size))
  clear X B0
  obtain ⟨wa3, hw⟩ : ∃ W, W = wa1.alloc (.cells #[.int .i64 s1a, .slice A1a n1a c1a, .int .i64 s2a, .slice A2a n2a c2a] 26) := ⟨_, rfl⟩
  obtain ⟨ba, hbb⟩ : ∃ b, b = wa1.heap.size := ⟨_, rfl⟩
  have X := Lib.hid (bal (Below.refl wa1.heap.size wa1) (o := .cells #[.int .i64 s1a, .slice A1a n1a c1a, .int .i64 s2a, .slice A2a n2a c2a] 26))
  rw [← hw] at X
  have Ka := Lib.hid (Blk.new wa1 26 #[.int .i64 s1a, .slice A1a n1a c1a, .int .i64 s2a, .slice A2a n2a c2a])
  rw [← hw, ← hbb] at Ka
  go_upto_region 2 with (fail)
  rw [← hw, ← hbb]
  clear hw hbb
  have Ba4 := Lib.hid (Ba2.out.trans (X.out.mono Ba2.out.size))
  have Gaa4 := Lib.hid (Ga.out.past X.out)
  clear X Ba2 Ga
  have M := Lib.hid (lof5 1 3 wa3 (by decide) (by decide) (by decide) (by decide) (by decide) (HT.out.on Ba4.out))
  (try dsimp only [frV] at M)
  go_wp2_with fail
  refine M.out.mono ?_
  rintro e wa5 ⟨⟨s1b, A1b, n1b, c1b, s2b, A2b, n2b, c2b⟩, rfl, hc1, hc2, hf, f1, f2, hb⟩
  clear M
  (try dsimp only [frV])
  have X := Lib.hid hb
  have Gb := Lib.hid hf
  clear hc1 hc2 hf f1 f2 hb
  have Ba6 := Lib.hid (Ba4.out.trans (X.out.mono Ba4.out.size))
  have Kaa6 := Lib.hid (Ka.out.below X.out Ka.out.lt)
  have Gaa6 := Lib.hid (Gaa4.out.past X.out)
  clear X Ba4 Ka Gaa4
  obtain ⟨wa7, hw⟩ : ∃ W, W = wa5.alloc (.cells #[.int .i64 s1b, .slice A1b n1b c1b, .int .i64 s2b, .slice A2b n2b c2b] 26) := ⟨_, rfl⟩
  obtain ⟨bb, hbb⟩ : ∃ b, b = wa5.heap.size := ⟨_, rfl⟩
  have X := Lib.hid (bal (Below.refl wa5.heap.size wa5) (o := .cells #[.int .i64 s1b, .slice A1b n1b c1b, .int .i64 s2b, .slice A2b n2b c2b] 26))
  rw [← hw] at X
  have Kb := Lib.hid (Blk.new wa5 26 #[.int .i64 s1b, .slice A1b n1b c1b, .int .i64 s2b, .slice A2b n2b c2b])
  rw [← hw, ← hbb] at Kb
  go_upto_region 3 with (fail)
  rw [← hw, ← hbb]
  clear hw hbb
  have Ba8 := Lib.hid (Ba6.out.trans (X.out.mono Ba6.out.size))
  have Kaa8 := Lib.hid (Kaa6.out.below X.out Kaa6.out.lt)
  have Gaa8 := Lib.hid (Gaa6.out.past X.out)
  have Gab8 := Lib.hid (Gb.out.past X.out)
  clear X Ba6 Kaa6 Gaa6 Gb
  have M := Lib.hid (of_Z 1 wa7 (by decide) (by decide) (HT.out.on Ba8.out))
  (try dsimp only [frV] at M)
  go_wp2_with fail
  refine M.out.mono ?_
  rintro e wa9 ⟨rfl, hb⟩
  clear M
  have X := Lib.hid hb
  clear hb
  have Ba10 := Lib.hid (Ba8.out.trans (X.out.mono Ba8.out.size))
  have Kaa10 := Lib.hid (Kaa8.out.below X.out Kaa8.out.lt)
  have Kab10 := Lib.hid (Kb.out.below X.out Kb.out.lt)
  have Gaa10 := Lib.hid (Gaa8.out.past X.out)
  have Gab10 := Lib.hid (Gab8.out.past X.out)
  clear X Ba8 Kaa8 Kb Gaa8 Gab8
  obtain ⟨wa11, hw⟩ : ∃ W, W = wa9.alloc (.cells #[.int .i64 0, .slice none 0 0, .int .i64 0, .slice none 0 0] 26) := ⟨_, rfl⟩
  obtain ⟨bz, hbb⟩ : ∃ b, b = wa9.heap.size := ⟨_, rfl⟩
  have X := Lib.hid (bal (Below.refl wa9.heap.size wa9) (o := .cells #[.int .i64 0, .slice none 0 0, .int .i64 0, .slice none 0 0] 26))
  rw [← hw] at X
  go_upto_region 4 with (fail)
  rw [← hw, ← hbb]
  clear hw hbb
  have Ba12 := Lib.hid (Ba10.out.trans (X.out.mono Ba10.out.size))
  have Kaa12 := Lib.hid (Kaa10.out.below X.out Kaa10.out.lt)
  have Kab12 := Lib.hid (Kab10.out.below X.out Kab10.out.lt)
  have Gaa12 := Lib.hid (Gaa10.out.past X.out)
  have Gab12 := Lib.hid (Gab10.out.past X.out)
  clear X Ba10 Kaa10 Kab10 Gaa10 Gab10
  obtain ⟨za0, za1, za2, za3, -, -, -, -⟩ := fr_cells Kaa12.out
  obtain ⟨zb0, zb1, zb2, zb3, -, -, -, -⟩ := fr_cells Kab12.out
  have M := Lib.hid (add_R ⟨s1a, A1a, n1a, c1a, s2a, A2a, n2a, c2a⟩ ⟨s1b, A1b, n1b, c1b, s2b, A2b, n2b, c2b⟩ Gaa12.out Gab12.out (HT.out.on Ba12.out) (by decide))
  (try dsimp only [frV] at M)
  go_wp2_with fail
  refine M.out.mono ?_
  rintro e wa13 ⟨⟨s1c, A1c, n1c, c1c, s2c, A2c, n2c, c2c⟩, rfl, hc1, hc2, hf, f1, f2, hb⟩
  clear M
  (try dsimp only [frV])
  have X := Lib.hid hb
  have Gc := Lib.hid hf
  clear hc1 hc2 hf f1 f2 hb
  have Ba14 := Lib.hid (Ba12.out.trans (X.out.mono Ba12.out.size))
  have Kaa14 := Lib.hid (Kaa12.out.below X.out Kaa12.out.lt)
  have Kab14 := Lib.hid (Kab12.out.below X.out Kab12.out.lt)
  have Gaa14 := Lib.hid (Gaa12.out.past X.out)
  have Gab14 := Lib.hid (Gab12.out.past X.out)
  clear X Ba12 Kaa12 Kab12 Gaa12 Gab12
  clear za0 za1 za2 za3 zb0 zb1 zb2 zb3
  obtain ⟨wa15, hw⟩ : ∃ W, W = wa13.alloc (.cells #[.int .i64 s1c, .slice A1c n1c c1c, .int .i64 s2c, .slice A2c n2c c2c] 26) := ⟨_, rfl⟩
  obtain ⟨bc, hbb⟩ : ∃ b, b = wa13.heap.size := ⟨_, rfl⟩
  have X := Lib.hid (bal (Below.refl wa13.heap.size wa13) (o := .cells #[.int .i64 s1c, .slice A1c n1c c1c, .int .i64 s2c, .slice A2c n2c c2c] 26))
  rw [← hw] at X
  have Kc := Lib.hid (Blk.new wa13 26 #[.int .i64 s1c, .slice A1c n1c c1c, .int .i64 s2c, .slice A2c n2c c2c])
  rw [← hw, ← hbb] at Kc
  go_upto_region 5 with (fail)
  rw [← hw, ← hbb]
  clear hw hbb
  have Ba16 := Lib.hid (Ba14.out.trans (X.out.mono Ba14.out.size))
  have Kaa16 := Lib.hid (Kaa14.out.below X.out Kaa14.out.lt)
  have Kab16 := Lib.hid (Kab14.out.below X.out Kab14.out.lt)
  have Gaa16 := Lib.hid (Gaa14.out.past X.out)
  have Gab16 := Lib.hid (Gab14.out.past X.out)
  have Gac16 := Lib.hid (Gc.out.past X.out)
  clear X Ba14 Kaa14 Kab14 Gaa14 Gab14 Gc
  obtain ⟨za0, za1, za2, za3, -, -, -, -⟩ := fr_cells Kaa16.out
  obtain ⟨zb0, zb1, zb2, zb3, -, -, -, -⟩ := fr_cells Kab16.out
  have M := Lib.hid (sub_R ⟨s1a, A1a, n1a, c1a, s2a, A2a, n2a, c2a⟩ ⟨s1b, A1b, n1b, c1b, s2b, A2b, n2b, c2b⟩ Gaa16.out Gab16.out (HT.out.on Ba16.out) (by decide))
  (try dsimp only [frV] at M)
  go_wp2_with fail
  refine M.out.mono ?_
  rintro e wa17 ⟨⟨s1d, A1d, n1d, c1d, s2d, A2d, n2d, c2d⟩, rfl, hc1, hc2, hf, f1, f2, hb⟩
  clear M
  (try dsimp only [frV])
  have X := Lib.hid hb
  have Gd := Lib.hid hf
  clear hc1 hc2 hf f1 f2 hb
  have Ba18 := Lib.hid (Ba16.out.trans (X.out.mono Ba16.out.size))
  have Kaa18 := Lib.hid (Kaa16.out.below X.out Kaa16.out.lt)
  have Kab18 := Lib.hid (Kab16.out.below X.out Kab16.out.lt)
  have Kac18 := Lib.hid (Kc.out.below X.out Kc.out.lt)
  have Gaa18 := Lib.hid (Gaa16.out.past X.out)
  have Gab18 := Lib.hid (Gab16.out.past X.out)
  have Gac18 := Lib.hid (Gac16.out.past X.out)
  clear X Ba16 Kaa16 Kab16 Kc Gaa16 Gab16 Gac16
  clear za0 za1 za2 za3 zb0 zb1 zb2 zb3
  obtain ⟨wa19, hw⟩ : ∃ W, W = wa17.alloc (.cells #[.int .i64 s1d, .slice A1d n1d c1d, .int .i64 s2d, .slice A2d n2d c2d] 26) := ⟨_, rfl⟩
  obtain ⟨bd, hbb⟩ : ∃ b, b = wa17.heap.size := ⟨_, rfl⟩
  have X := Lib.hid (bal (Below.refl wa17.heap.size wa17) (o := .cells #[.int .i64 s1d, .slice A1d n1d c1d, .int .i64 s2d, .slice A2d n2d c2d] 26))
  rw [← hw] at X
  have Kd := Lib.hid (Blk.new wa17 26 #[.int .i64 s1d, .slice A1d n1d c1d, .int .i64 s2d, .slice A2d n2d c2d])
  rw [← hw, ← hbb] at Kd
  go_upto_region 6 with (fail)
  rw [← hw, ← hbb]
  clear hw hbb
  have Ba20 := Lib.hid (Ba18.out.trans (X.out.mono Ba18.out.size))
  have Kaa20 := Lib.hid (Kaa18.out.below X.out Kaa18.out.lt)
  have Kab20 := Lib.hid (Kab18.out.below X.out Kab18.out.lt)
  have Kac20 := Lib.hid (Kac18.out.below X.out Kac18.out.lt)
  have Gaa20 := Lib.hid (Gaa18.out.past X.out)
  have Gab20 := Lib.hid (Gab18.out.past X.out)
  have Gac20 := Lib.hid (Gac18.out.past X.out)
  have Gad20 := Lib.hid (Gd.out.past X.out)
  clear X Ba18 Kaa18 Kab18 Kac18 Gaa18 Gab18 Gac18 Gd
  obtain ⟨za0, za1, za2, za3, -, -, -, -⟩ := fr_cells Kaa20.out
  obtain ⟨zb0, zb1, zb2, zb3, -, -, -, -⟩ := fr_cells Kab20.out
  have M := Lib.hid (mul_R ⟨s1a, A1a, n1a, c1a, s2a, A2a, n2a, c2a⟩ ⟨s1b, A1b, n1b, c1b, s2b, A2b, n2b, c2b⟩ Gaa20.out Gab20.out (HT.out.on Ba20.out) (by decide))
  (try dsimp only [frV] at M)
  go_wp2_with fail
  refine M.out.mono ?_
  rintro e wa21 ⟨⟨s1g, A1g, n1g, c1g, s2g, A2g, n2g, c2g⟩, rfl, hc1, hc2, hf, f1, f2, hb⟩
  clear M
  (try dsimp only [frV])
  have X := Lib.hid hb
  have Gg := Lib.hid hf
  clear hc1 hc2 hf f1 f2 hb
  have Ba22 := Lib.hid (Ba20.out.trans (X.out.mono Ba20.out.size))
  have Kaa22 := Lib.hid (Kaa20.out.below X.out Kaa20.out.lt)
  have Kab22 := Lib.hid (Kab20.out.below X.out Kab20.out.lt)
  have Kac22 := Lib.hid (Kac20.out.below X.out Kac20.out.lt)
  have Kad22 := Lib.hid (Kd.out.below X.out Kd.out.lt)
  have Gaa22 := Lib.hid (Gaa20.out.past X.out)
  have Gab22 := Lib.hid (Gab20.out.past X.out)
  have Gac22 := Lib.hid (Gac20.out.past X.out)
  have Gad22 := Lib.hid (Gad20.out.past X.out)
  clear X Ba20 Kaa20 Kab20 Kac20 Kd Gaa20 Gab20 Gac20 Gad20
  clear za0 za1 za2 za3 zb0 zb1 zb2 zb3
  obtain ⟨wa23, hw⟩ : ∃ W, W = wa21.alloc (.cells #[.int .i64 s1g, .slice A1g n1g c1g, .int .i64 s2g, .slice A2g n2g c2g] 26) := ⟨_, rfl⟩
  obtain ⟨bg, hbb⟩ : ∃ b, b = wa21.heap.size := ⟨_, rfl⟩
  have X := Lib.hid (bal (Below.refl wa21.heap.size wa21) (o := .cells #[.int .i64 s1g, .slice A1g n1g c1g, .int .i64 s2g, .slice A2g n2g c2g] 26))
  rw [← hw] at X
  have Kg := Lib.hid (Blk.new wa21 26 #[.int .i64 s1g, .slice A1g n1g c1g, .int .i64 s2g, .slice A2g n2g c2g])
  rw [← hw, ← hbb] at Kg
  go_upto_region 7 with (fail)
  rw [← hw, ← hbb]
  clear hw hbb
  have Ba24 := Lib.hid (Ba22.out.trans (X.out.mono Ba22.out.size))
  have Kaa24 := Lib.hid (Kaa22.out.below X.out Kaa22.out.lt)
  have Kab24 := Lib.hid (Kab22.out.below X.out Kab22.out.lt)
  have Kac24 := Lib.hid (Kac22.out.below X.out Kac22.out.lt)
  have Kad24 := Lib.hid (Kad22.out.below X.out Kad22.out.lt)
  have Gaa24 := Lib.hid (Gaa22.out.past X.out)
  have Gab24 := Lib.hid (Gab22.out.past X.out)
  have Gac24 := Lib.hid (Gac22.out.past X.out)
  have Gad24 := Lib.hid (Gad22.out.past X.out)
  have Gag24 := Lib.hid (Gg.out.past X.out)
  clear X Ba22 Kaa22 Kab22 Kac22 Kad22 Gaa22 Gab22 Gac22 Gad22 Gg
  obtain ⟨za0, za1, za2, za3, -, -, -, -⟩ := fr_cells Kaa24.out
  obtain ⟨zb0, zb1, zb2, zb3, -, -, -, -⟩ := fr_cells Kab24.out
  have M := Lib.hid (div_R ⟨s1a, A1a, n1a, c1a, s2a, A2a, n2a, c2a⟩ ⟨s1b, A1b, n1b, c1b, s2b, A2b, n2b, c2b⟩ Gaa24.out Gab24.out (HT.out.on Ba24.out) (by decide) (by decide +kernel))
  (try dsimp only [frV] at M)
  go_wp2_with fail
  refine M.out.mono ?_
  rintro e wa25 ⟨⟨s1i, A1i, n1i, c1i, s2i, A2i, n2i, c2i⟩, rfl, hc1, hc2, hf, f1, f2, hb⟩
  clear M
  (try dsimp only [frV])
  have X := Lib.hid hb
  have Gi := Lib.hid hf
  clear hc1 hc2 hf f1 f2 hb
  have Ba26 := Lib.hid (Ba24.out.trans (X.out.mono Ba24.out.size))
  have Kaa26 := Lib.hid (Kaa24.out.below X.out Kaa24.out.lt)
  have Kab26 := Lib.hid (Kab24.out.below X.out Kab24.out.lt)
  have Kac26 := Lib.hid (Kac24.out.below X.out Kac24.out.lt)
  have Kad26 := Lib.hid (Kad24.out.below X.out Kad24.out.lt)
  have Kag26 := Lib.hid (Kg.out.below X.out Kg.out.lt)
  have Gaa26 := Lib.hid (Gaa24.out.past X.out)
  have Gab26 := Lib.hid (Gab24.out.past X.out)
  have Gac26 := Lib.hid (Gac24.out.past X.out)
  have Gad26 := Lib.hid (Gad24.out.past X.out)
  have Gag26 := Lib.hid (Gag24.out.past X.out)
  clear X Ba24 Kaa24 Kab24 Kac24 Kad24 Kg Gaa24 Gab24 Gac24 Gad24 Gag24
  clear za0 za1 za2 za3 zb0 zb1 zb2 zb3
  obtain ⟨wa27, hw⟩ : ∃ W, W = wa25.alloc (.cells #[.int .i64 s1i, .slice A1i n1i c1i, .int .i64 s2i, .slice A2i n2i c2i] 26) := ⟨_, rfl⟩
  obtain ⟨bi, hbb⟩ : ∃ b, b = wa25.heap.size := ⟨_, rfl⟩
  have X := Lib.hid (bal (Below.refl wa25.heap.size wa25) (o := .cells #[.int .i64 s1i, .slice A1i n1i c1i, .int .i64 s2i, .slice A2i n2i c2i] 26))
  rw [← hw] at X
  have Ki := Lib.hid (Blk.new wa25 26 #[.int .i64 s1i, .slice A1i n1i c1i, .int .i64 s2i, .slice A2i n2i c2i])
  rw [← hw, ← hbb] at Ki
  go_upto_region 8 with (fail)
  rw [← hw, ← hbb]
  clear hw hbb
  have Ba28 := Lib.hid (Ba26.out.trans (X.out.mono Ba26.out.size))
  have Kaa28 := Lib.hid (Kaa26.out.below X.out Kaa26.out.lt)
  have Kab28 := Lib.hid (Kab26.out.below X.out Kab26.out.lt)
  have Kac28 := Lib.hid (Kac26.out.below X.out Kac26.out.lt)
  have Kad28 := Lib.hid (Kad26.out.below X.out Kad26.out.lt)
  have Kag28 := Lib.hid (Kag26.out.below X.out Kag26.out.lt)
  have Gaa28 := Lib.hid (Gaa26.out.past X.out)
  have Gab28 := Lib.hid (Gab26.out.past X.out)
  have Gac28 := Lib.hid (Gac26.out.past X.out)
  have Gad28 := Lib.hid (Gad26.out.past X.out)
  have Gag28 := Lib.hid (Gag26.out.past X.out)
  have Gai28 := Lib.hid (Gi.out.past X.out)
  clear X Ba26 Kaa26 Kab26 Kac26 Kad26 Kag26 Gaa26 Gab26 Gac26 Gad26 Gag26 Gi
  have M := Lib.hid (read_not ⟨#[50, 47, 52]⟩ (p := 2) (q := 4) (by decide) (HT.out.on Ba28.out) (HM.out.on Ba28.out HM.out.pos) (by decide +kernel) (by decide +kernel) (by decide +kernel) (by decide +kernel) (by decide +kernel))
  (try dsimp only [frV] at M)
  go_wp2_with fail
  refine M.out.mono ?_
  rintro e wa29 ⟨rfl, hb⟩
  clear M
  have X := Lib.hid hb
  clear hb
  have Ba30 := Lib.hid (Ba28.out.trans (X.out.mono Ba28.out.size))
  have Kaa30 := Lib.hid (Kaa28.out.below X.out Kaa28.out.lt)
  have Kab30 := Lib.hid (Kab28.out.below X.out Kab28.out.lt)
  have Kac30 := Lib.hid (Kac28.out.below X.out Kac28.out.lt)
  have Kad30 := Lib.hid (Kad28.out.below X.out Kad28.out.lt)
  have Kag30 := Lib.hid (Kag28.out.below X.out Kag28.out.lt)
  have Kai30 := Lib.hid (Ki.out.below X.out Ki.out.lt)
  have Gaa30 := Lib.hid (Gaa28.out.past X.out)
  have Gab30 := Lib.hid (Gab28.out.past X.out)
  have Gac30 := Lib.hid (Gac28.out.past X.out)
  have Gad30 := Lib.hid (Gad28.out.past X.out)
  have Gag30 := Lib.hid (Gag28.out.past X.out)
  have Gai30 := Lib.hid (Gai28.out.past X.out)
  clear X Ba28 Kaa28 Kab28 Kac28 Kad28 Kag28 Ki Gaa28 Gab28 Gac28 Gad28 Gag28 Gai28
  obtain ⟨wa31, hw⟩ : ∃ W, W = wa29.alloc (.cells #[.int .i64 0, .slice none 0 0, .int .i64 0, .slice none 0 0] 26) := ⟨_, rfl⟩
  obtain ⟨byy, hbb⟩ : ∃ b, b = wa29.heap.size := ⟨_, rfl⟩
  have X := Lib.hid (bal (Below.refl wa29.heap.size wa29) (o := .cells #[.int .i64 0, .slice none 0 0, .int .i64 0, .slice none 0 0] 26))
  rw [← hw] at X
  go_upto_region 9 with (fail)
  rw [← hw, ← hbb]
  clear hw hbb
  have Ba32 := Lib.hid (Ba30.out.trans (X.out.mono Ba30.out.size))
  have Kaa32 := Lib.hid (Kaa30.out.below X.out Kaa30.out.lt)
  have Kab32 := Lib.hid (Kab30.out.below X.out Kab30.out.lt)
  have Kac32 := Lib.hid (Kac30.out.below X.out Kac30.out.lt)
  have Kad32 := Lib.hid (Kad30.out.below X.out Kad30.out.lt)
  have Kag32 := Lib.hid (Kag30.out.below X.out Kag30.out.lt)
  have Kai32 := Lib.hid (Kai30.out.below X.out Kai30.out.lt)
  have Gaa32 := Lib.hid (Gaa30.out.past X.out)
  have Gab32 := Lib.hid (Gab30.out.past X.out)
  have Gac32 := Lib.hid (Gac30.out.past X.out)
  have Gad32 := Lib.hid (Gad30.out.past X.out)
  have Gag32 := Lib.hid (Gag30.out.past X.out)
  have Gai32 := Lib.hid (Gai30.out.past X.out)
  clear X Ba30 Kaa30 Kab30 Kac30 Kad30 Kag30 Kai30 Gaa30 Gab30 Gac30 Gad30 Gag30 Gai30
  have M := Lib.hid (read_two ⟨#[45, 51, 47, 50]⟩ (p := -3) (q := 2) (x := ratio (-3) 2) (by decide) (HT.out.on Ba32.out) (HM.out.on Ba32.out HM.out.pos) (by decide +kernel) (by decide +kernel) (by decide +kernel) (by decide +kernel) (by decide +kernel))
  (try dsimp only [frV] at M)
  go_wp2_with fail
  refine M.out.mono ?_
  rintro e wa33 ⟨⟨s1m, A1m, n1m, c1m, s2m, A2m, n2m, c2m⟩, rfl, hc1, hc2, hf, f1, f2, hb⟩
  clear M
  (try dsimp only [frV])
  have X := Lib.hid hb
  have Gm := Lib.hid hf
  clear hc1 hc2 hf f1 f2 hb
  have Ba34 := Lib.hid (Ba32.out.trans (X.out.mono Ba32.out.size))
  have Kaa34 := Lib.hid (Kaa32.out.below X.out Kaa32.out.lt)
  have Kab34 := Lib.hid (Kab32.out.below X.out Kab32.out.lt)
  have Kac34 := Lib.hid (Kac32.out.below X.out Kac32.out.lt)
  have Kad34 := Lib.hid (Kad32.out.below X.out Kad32.out.lt)
  have Kag34 := Lib.hid (Kag32.out.below X.out Kag32.out.lt)
  have Kai34 := Lib.hid (Kai32.out.below X.out Kai32.out.lt)
  have Gaa34 := Lib.hid (Gaa32.out.past X.out)
  have Gab34 := Lib.hid (Gab32.out.past X.out)
  have Gac34 := Lib.hid (Gac32.out.past X.out)
  have Gad34 := Lib.hid (Gad32.out.past X.out)
  have Gag34 := Lib.hid (Gag32.out.past X.out)
  have Gai34 := Lib.hid (Gai32.out.past X.out)
  clear X Ba32 Kaa32 Kab32 Kac32 Kad32 Kag32 Kai32 Gaa32 Gab32 Gac32 Gad32 Gag32 Gai32
  obtain ⟨wa35, hw⟩ : ∃ W, W = wa33.alloc (.cells #[.int .i64 s1m, .slice A1m n1m c1m, .int .i64 s2m, .slice A2m n2m c2m] 26) := ⟨_, rfl⟩
  obtain ⟨bm, hbb⟩ : ∃ b, b = wa33.heap.size := ⟨_, rfl⟩
  have X := Lib.hid (bal (Below.refl wa33.heap.size wa33) (o := .cells #[.int .i64 s1m, .slice A1m n1m c1m, .int .i64 s2m, .slice A2m n2m c2m] 26))
  rw [← hw] at X
  have Km := Lib.hid (Blk.new wa33 26 #[.int .i64 s1m, .slice A1m n1m c1m, .int .i64 s2m, .slice A2m n2m c2m])
  rw [← hw, ← hbb] at Km
  go_upto_region 10 with (fail)
  rw [← hw, ← hbb]
  clear hw hbb
  have Ba36 := Lib.hid (Ba34.out.trans (X.out.mono Ba34.out.size))
  have Kaa36 := Lib.hid (Kaa34.out.below X.out Kaa34.out.lt)
  have Kab36 := Lib.hid (Kab34.out.below X.out Kab34.out.lt)
  have Kac36 := Lib.hid (Kac34.out.below X.out Kac34.out.lt)
  have Kad36 := Lib.hid (Kad34.out.below X.out Kad34.out.lt)
  have Kag36 := Lib.hid (Kag34.out.below X.out Kag34.out.lt)
  have Kai36 := Lib.hid (Kai34.out.below X.out Kai34.out.lt)
  have Gaa36 := Lib.hid (Gaa34.out.past X.out)
  have Gab36 := Lib.hid (Gab34.out.past X.out)
  have Gac36 := Lib.hid (Gac34.out.past X.out)
  have Gad36 := Lib.hid (Gad34.out.past X.out)
  have Gag36 := Lib.hid (Gag34.out.past X.out)
  have Gai36 := Lib.hid (Gai34.out.past X.out)
  have Gam36 := Lib.hid (Gm.out.past X.out)
  clear X Ba34 Kaa34 Kab34 Kac34 Kad34 Kag34 Kai34 Gaa34 Gab34 Gac34 Gad34 Gag34 Gai34 Gm
  have M := Lib.hid (lof5 6 (-4) wa35 (by decide) (by decide) (by decide) (by decide) (by decide) (HT.out.on Ba36.out))
  (try dsimp only [frV] at M)
  go_wp2_with fail
  refine M.out.mono ?_
  rintro e wa37 ⟨⟨s1p, A1p, n1p, c1p, s2p, A2p, n2p, c2p⟩, rfl, hc1, hc2, hf, f1, f2, hb⟩
  clear M
  (try dsimp only [frV])
  have X := Lib.hid hb
  have Gp := Lib.hid hf
  clear hc1 hc2 hf f1 f2 hb
  have Ba38 := Lib.hid (Ba36.out.trans (X.out.mono Ba36.out.size))
  have Kaa38 := Lib.hid (Kaa36.out.below X.out Kaa36.out.lt)
  have Kab38 := Lib.hid (Kab36.out.below X.out Kab36.out.lt)
  have Kac38 := Lib.hid (Kac36.out.below X.out Kac36.out.lt)
  have Kad38 := Lib.hid (Kad36.out.below X.out Kad36.out.lt)
  have Kag38 := Lib.hid (Kag36.out.below X.out Kag36.out.lt)
  have Kai38 := Lib.hid (Kai36.out.below X.out Kai36.out.lt)
  have Kam38 := Lib.hid (Km.out.below X.out Km.out.lt)
  have Gaa38 := Lib.hid (Gaa36.out.past X.out)
  have Gab38 := Lib.hid (Gab36.out.past X.out)
  have Gac38 := Lib.hid (Gac36.out.past X.out)
  have Gad38 := Lib.hid (Gad36.out.past X.out)
  have Gag38 := Lib.hid (Gag36.out.past X.out)
  have Gai38 := Lib.hid (Gai36.out.past X.out)
  have Gam38 := Lib.hid (Gam36.out.past X.out)
  clear X Ba36 Kaa36 Kab36 Kac36 Kad36 Kag36 Kai36 Km Gaa36 Gab36 Gac36 Gad36 Gag36 Gai36 Gam36
  have M := Lib.hid (text_lit ⟨s1p, A1p, n1p, c1p, s2p, A2p, n2p, c2p⟩ #[45, 51, 47, 50] Gp.out (HT.out.on Ba38.out) (HS.out.on Ba38.out) (by decide) (by decide +kernel))
  (try dsimp only [frV] at M)
  go_wp2_with fail
  refine M.out.mono ?_
  rintro e wa39 ⟨rfl, hb⟩
  clear M
  have X := Lib.hid hb
  clear hb
  have Ba40 := Lib.hid (Ba38.out.trans (X.out.mono Ba38.out.size))
  have Kaa40 := Lib.hid (Kaa38.out.below X.out Kaa38.out.lt)
  have Kab40 := Lib.hid (Kab38.out.below X.out Kab38.out.lt)
  have Kac40 := Lib.hid (Kac38.out.below X.out Kac38.out.lt)
  have Kad40 := Lib.hid (Kad38.out.below X.out Kad38.out.lt)
  have Kag40 := Lib.hid (Kag38.out.below X.out Kag38.out.lt)
  have Kai40 := Lib.hid (Kai38.out.below X.out Kai38.out.lt)
  have Kam40 := Lib.hid (Kam38.out.below X.out Kam38.out.lt)
  have Gaa40 := Lib.hid (Gaa38.out.past X.out)
  have Gab40 := Lib.hid (Gab38.out.past X.out)
  have Gac40 := Lib.hid (Gac38.out.past X.out)
  have Gad40 := Lib.hid (Gad38.out.past X.out)
  have Gag40 := Lib.hid (Gag38.out.past X.out)
  have Gai40 := Lib.hid (Gai38.out.past X.out)
  have Gam40 := Lib.hid (Gam38.out.past X.out)
  have Gap40 := Lib.hid (Gp.out.past X.out)
  clear X Ba38 Kaa38 Kab38 Kac38 Kad38 Kag38 Kai38 Kam38 Gaa38 Gab38 Gac38 Gad38 Gag38 Gai38 Gam38 Gp
  have M := Lib.hid (lof5 0 7 wa39 (by decide) (by decide) (by decide) (by decide) (by decide) (HT.out.on Ba40.out))
  (try dsimp only [frV] at M)
  go_wp2_with fail
  refine M.out.mono ?_
  rintro e wa41 ⟨⟨s1q, A1q, n1q, c1q, s2q, A2q, n2q, c2q⟩, rfl, hc1, hc2, hf, f1, f2, hb⟩
  clear M
  (try dsimp only [frV])
  have X := Lib.hid hb
  have Gq := Lib.hid hf
  clear hc1 hc2 hf f1 f2 hb
  have Ba42 := Lib.hid (Ba40.out.trans (X.out.mono Ba40.out.size))
  have Kaa42 := Lib.hid (Kaa40.out.below X.out Kaa40.out.lt)
  have Kab42 := Lib.hid (Kab40.out.below X.out Kab40.out.lt)
  have Kac42 := Lib.hid (Kac40.out.below X.out Kac40.out.lt)
  have Kad42 := Lib.hid (Kad40.out.below X.out Kad40.out.lt)
  have Kag42 := Lib.hid (Kag40.out.below X.out Kag40.out.lt)
  have Kai42 := Lib.hid (Kai40.out.below X.out Kai40.out.lt)
  have Kam42 := Lib.hid (Kam40.out.below X.out Kam40.out.lt)
  have Gaa42 := Lib.hid (Gaa40.out.past X.out)
  have Gab42 := Lib.hid (Gab40.out.past X.out)
  have Gac42 := Lib.hid (Gac40.out.past X.out)
  have Gad42 := Lib.hid (Gad40.out.past X.out)
  have Gag42 := Lib.hid (Gag40.out.past X.out)
  have Gai42 := Lib.hid (Gai40.out.past X.out)
  have Gam42 := Lib.hid (Gam40.out.past X.out)
  have Gap42 := Lib.hid (Gap40.out.past X.out)
  clear X Ba40 Kaa40 Kab40 Kac40 Kad40 Kag40 Kai40 Kam40 Gaa40 Gab40 Gac40 Gad40 Gag40 Gai40 Gam40 Gap40
  have M := Lib.hid (text_lit ⟨s1q, A1q, n1q, c1q, s2q, A2q, n2q, c2q⟩ #[48, 47, 49] Gq.out (HT.out.on Ba42.out) (HS.out.on Ba42.out) (by decide) (by decide +kernel))
  (try dsimp only [frV] at M)
  go_wp2_with fail
  refine M.out.mono ?_
  rintro e wa43 ⟨rfl, hb⟩
  clear M
  have X := Lib.hid hb
  clear hb
  have Ba44 := Lib.hid (Ba42.out.trans (X.out.mono Ba42.out.size))
  have Kaa44 := Lib.hid (Kaa42.out.below X.out Kaa42.out.lt)
  have Kab44 := Lib.hid (Kab42.out.below X.out Kab42.out.lt)
  have Kac44 := Lib.hid (Kac42.out.below X.out Kac42.out.lt)
  have Kad44 := Lib.hid (Kad42.out.below X.out Kad42.out.lt)
  have Kag44 := Lib.hid (Kag42.out.below X.out Kag42.out.lt)
  have Kai44 := Lib.hid (Kai42.out.below X.out Kai42.out.lt)
  have Kam44 := Lib.hid (Kam42.out.below X.out Kam42.out.lt)
  have Gaa44 := Lib.hid (Gaa42.out.past X.out)
  have Gab44 := Lib.hid (Gab42.out.past X.out)
  have Gac44 := Lib.hid (Gac42.out.past X.out)
  have Gad44 := Lib.hid (Gad42.out.past X.out)
  have Gag44 := Lib.hid (Gag42.out.past X.out)
  have Gai44 := Lib.hid (Gai42.out.past X.out)
  have Gam44 := Lib.hid (Gam42.out.past X.out)
  have Gap44 := Lib.hid (Gap42.out.past X.out)
  have Gaq44 := Lib.hid (Gq.out.past X.out)
  clear X Ba42 Kaa42 Kab42 Kac42 Kad42 Kag42 Kai42 Kam42 Gaa42 Gab42 Gac42 Gad42 Gag42 Gai42 Gam42 Gap42 Gq
  obtain ⟨zc0, zc1, zc2, zc3, -, -, -, -⟩ := fr_cells Kac44.out
  have M := Lib.hid (text_lit ⟨s1c, A1c, n1c, c1c, s2c, A2c, n2c, c2c⟩ #[53, 47, 54] Gac44.out (HT.out.on Ba44.out) (HS.out.on Ba44.out) (by decide) (by decide +kernel))
  (try dsimp only [frV] at M)
  go_wp2_with fail
  refine M.out.mono ?_
  rintro e wa45 ⟨rfl, hb⟩
  clear M
  have X := Lib.hid hb
  clear hb
  have Ba46 := Lib.hid (Ba44.out.trans (X.out.mono Ba44.out.size))
  have Kaa46 := Lib.hid (Kaa44.out.below X.out Kaa44.out.lt)
  have Kab46 := Lib.hid (Kab44.out.below X.out Kab44.out.lt)
  have Kac46 := Lib.hid (Kac44.out.below X.out Kac44.out.lt)
  have Kad46 := Lib.hid (Kad44.out.below X.out Kad44.out.lt)
  have Kag46 := Lib.hid (Kag44.out.below X.out Kag44.out.lt)
  have Kai46 := Lib.hid (Kai44.out.below X.out Kai44.out.lt)
  have Kam46 := Lib.hid (Kam44.out.below X.out Kam44.out.lt)
  have Gaa46 := Lib.hid (Gaa44.out.past X.out)
  have Gab46 := Lib.hid (Gab44.out.past X.out)
  have Gac46 := Lib.hid (Gac44.out.past X.out)
  have Gad46 := Lib.hid (Gad44.out.past X.out)
  have Gag46 := Lib.hid (Gag44.out.past X.out)
  have Gai46 := Lib.hid (Gai44.out.past X.out)
  have Gam46 := Lib.hid (Gam44.out.past X.out)
  have Gap46 := Lib.hid (Gap44.out.past X.out)
  have Gaq46 := Lib.hid (Gaq44.out.past X.out)
  clear X Ba44 Kaa44 Kab44 Kac44 Kad44 Kag44 Kai44 Kam44 Gaa44 Gab44 Gac44 Gad44 Gag44 Gai44 Gam44 Gap44 Gaq44
  clear zc0 zc1 zc2 zc3
  obtain ⟨zd0, zd1, zd2, zd3, -, -, -, -⟩ := fr_cells Kad46.out
  have M := Lib.hid (text_lit ⟨s1d, A1d, n1d, c1d, s2d, A2d, n2d, c2d⟩ #[49, 47, 54] Gad46.out (HT.out.on Ba46.out) (HS.out.on Ba46.out) (by decide) (by decide +kernel))
  (try dsimp only [frV] at M)
  go_wp2_with fail
  refine M.out.mono ?_
  rintro e wa47 ⟨rfl, hb⟩
  clear M
  have X := Lib.hid hb
  clear hb
  have Ba48 := Lib.hid (Ba46.out.trans (X.out.mono Ba46.out.size))
  have Kaa48 := Lib.hid (Kaa46.out.below X.out Kaa46.out.lt)
  have Kab48 := Lib.hid (Kab46.out.below X.out Kab46.out.lt)
  have Kac48 := Lib.hid (Kac46.out.below X.out Kac46.out.lt)
  have Kad48 := Lib.hid (Kad46.out.below X.out Kad46.out.lt)
  have Kag48 := Lib.hid (Kag46.out.below X.out Kag46.out.lt)
  have Kai48 := Lib.hid (Kai46.out.below X.out Kai46.out.lt)
  have Kam48 := Lib.hid (Kam46.out.below X.out Kam46.out.lt)
  have Gaa48 := Lib.hid (Gaa46.out.past X.out)
  have Gab48 := Lib.hid (Gab46.out.past X.out)
  have Gac48 := Lib.hid (Gac46.out.past X.out)
  have Gad48 := Lib.hid (Gad46.out.past X.out)
  have Gag48 := Lib.hid (Gag46.out.past X.out)
  have Gai48 := Lib.hid (Gai46.out.past X.out)
  have Gam48 := Lib.hid (Gam46.out.past X.out)
  have Gap48 := Lib.hid (Gap46.out.past X.out)
  have Gaq48 := Lib.hid (Gaq46.out.past X.out)
  clear X Ba46 Kaa46 Kab46 Kac46 Kad46 Kag46 Kai46 Kam46 Gaa46 Gab46 Gac46 Gad46 Gag46 Gai46 Gam46 Gap46 Gaq46
  clear zd0 zd1 zd2 zd3
  obtain ⟨zg0, zg1, zg2, zg3, -, -, -, -⟩ := fr_cells Kag48.out
  have M := Lib.hid (text_lit ⟨s1g, A1g, n1g, c1g, s2g, A2g, n2g, c2g⟩ #[49, 47, 54] Gag48.out (HT.out.on Ba48.out) (HS.out.on Ba48.out) (by decide) (by decide +kernel))
  (try dsimp only [frV] at M)
  go_wp2_with fail
  refine M.out.mono ?_
  rintro e wa49 ⟨rfl, hb⟩
  clear M
  have X := Lib.hid hb
  clear hb
  have Ba50 := Lib.hid (Ba48.out.trans (X.out.mono Ba48.out.size))
  have Kaa50 := Lib.hid (Kaa48.out.below X.out Kaa48.out.lt)
  have Kab50 := Lib.hid (Kab48.out.below X.out Kab48.out.lt)
  have Kac50 := Lib.hid (Kac48.out.below X.out Kac48.out.lt)
  have Kad50 := Lib.hid (Kad48.out.below X.out Kad48.out.lt)
  have Kag50 := Lib.hid (Kag48.out.below X.out Kag48.out.lt)
  have Kai50 := Lib.hid (Kai48.out.below X.out Kai48.out.lt)
  have Kam50 := Lib.hid (Kam48.out.below X.out Kam48.out.lt)
  have Gaa50 := Lib.hid (Gaa48.out.past X.out)
  have Gab50 := Lib.hid (Gab48.out.past X.out)
  have Gac50 := Lib.hid (Gac48.out.past X.out)
  have Gad50 := Lib.hid (Gad48.out.past X.out)
  have Gag50 := Lib.hid (Gag48.out.past X.out)
  have Gai50 := Lib.hid (Gai48.out.past X.out)
  have Gam50 := Lib.hid (Gam48.out.past X.out)
  have Gap50 := Lib.hid (Gap48.out.past X.out)
  have Gaq50 := Lib.hid (Gaq48.out.past X.out)
  clear X Ba48 Kaa48 Kab48 Kac48 Kad48 Kag48 Kai48 Kam48 Gaa48 Gab48 Gac48 Gad48 Gag48 Gai48 Gam48 Gap48 Gaq48
  clear zg0 zg1 zg2 zg3
  obtain ⟨zi0, zi1, zi2, zi3, -, -, -, -⟩ := fr_cells Kai50.out
  have M := Lib.hid (text_lit ⟨s1i, A1i, n1i, c1i, s2i, A2i, n2i, c2i⟩ #[51, 47, 50] Gai50.out (HT.out.on Ba50.out) (HS.out.on Ba50.out) (by decide) (by decide +kernel))
  (try dsimp only [frV] at M)
  go_wp2_with fail
  refine M.out.mono ?_
  rintro e wa51 ⟨rfl, hb⟩
  clear M
  have X := Lib.hid hb
  clear hb
  have Ba52 := Lib.hid (Ba50.out.trans (X.out.mono Ba50.out.size))
  have Kaa52 := Lib.hid (Kaa50.out.below X.out Kaa50.out.lt)
  have Kab52 := Lib.hid (Kab50.out.below X.out Kab50.out.lt)
  have Kac52 := Lib.hid (Kac50.out.below X.out Kac50.out.lt)
  have Kad52 := Lib.hid (Kad50.out.below X.out Kad50.out.lt)
  have Kag52 := Lib.hid (Kag50.out.below X.out Kag50.out.lt)
  have Kai52 := Lib.hid (Kai50.out.below X.out Kai50.out.lt)
  have Kam52 := Lib.hid (Kam50.out.below X.out Kam50.out.lt)
  have Gaa52 := Lib.hid (Gaa50.out.past X.out)
  have Gab52 := Lib.hid (Gab50.out.past X.out)
  have Gac52 := Lib.hid (Gac50.out.past X.out)
  have Gad52 := Lib.hid (Gad50.out.past X.out)
  have Gag52 := Lib.hid (Gag50.out.past X.out)
  have Gai52 := Lib.hid (Gai50.out.past X.out)
  have Gam52 := Lib.hid (Gam50.out.past X.out)
  have Gap52 := Lib.hid (Gap50.out.past X.out)
  have Gaq52 := Lib.hid (Gaq50.out.past X.out)
  clear X Ba50 Kaa50 Kab50 Kac50 Kad50 Kag50 Kai50 Kam50 Gaa50 Gab50 Gac50 Gad50 Gag50 Gai50 Gam50 Gap50 Gaq50
  clear zi0 zi1 zi2 zi3
  go_upto_region 11 with (fail)
  obtain ⟨zm0, zm1, zm2, zm3, -, -, -, -⟩ := fr_cells Kam52.out
  obtain ⟨za0, za1, za2, za3, -, -, -, -⟩ := fr_cells Kaa52.out
  obtain ⟨zb0, zb1, zb2, zb3, -, -, -, -⟩ := fr_cells Kab52.out
  have HC := Lib.hid (fun (w' : World) (h : Below wa51.heap.size wa51 w') => (⟨(h.cell (p := ⟨bm, 0, none⟩) (World.block_lt_of_cell? _ _ zm0)).trans zm0, (h.cell (p := ⟨bm, 1, none⟩) (World.block_lt_of_cell? _ _ zm1)).trans zm1, (h.cell (p := ⟨bm, 2, none⟩) (World.block_lt_of_cell? _ _ zm2)).trans zm2, (h.cell (p := ⟨bm, 3, none⟩) (World.block_lt_of_cell? _ _ zm3)).trans zm3, (h.cell (p := ⟨ba, 0, none⟩) (World.block_lt_of_cell? _ _ za0)).trans za0, (h.cell (p := ⟨ba, 1, none⟩) (World.block_lt_of_cell? _ _ za1)).trans za1, (h.cell (p := ⟨ba, 2, none⟩) (World.block_lt_of_cell? _ _ za2)).trans za2, (h.cell (p := ⟨ba, 3, none⟩) (World.block_lt_of_cell? _ _ za3)).trans za3, (h.cell (p := ⟨bb, 0, none⟩) (World.block_lt_of_cell? _ _ zb0)).trans zb0, (h.cell (p := ⟨bb, 1, none⟩) (World.block_lt_of_cell? _ _ zb1)).trans zb1, (h.cell (p := ⟨bb, 2, none⟩) (World.block_lt_of_cell? _ _ zb2)).trans zb2, (h.cell (p := ⟨bb, 3, none⟩) (World.block_lt_of_cell? _ _ zb3)).trans zb3⟩ : w'.cell? ⟨bm, 0, none⟩ = some (.int .i64 s1m) ∧ w'.cell? ⟨bm, 1, none⟩ = some (.slice A1m n1m c1m) ∧ w'.cell? ⟨bm, 2, none⟩ = some (.int .i64 s2m) ∧ w'.cell? ⟨bm, 3, none⟩ = some (.slice A2m n2m c2m) ∧ w'.cell? ⟨ba, 0, none⟩ = some (.int .i64 s1a) ∧ w'.cell? ⟨ba, 1, none⟩ = some (.slice A1a n1a c1a) ∧ w'.cell? ⟨ba, 2, none⟩ = some (.int .i64 s2a) ∧ w'.cell? ⟨ba, 3, none⟩ = some (.slice A2a n2a c2a) ∧ w'.cell? ⟨bb, 0, none⟩ = some (.int .i64 s1b) ∧ w'.cell? ⟨bb, 1, none⟩ = some (.slice A1b n1b c1b) ∧ w'.cell? ⟨bb, 2, none⟩ = some (.int .i64 s2b) ∧ w'.cell? ⟨bb, 3, none⟩ = some (.slice A2b n2b c2b)))
  clear zm0 zm1 zm2 zm3 za0 za1 za2 za3 zb0 zb1 zb2 zb3
  have Bv0 := Lib.hid (Below.refl wa51.heap.size wa51).drew
  refine wp_region_held_drew (S := fun w' => Below wa51.heap.size wa51 w') (by kernel_rfl) Bv0.out (fun hHeld => ?_)
  obtain ⟨vw0, hw⟩ : ∃ W, W = wa51.drew := ⟨_, rfl⟩
  rw [← hw] at hHeld Bv0 ⊢
  clear hw
  refine take_at (i := 0) (v := ?vv1) rfl (by kernel_rfl) (by kernel_rfl) (by kernel_rfl) (fun _ _ _ h => h) (Or.inl ⟨by rfl, ?vy1⟩) (by assumption) ?vr1
  case vy1 => (intro w hSw; (try dsimp only at hSw); go_simp; (try with_reducible rfl))
  simp only [Act.put, uA, uB, uC]
  refine take_at (i := 1) (v := ?vv2) rfl (by kernel_rfl) (by kernel_rfl) (by kernel_rfl) (fun _ _ _ h => h) (Or.inl ⟨by rfl, ?vy2⟩) (by assumption) ?vr2
  case vy2 => (intro w hSw; (try dsimp only at hSw); go_simp; (try with_reducible rfl))
  simp only [Act.put, uA, uB, uC]
  refine wpAnyH_ready (rs := [2]) (by kernel_rfl) (by simp) ?_
  refine cons_at (i := 2) rfl (fun K hK => ?_) AllReadyH.nil
  go_simp
  refine (lof5 (-1) 2 vw0 (by decide) (by decide) (by decide) (by decide) (by decide) (HT.out.on (Ba52.out.trans (Bv0.out.mono Ba52.out.size)))).mono ?_
  rintro e vw3 ⟨⟨spv2, Apv2, npv2, cpv2, sqv2, Aqv2, nqv2, cqv2⟩, rfl, hc1, hc2, hf, f1, f2, hb⟩
  try dsimp only [frV]
  try dsimp only
  have X3 := Lib.hid hb
  have FGv2_3 := Lib.hid hf
  have FAv2 : Hid (Fresh wa51 Apv2 npv2) := fun hp ad e => Nat.le_trans Bv0.out.size (f1 hp ad e)
  have FBv2 : Hid (Fresh wa51 Aqv2 nqv2) := fun hp ad e => Nat.le_trans Bv0.out.size (f2 hp ad e)
  have HCAv2 := Lib.hid hc1
  have HCBv2 := Lib.hid hc2
  have Bv4 := Lib.hid (Bv0.out.trans (X3.out.mono Bv0.out.size))
  refine hK.out _ _ ?_ (fun hHeld => ?_)
  · exact Bv4.out
  clear Bv0 X3 hc1 hc2 hf f1 f2 hb
  clear hK K
  (try simp only [Act.put, uA, uB, uC])
  refine wpAnyH_ready (rs := [3]) (by kernel_rfl) (by simp) ?_
  refine cons_at (i := 3) rfl (fun K hK => ?_) AllReadyH.nil
  go_simp
  refine (lof5 (-1) 3 vw3 (by decide) (by decide) (by decide) (by decide) (by decide) (HT.out.on (Ba52.out.trans (Bv4.out.mono Ba52.out.size)))).mono ?_
  rintro e vw5 ⟨⟨spv3, Apv3, npv3, cpv3, sqv3, Aqv3, nqv3, cqv3⟩, rfl, hc1, hc2, hf, f1, f2, hb⟩
  try dsimp only [frV]
  try dsimp only
  have X5 := Lib.hid hb
  have FGv3_5 := Lib.hid hf
  have FAv3 : Hid (Fresh wa51 Apv3 npv3) := fun hp ad e => Nat.le_trans Bv4.out.size (f1 hp ad e)
  have FBv3 : Hid (Fresh wa51 Aqv3 nqv3) := fun hp ad e => Nat.le_trans Bv4.out.size (f2 hp ad e)
  have HCAv3 := Lib.hid hc1
  have HCBv3 := Lib.hid hc2
  have Bv6 := Lib.hid (Bv4.out.trans (X5.out.mono Bv4.out.size))
  have FGv2_6 := Lib.hid (FGv2_3.out.past X5.out)
  refine hK.out _ _ ?_ (fun hHeld => ?_)
  · exact Bv6.out
  clear Bv4 FGv2_3 X5 hc1 hc2 hf f1 f2 hb
  clear hK K
  (try simp only [Act.put, uA, uB, uC])
  refine wpAnyH_ready (rs := [4]) (by kernel_rfl) (by simp) ?_
  refine cons_at (i := 4) rfl (fun K hK => ?_) AllReadyH.nil
  go_simp
  refine (compare_R ⟨spv2, Apv2, npv2, cpv2, sqv2, Aqv2, nqv2, cqv2⟩ ⟨spv3, Apv3, npv3, cpv3, sqv3, Aqv3, nqv3, cqv3⟩ FGv2_6.out FGv3_5.out (HT.out.on (Ba52.out.trans (Bv6.out.mono Ba52.out.size))) (by decide) (o := -1) (by decide +kernel)).mono ?_
  rintro e vw7 ⟨rfl, hb⟩
  try dsimp only
  have X7 := Lib.hid hb
  have Bv8 := Lib.hid (Bv6.out.trans (X7.out.mono Bv6.out.size))
  have FGv2_8 := Lib.hid (FGv2_6.out.past X7.out)
  have FGv3_8 := Lib.hid (FGv3_5.out.past X7.out)
  refine hK.out _ _ ?_ (fun hHeld => ?_)
  · exact Bv8.out
  clear Bv6 FGv2_6 FGv3_5 X7 hb
  clear hK K
  (try simp only [Act.put, uA, uB, uC])
  refine take_at (i := 5) (v := ?vv9) rfl (by kernel_rfl) (by kernel_rfl) (by kernel_rfl) (fun _ _ _ h => h) (Or.inl ⟨by rfl, ?vy9⟩) (by assumption) ?vr9
  case vy9 => (intro w hSw; (try dsimp only at hSw); go_simp; (try with_reducible rfl))
  simp only [Act.put, uA, uB, uC]
  refine take_at (i := 6) (v := ?vv10) rfl (by kernel_rfl) (by kernel_rfl) (by kernel_rfl) (fun _ _ _ h => h) (Or.inl ⟨by rfl, ?vy10⟩) (by assumption) ?vr10
  case vy10 => (intro w hSw; (try dsimp only at hSw); go_simp; (try with_reducible rfl))
  simp only [Act.put, uA, uB, uC]
  refine take_at (i := 7) (v := ?vv11) rfl (by kernel_rfl) (by kernel_rfl) (by kernel_rfl) (fun _ _ _ h => h) (Or.inl ⟨by rfl, ?vy11⟩) (by assumption) ?vr11
  case vy11 => (intro w hSw; (try dsimp only at hSw); go_simp; (try with_reducible rfl))
  simp only [Act.put, uA, uB, uC]
  refine wpAnyH_ready (rs := [8]) (by kernel_rfl) (by simp) ?_
  refine cons_at (i := 8) rfl (fun K hK => ?_) AllReadyH.nil
  go_simp
  refine (lof5 (-3) 2 vw7 (by decide) (by decide) (by decide) (by decide) (by decide) (HT.out.on (Ba52.out.trans (Bv8.out.mono Ba52.out.size)))).mono ?_
  rintro e vw12 ⟨⟨spv8, Apv8, npv8, cpv8, sqv8, Aqv8, nqv8, cqv8⟩, rfl, hc1, hc2, hf, f1, f2, hb⟩
  try dsimp only [frV]
  try dsimp only
  have X12 := Lib.hid hb
  have FGv8_12 := Lib.hid hf
  have FAv8 : Hid (Fresh wa51 Apv8 npv8) := fun hp ad e => Nat.le_trans Bv8.out.size (f1 hp ad e)
  have FBv8 : Hid (Fresh wa51 Aqv8 nqv8) := fun hp ad e => Nat.le_trans Bv8.out.size (f2 hp ad e)
  have HCAv8 := Lib.hid hc1
  have HCBv8 := Lib.hid hc2
  have Bv13 := Lib.hid (Bv8.out.trans (X12.out.mono Bv8.out.size))
  have FGv2_13 := Lib.hid (FGv2_8.out.past X12.out)
  have FGv3_13 := Lib.hid (FGv3_8.out.past X12.out)
  refine hK.out _ _ ?_ (fun hHeld => ?_)
  · exact Bv13.out
  clear Bv8 FGv2_8 FGv3_8 X12 hc1 hc2 hf f1 f2 hb
  clear hK K
  (try simp only [Act.put, uA, uB, uC])
  refine wpAnyH_ready (rs := [9]) (by kernel_rfl) (by simp) ?_
  refine cons_at (i := 9) rfl (fun K hK => ?_) AllReadyH.nil
  go_simp
  refine (floor_R ⟨spv8, Apv8, npv8, cpv8, sqv8, Aqv8, nqv8, cqv8⟩ FGv8_12.out (HT.out.on (Ba52.out.trans (Bv13.out.mono Ba52.out.size))) (by decide)).mono ?_
  rintro e vw14 ⟨s7, A7, n7, c7, rfl, hc, hg, hf, hb⟩
  try dsimp only
  have X14 := Lib.hid hb
  have Gv9_14 := Lib.hid hg
  have HCv9 := Lib.hid hc
  have FRv9 : Hid (Fresh wa51 A7 n7) := fun hp ad e => Nat.le_trans Bv13.out.size (hf hp ad e)
  have Bv15 := Lib.hid (Bv13.out.trans (X14.out.mono Bv13.out.size))
  have FGv2_15 := Lib.hid (FGv2_13.out.past X14.out)
  have FGv3_15 := Lib.hid (FGv3_13.out.past X14.out)
  have FGv8_15 := Lib.hid (FGv8_12.out.past X14.out)
  refine hK.out _ _ ?_ (fun hHeld => ?_)
  · exact Bv15.out
  clear Bv13 FGv2_13 FGv3_13 FGv8_12 X14 hc hg hf hb
  clear hK K
  (try simp only [Act.put, uA, uB, uC])
  refine wpAnyH_ready (rs := [10]) (by kernel_rfl) (by simp) ?_
  refine cons_at (i := 10) rfl (fun K hK => ?_) AllReadyH.nil
  go_simp
  refine (of_F (-2) vw14 (by decide) (by decide)).mono ?_
  rintro e vw16 ⟨s8, A8, n8, c8, rfl, hc, hg, hf, hb⟩
  try dsimp only
  have X16 := Lib.hid hb
  have Gv10_16 := Lib.hid hg
  have HCv10 := Lib.hid hc
  have FRv10 : Hid (Fresh wa51 A8 n8) := fun hp ad e => Nat.le_trans Bv15.out.size (hf hp ad e)
  have Bv17 := Lib.hid (Bv15.out.trans (X16.out.mono Bv15.out.size))
  have Gv9_17 := Lib.hid (Gv9_14.out.past X16.out)
  have FGv2_17 := Lib.hid (FGv2_15.out.past X16.out)
  have FGv3_17 := Lib.hid (FGv3_15.out.past X16.out)
  have FGv8_17 := Lib.hid (FGv8_15.out.past X16.out)
  refine hK.out _ _ ?_ (fun hHeld => ?_)
  · exact Bv17.out
  clear Bv15 Gv9_14 FGv2_15 FGv3_15 FGv8_15 X16 hc hg hf hb
  clear hK K
  (try simp only [Act.put, uA, uB, uC])
  refine wpAnyH_ready (rs := [11]) (by kernel_rfl) (by simp) ?_
  refine cons_at (i := 11) rfl (fun K hK => ?_) AllReadyH.nil
  go_simp
  refine (sameBig_B Gv9_17.out Gv10_16.out (by decide) (by decide) c7 c8 (r := true) (by decide +kernel)).mono ?_
  rintro e vw18 ⟨rfl, hb⟩
  try dsimp only
  have X18 := Lib.hid hb
  have Bv19 := Lib.hid (Bv17.out.trans (X18.out.mono Bv17.out.size))
  have Gv9_19 := Lib.hid (Gv9_17.out.past X18.out)
  have Gv10_19 := Lib.hid (Gv10_16.out.past X18.out)
  have FGv2_19 := Lib.hid (FGv2_17.out.past X18.out)
  have FGv3_19 := Lib.hid (FGv3_17.out.past X18.out)
  have FGv8_19 := Lib.hid (FGv8_17.out.past X18.out)
  refine hK.out _ _ ?_ (fun hHeld => ?_)
  · exact Bv19.out
  clear Bv17 Gv9_17 Gv10_16 FGv2_17 FGv3_17 FGv8_17 X18 hb
  clear hK K
  (try simp only [Act.put, uA, uB, uC])
  refine take_at (i := 12) (v := ?vv20) rfl (by kernel_rfl) (by kernel_rfl) (by kernel_rfl) (fun _ _ _ h => h) (Or.inl ⟨by rfl, ?vy20⟩) (by assumption) ?vr20
  case vy20 => (intro w hSw; (try dsimp only at hSw); go_simp; (try with_reducible rfl))
  simp only [Act.put, uA, uB, uC]
  refine take_at (i := 13) (v := ?vv21) rfl (by kernel_rfl) (by kernel_rfl) (by kernel_rfl) (fun _ _ _ h => h) (Or.inl ⟨by rfl, ?vy21⟩) (by assumption) ?vr21
  case vy21 => (intro w hSw; (try dsimp only at hSw); go_simp; (try with_reducible rfl))
  simp only [Act.put, uA, uB, uC]
  refine take_at (i := 14) (v := ?vv22) rfl (by kernel_rfl) (by kernel_rfl) (by kernel_rfl) (fun _ _ _ h => h) (Or.inl ⟨by rfl, ?vy22⟩) (by assumption) ?vr22
  case vy22 => (intro w hSw; (try dsimp only at hSw); go_simp; (try with_reducible rfl))
  simp only [Act.put, uA, uB, uC]
  refine take_at (i := 15) (v := ?vv23) rfl (by kernel_rfl) (by kernel_rfl) (by kernel_rfl) (fun _ _ _ h => h) (Or.inl ⟨by rfl, ?vy23⟩) (by assumption) ?vr23
  case vy23 => (intro w hSw; (try dsimp only at hSw); go_simp; (try with_reducible rfl))
  simp only [Act.put, uA, uB, uC]
  refine take_at (i := 16) (v := ?vv24) rfl (by kernel_rfl) (by kernel_rfl) (by kernel_rfl) (fun _ _ _ h => h) (Or.inl ⟨by rfl, ?vy24⟩) (by assumption) ?vr24
  case vy24 => (intro w hSw; (try dsimp only at hSw); go_simp; (try with_reducible rfl))
  simp only [Act.put, uA, uB, uC]
  refine take_at (i := 17) (v := ?vv25) rfl (by kernel_rfl) (by kernel_rfl) (by kernel_rfl) (fun _ _ _ h => h) (Or.inl ⟨by rfl, ?vy25⟩) (by assumption) ?vr25
  case vy25 => (intro w hSw; (try dsimp only at hSw); go_simp; (try with_reducible rfl))
  simp only [Act.put, uA, uB, uC]
  refine take_at (i := 18) (v := ?vv26) rfl (by kernel_rfl) (by kernel_rfl) (by kernel_rfl) (fun _ _ _ h => h) (Or.inl ⟨by rfl, ?vy26⟩) (by assumption) ?vr26
  case vy26 => (intro w hSw; (try dsimp only at hSw); go_simp; (try with_reducible rfl))
  simp only [Act.put, uA, uB, uC]
  refine take_at (i := 19) (v := ?vv27) rfl (by kernel_rfl) (by kernel_rfl) (by kernel_rfl) (fun _ _ _ h => h) (Or.inl ⟨by rfl, ?vy27⟩) (by assumption) ?vr27
  case vy27 => (intro w hSw; (try dsimp only at hSw); go_simp; (try with_reducible rfl))
  simp only [Act.put, uA, uB, uC]
  refine take_at (i := 20) (v := ?vv28) rfl (by kernel_rfl) (by kernel_rfl) (by kernel_rfl) (fun _ _ _ h => h) (Or.inl ⟨by rfl, ?vy28⟩) (by assumption) ?vr28
  case vy28 => (intro w hSw; (try dsimp only at hSw); go_simp; (try with_reducible rfl))
  simp only [Act.put, uA, uB, uC]
  refine take_at (i := 21) (v := ?vv29) rfl (by kernel_rfl) (by kernel_rfl) (by kernel_rfl) (fun _ _ _ h => h) (Or.inl ⟨by rfl, ?vy29⟩) (by assumption) ?vr29
  case vy29 => (intro w hSw; (try dsimp only at hSw); go_simp; (try with_reducible rfl))
  simp only [Act.put, uA, uB, uC]
  refine take_at (i := 22) (v := ?vv30) rfl (by kernel_rfl) (by kernel_rfl) (by kernel_rfl) (fun _ _ _ h => h) (Or.inl ⟨by rfl, ?vy30⟩) (by assumption) ?vr30
  case vy30 => (intro w hSw; (try dsimp only at hSw); obtain ⟨cc0, cc1, cc2, cc3, cc4, cc5, cc6, cc7, cc8, cc9, cc10, cc11⟩ := HC.out _ hSw; go_simp; (try with_reducible rfl))
  simp only [Act.put, uA, uB, uC]
  refine wpAnyH_ready (rs := [23]) (by kernel_rfl) (by simp) ?_
  refine cons_at (i := 23) rfl (fun K hK => ?_) AllReadyH.nil
  go_simp
  refine (lof5 (-3) 2 vw18 (by decide) (by decide) (by decide) (by decide) (by decide) (HT.out.on (Ba52.out.trans (Bv19.out.mono Ba52.out.size)))).mono ?_
  rintro e vw31 ⟨⟨spv23, Apv23, npv23, cpv23, sqv23, Aqv23, nqv23, cqv23⟩, rfl, hc1, hc2, hf, f1, f2, hb⟩
  try dsimp only [frV]
  try dsimp only
  have X31 := Lib.hid hb
  have FGv23_31 := Lib.hid hf
  have FAv23 : Hid (Fresh wa51 Apv23 npv23) := fun hp ad e => Nat.le_trans Bv19.out.size (f1 hp ad e)
  have FBv23 : Hid (Fresh wa51 Aqv23 nqv23) := fun hp ad e => Nat.le_trans Bv19.out.size (f2 hp ad e)
  have HCAv23 := Lib.hid hc1
  have HCBv23 := Lib.hid hc2
  have Bv32 := Lib.hid (Bv19.out.trans (X31.out.mono Bv19.out.size))
  have Gv9_32 := Lib.hid (Gv9_19.out.past X31.out)
  have Gv10_32 := Lib.hid (Gv10_19.out.past X31.out)
  have FGv2_32 := Lib.hid (FGv2_19.out.past X31.out)
  have FGv3_32 := Lib.hid (FGv3_19.out.past X31.out)
  have FGv8_32 := Lib.hid (FGv8_19.out.past X31.out)
  refine hK.out _ _ ?_ (fun hHeld => ?_)
  · exact Bv32.out
  clear Bv19 Gv9_19 Gv10_19 FGv2_19 FGv3_19 FGv8_19 X31 hc1 hc2 hf f1 f2 hb
  clear hK K
  (try simp only [Act.put, uA, uB, uC])
  refine wpAnyH_ready (rs := [24]) (by kernel_rfl) (by simp) ?_
  refine cons_at (i := 24) rfl (fun K hK => ?_) AllReadyH.nil
  go_simp
  refine (same5_R (k := 67) ⟨s1m, A1m, n1m, c1m, s2m, A2m, n2m, c2m⟩ ⟨spv23, Apv23, npv23, cpv23, sqv23, Aqv23, nqv23, cqv23⟩ (Gam52.out.past Bv32.out) (FGv23_31.out.more (by decide)) (by decide) (o := true) (by decide +kernel)).mono ?_
  rintro e vw33 ⟨rfl, hb⟩
  try dsimp only
  have X33 := Lib.hid hb
  have Bv34 := Lib.hid (Bv32.out.trans (X33.out.mono Bv32.out.size))
  have Gv9_34 := Lib.hid (Gv9_32.out.past X33.out)
  have Gv10_34 := Lib.hid (Gv10_32.out.past X33.out)
  have FGv2_34 := Lib.hid (FGv2_32.out.past X33.out)
  have FGv3_34 := Lib.hid (FGv3_32.out.past X33.out)
  have FGv8_34 := Lib.hid (FGv8_32.out.past X33.out)
  have FGv23_34 := Lib.hid (FGv23_31.out.past X33.out)
  refine hK.out _ _ ?_ (fun hHeld => ?_)
  · exact Bv34.out
  clear Bv32 Gv9_32 Gv10_32 FGv2_32 FGv3_32 FGv8_32 FGv23_31 X33 hb
  clear hK K
  (try simp only [Act.put, uA, uB, uC])
  refine take_at (i := 25) (v := ?vv35) rfl (by kernel_rfl) (by kernel_rfl) (by kernel_rfl) (fun _ _ _ h => h) (Or.inl ⟨by rfl, ?vy35⟩) (by assumption) ?vr35
  case vy35 => (intro w hSw; (try dsimp only at hSw); go_simp; (try with_reducible rfl))
  simp only [Act.put, uA, uB, uC]
  refine take_at (i := 26) (v := ?vv36) rfl (by kernel_rfl) (by kernel_rfl) (by kernel_rfl) (fun _ _ _ h => h) (Or.inl ⟨by rfl, ?vy36⟩) (by assumption) ?vr36
  case vy36 => (intro w hSw; (try dsimp only at hSw); go_simp; (try with_reducible rfl))
  simp only [Act.put, uA, uB, uC]
  refine take_at (i := 27) (v := ?vv37) rfl (by kernel_rfl) (by kernel_rfl) (by kernel_rfl) (fun _ _ _ h => h) (Or.inl ⟨by rfl, ?vy37⟩) (by assumption) ?vr37
  case vy37 => (intro w hSw; (try dsimp only at hSw); obtain ⟨cc0, cc1, cc2, cc3, cc4, cc5, cc6, cc7, cc8, cc9, cc10, cc11⟩ := HC.out _ hSw; go_simp; (try with_reducible rfl))
  simp only [Act.put, uA, uB, uC]
  refine wpAnyH_ready (rs := [28]) (by kernel_rfl) (by simp) ?_
  refine cons_at (i := 28) rfl (fun K hK => ?_) AllReadyH.nil
  go_simp
  refine (right_T ⟨s1a, A1a, n1a, c1a, s2a, A2a, n2a, c2a⟩ (Gaa52.out.past Bv34.out) (HT.out.on (Ba52.out.trans (Bv34.out.mono Ba52.out.size))) (by decide)).mono ?_
  rintro e vw38 ⟨rfl, hb⟩
  try dsimp only
  have X38 := Lib.hid hb
  have Bv39 := Lib.hid (Bv34.out.trans (X38.out.mono Bv34.out.size))
  have Gv9_39 := Lib.hid (Gv9_34.out.past X38.out)
  have Gv10_39 := Lib.hid (Gv10_34.out.past X38.out)
  have FGv2_39 := Lib.hid (FGv2_34.out.past X38.out)
  have FGv3_39 := Lib.hid (FGv3_34.out.past X38.out)
  have FGv8_39 := Lib.hid (FGv8_34.out.past X38.out)
  have FGv23_39 := Lib.hid (FGv23_34.out.past X38.out)
  refine hK.out _ _ ?_ (fun hHeld => ?_)
  · exact Bv39.out
  clear Bv34 Gv9_34 Gv10_34 FGv2_34 FGv3_34 FGv8_34 FGv23_34 X38 hb
  clear hK K
  (try simp only [Act.put, uA, uB, uC])
  refine take_at (i := 29) (v := ?vv40) rfl (by kernel_rfl) (by kernel_rfl) (by kernel_rfl) (fun _ _ _ h => h) (Or.inl ⟨by rfl, ?vy40⟩) (by assumption) ?vr40
  case vy40 => (intro w hSw; (try dsimp only at hSw); go_simp; (try with_reducible rfl))
  simp only [Act.put, uA, uB, uC]
  refine take_at (i := 30) (v := ?vv41) rfl (by kernel_rfl) (by kernel_rfl) (by kernel_rfl) (fun _ _ _ h => h) (Or.inl ⟨by rfl, ?vy41⟩) (by assumption) ?vr41
  case vy41 => (intro w hSw; (try dsimp only at hSw); go_simp; (try with_reducible rfl))
  simp only [Act.put, uA, uB, uC]
  refine take_at (i := 31) (v := ?vv42) rfl (by kernel_rfl) (by kernel_rfl) (by kernel_rfl) (fun _ _ _ h => h) (Or.inl ⟨by rfl, ?vy42⟩) (by assumption) ?vr42
  case vy42 => (intro w hSw; (try dsimp only at hSw); go_simp; (try with_reducible rfl))
  simp only [Act.put, uA, uB, uC]
  refine wpAnyH_ready (rs := [32]) (by kernel_rfl) (by simp) ?_
  refine cons_at (i := 32) rfl (fun K hK => ?_) AllReadyH.nil
  go_simp
  refine (right_sign ⟨0, none, 0, 0, 0, none, 0, 0⟩ (by decide) vw38).mono ?_
  rintro e vw43 ⟨rfl, hb⟩
  try dsimp only
  have X43 := Lib.hid hb
  have Bv44 := Lib.hid (Bv39.out.trans (X43.out.mono Bv39.out.size))
  have Gv9_44 := Lib.hid (Gv9_39.out.past X43.out)
  have Gv10_44 := Lib.hid (Gv10_39.out.past X43.out)
  have FGv2_44 := Lib.hid (FGv2_39.out.past X43.out)
  have FGv3_44 := Lib.hid (FGv3_39.out.past X43.out)
  have FGv8_44 := Lib.hid (FGv8_39.out.past X43.out)
  have FGv23_44 := Lib.hid (FGv23_39.out.past X43.out)
  refine hK.out _ _ ?_ (fun hHeld => ?_)
  · exact Bv44.out
  clear Bv39 Gv9_39 Gv10_39 FGv2_39 FGv3_39 FGv8_39 FGv23_39 X43 hb
  clear hK K
  (try simp only [Act.put, uA, uB, uC])
  refine take_at (i := 33) (v := ?vv45) rfl (by kernel_rfl) (by kernel_rfl) (by kernel_rfl) (fun _ _ _ h => h) (Or.inl ⟨by rfl, ?vy45⟩) (by assumption) ?vr45
  case vy45 => (intro w hSw; (try dsimp only at hSw); go_simp; (try with_reducible rfl))
  simp only [Act.put, uA, uB, uC]
  refine take_at (i := 34) (v := ?vv46) rfl (by kernel_rfl) (by kernel_rfl) (by kernel_rfl) (fun _ _ _ h => h) (Or.inl ⟨by rfl, ?vy46⟩) (by assumption) ?vr46
  case vy46 => (intro w hSw; (try dsimp only at hSw); go_simp; (try with_reducible rfl))
  simp only [Act.put, uA, uB, uC]
  refine take_at (i := 35) (v := ?vv47) rfl (by kernel_rfl) (by kernel_rfl) (by kernel_rfl) (fun _ _ _ h => h) (Or.inl ⟨by rfl, ?vy47⟩) (by assumption) ?vr47
  case vy47 => (intro w hSw; (try dsimp only at hSw); go_simp; (try with_reducible rfl))
  simp only [Act.put, uA, uB, uC]
  refine take_at (i := 37) (v := ?vv48) rfl (by kernel_rfl) (by kernel_rfl) (by kernel_rfl) (fun _ _ _ h => h) (Or.inl ⟨by rfl, ?vy48⟩) (by assumption) ?vr48
  case vy48 => (intro w hSw; (try dsimp only at hSw); obtain ⟨cc0, cc1, cc2, cc3, cc4, cc5, cc6, cc7, cc8, cc9, cc10, cc11⟩ := HC.out _ hSw; go_simp; (try with_reducible rfl))
  simp only [Act.put, uA, uB, uC]
  refine wpAnyH_ready (rs := [36]) (by kernel_rfl) (by simp) ?_
  refine cons_at (i := 36) rfl (fun K hK => ?_) AllReadyH.nil
  go_simp
  refine (lof5 (-1) 2 vw43 (by decide) (by decide) (by decide) (by decide) (by decide) (HT.out.on (Ba52.out.trans (Bv44.out.mono Ba52.out.size)))).mono ?_
  rintro e vw49 ⟨⟨spv36, Apv36, npv36, cpv36, sqv36, Aqv36, nqv36, cqv36⟩, rfl, hc1, hc2, hf, f1, f2, hb⟩
  try dsimp only [frV]
  try dsimp only
  have X49 := Lib.hid hb
  have FGv36_49 := Lib.hid hf
  have FAv36 : Hid (Fresh wa51 Apv36 npv36) := fun hp ad e => Nat.le_trans Bv44.out.size (f1 hp ad e)
  have FBv36 : Hid (Fresh wa51 Aqv36 nqv36) := fun hp ad e => Nat.le_trans Bv44.out.size (f2 hp ad e)
  have HCAv36 := Lib.hid hc1
  have HCBv36 := Lib.hid hc2
  have Bv50 := Lib.hid (Bv44.out.trans (X49.out.mono Bv44.out.size))
  have Gv9_50 := Lib.hid (Gv9_44.out.past X49.out)
  have Gv10_50 := Lib.hid (Gv10_44.out.past X49.out)
  have FGv2_50 := Lib.hid (FGv2_44.out.past X49.out)
  have FGv3_50 := Lib.hid (FGv3_44.out.past X49.out)
  have FGv8_50 := Lib.hid (FGv8_44.out.past X49.out)
  have FGv23_50 := Lib.hid (FGv23_44.out.past X49.out)
  refine hK.out _ _ ?_ (fun hHeld => ?_)
  · exact Bv50.out
  clear Bv44 Gv9_44 Gv10_44 FGv2_44 FGv3_44 FGv8_44 FGv23_44 X49 hc1 hc2 hf f1 f2 hb
  clear hK K
  (try simp only [Act.put, uA, uB, uC])
  refine wpAnyH_ready (rs := [38]) (by kernel_rfl) (by simp) ?_
  refine cons_at (i := 38) rfl (fun K hK => ?_) AllReadyH.nil
  go_simp
  refine (least_R ⟨spv36, Apv36, npv36, cpv36, sqv36, Aqv36, nqv36, cqv36⟩ ⟨s1b, A1b, n1b, c1b, s2b, A2b, n2b, c2b⟩ FGv36_49.out (Gab52.out.past Bv50.out) (HT.out.on (Ba52.out.trans (Bv50.out.mono Ba52.out.size)))).mono ?_
  rintro e vw51 ⟨rfl, hb⟩
  try dsimp only
  have X51 := Lib.hid hb
  have Bv52 := Lib.hid (Bv50.out.trans (X51.out.mono Bv50.out.size))
  have Gv9_52 := Lib.hid (Gv9_50.out.past X51.out)
  have Gv10_52 := Lib.hid (Gv10_50.out.past X51.out)
  have FGv2_52 := Lib.hid (FGv2_50.out.past X51.out)
  have FGv3_52 := Lib.hid (FGv3_50.out.past X51.out)
  have FGv8_52 := Lib.hid (FGv8_50.out.past X51.out)
  have FGv23_52 := Lib.hid (FGv23_50.out.past X51.out)
  have FGv36_52 := Lib.hid (FGv36_49.out.past X51.out)
  refine hK.out _ _ ?_ (fun hHeld => ?_)
  · exact Bv52.out
  clear Bv50 Gv9_50 Gv10_50 FGv2_50 FGv3_50 FGv8_50 FGv23_50 FGv36_49 X51 hb
  clear hK K
  (try simp only [Act.put, uA, uB, uC])
  refine take_at (i := 39) (v := ?vv53) rfl (by kernel_rfl) (by kernel_rfl) (by kernel_rfl) (fun _ _ _ h => h) (Or.inl ⟨by rfl, ?vy53⟩) (by assumption) ?vr53
  case vy53 => (intro w hSw; (try dsimp only at hSw); go_simp; (try with_reducible rfl))
  simp only [Act.put, uA, uB, uC]
  refine take_at (i := 40) (v := ?vv54) rfl (by kernel_rfl) (by kernel_rfl) (by kernel_rfl) (fun _ _ _ h => h) (Or.inl ⟨by rfl, ?vy54⟩) (by assumption) ?vr54
  case vy54 => (intro w hSw; (try dsimp only at hSw); go_simp; (try with_reducible rfl))
  simp only [Act.put, List.setIfInBounds_toArray, List.set_cons_zero]
  refine wpAnyH_done (by kernel_rfl) ?_ _
  go_wp2_with fail
  go_ret
  exact ⟨rfl, Ba52.out.trans (Bv52.out.mono Ba52.out.size)⟩
end Go.Proofs.YtmkhoofeekollaaGreatDoor
