/- The walk of the law FracBack. Conditions: the arguments' memory; the tables of math/bits and strconv as their texts lay them; the variable MaxLen of internal/bytealg holds an int. -/
import Derived.Test.YtmkhoofeekollaaGreatDoorS3
import Derived.Deep.DeepCutAuto
namespace Go.Proofs.YtmkhoofeekollaaGreatDoor
set_option maxRecDepth 20000
open Go.RowKit

set_option maxHeartbeats 16000000 in
theorem back_yes (ra : FrR) (l1a l2a : List Int) (z : Int) (s : ByteArray) (w : World) (_haa : FrArg w ra l1a l2a) (hT : TabZ w) (hS : Tab w) (hM : MaxL w) (t : (ra.n1 : Int) ≤ 40 ∧ (ra.n2 : Int) ≤ 40) (hl : (s.size : Int) ≤ 300) (hz : -9223372036854775808 ≤ z ∧ z ≤ 9223372036854775807) (xa : Rat) (u : IsFr w ra xa) :
    Calls Tryz.prog 5 #[frV ra, .int .i64 z, .string s] w fun e w' => e = .returned (.bool true) ∧ Below w.heap.size w w' := by
  have HR := Lib.hid t
  have hl2 : ¬ (300 : Int) < (s.size : Int) := by omega
  have HL : Hid (s.size ≤ 300) := by show _ ≤ _; omega
  have HXa : Hid (Fg w 40 xa ra) := ⟨u.1.as (by have h := u.1; exact few_sz h (by omega)), u.2.as (by have h := u.2; exact few_sz h (by omega))⟩
  have HZ := Lib.hid hz
  clear t u hz hl _haa
  obtain ⟨W0, hW0⟩ : ∃ W0, W0 = w.alloc (.cells (frC ra) 26) := ⟨_, rfl⟩
  have B0 : Hid (Below w.heap.size w W0) := by show Below _ _ _; rw [hW0]; exact bal (Below.refl w.heap.size w)
  have Kf : Hid (Blk W0 w.heap.size 26 (frC ra)) := by show Blk _ _ _ _; rw [hW0]; exact Blk.new_ (by simp)
  have HT := Lib.hid hT
  have HS := Lib.hid hS
  have HM := Lib.hid hM
  obtain ⟨s1a, A1a, n1a, c1a, s2a, A2a, n2a, c2a⟩ := ra
  dsimp only [frV, frC] at *
  clear hT hS hM
  go_enter Tryz.func5, Tryz.ntmps5
  go_wp2_with fail
  rw [← hW0]
  clear hW0
  have M := Lib.hid (small5_any W0 (HT.out.on B0.out) (HS.out.on B0.out) (HM.out.on B0.out HM.out.pos))
  (try dsimp only [frV] at M)
  go_wp2_with fail
  refine M.out.mono ?_
  rintro e w1 ⟨rfl, hb⟩
  clear M
  have X := Lib.hid hb
  clear hb
  have B2 := Lib.hid (B0.out.trans (X.out.mono B0.out.size))
  have Kf2 := Lib.hid (Kf.out.below X.out Kf.out.lt)
  clear X B0 Kf
  obtain ⟨zf0, zf1, zf2, zf3, -, -, -, -⟩ := fr_cells Kf2.out
  have M := Lib.hid (few5_T ⟨s1a, A1a, n1a, c1a, s2a, A2a, n2a, c2a⟩ 40 w1 HR.out.1 HR.out.2)
  (try dsimp only [frV] at M)
  go_wp2_with fail
  refine M.out.mono ?_
  rintro e w3 ⟨rfl, hb⟩
  clear M
  have X := Lib.hid hb
  clear hb
  have B4 := Lib.hid (B2.out.trans (X.out.mono B2.out.size))
  have Kf4 := Lib.hid (Kf2.out.below X.out Kf2.out.lt)
  clear X B2 Kf2
  clear zf0 zf1 zf2 zf3
  have Gf := Lib.hid (HXa.out.past B4.out)
  clear HXa
  have M := Lib.hid (read_all s HL.out (HT.out.on B4.out) (HM.out.on B4.out HM.out.pos))
  (try dsimp only [frV] at M)
  go_wp2_with fail
  refine M.out.mono ?_
  rintro e w5 ⟨er, ⟨s1g, A1g, n1g, c1g, s2g, A2g, n2g, c2g⟩, rfl, hd, hb⟩
  clear M
  (try dsimp only [frV])
  have X := Lib.hid hb
  have Gg := Lib.hid hd
  clear hd hb
  have B6 := Lib.hid (B4.out.trans (X.out.mono B4.out.size))
  have Kf6 := Lib.hid (Kf4.out.below X.out Kf4.out.lt)
  have Gf6 := Lib.hid (Gf.out.past X.out)
  clear X B4 Kf4 Gf
  have log : w.heap.size ≤ w5.heap.size := B6.out.size
  obtain ⟨w7, hw⟩ : ∃ W, W = w5.alloc (.cells #[.int .i64 s1g, .slice A1g n1g c1g, .int .i64 s2g, .slice A2g n2g c2g] 26) := ⟨_, rfl⟩
  obtain ⟨bg, hbb⟩ : ∃ b, b = w5.heap.size := ⟨_, rfl⟩
  have X := Lib.hid (bal (Below.refl w5.heap.size w5) (o := .cells #[.int .i64 s1g, .slice A1g n1g c1g, .int .i64 s2g, .slice A2g n2g c2g] 26))
  rw [← hw] at X
  have Kg := Lib.hid (Blk.new w5 26 #[.int .i64 s1g, .slice A1g n1g c1g, .int .i64 s2g, .slice A2g n2g c2g])
  rw [← hw, ← hbb] at Kg
  rw [← hbb] at log
  go_upto_region 5 with (fail)
  rw [← hw, ← hbb]
  clear hw hbb
  have B8 := Lib.hid (B6.out.trans (X.out.mono B6.out.size))
  have Kf8 := Lib.hid (Kf6.out.below X.out Kf6.out.lt)
  have Gf8 := Lib.hid (Gf6.out.past X.out)
  have Gg8 := Lib.hid (Gg.out.past X.out)
  clear X B6 Kf6 Gf6 Gg
  go_cut [62] (fun p1 wc => p1 = .bool false ∧ Below w7.heap.size w7 wc)
  case first => as_aux_lemma =>
   have BR := Lib.hid (Below.refl w7.heap.size w7)
   rcases Gg8.out with ⟨rfl, x, hx, hf⟩ | ⟨rfl, hr⟩
   · have HX := Lib.hid hx
     have Gx := Lib.hid hf
     clear hx hf
     obtain ⟨zg0, zg1, zg2, zg3, -, -, -, -⟩ := fr_cells Kg.out
     have M := Lib.hid (right_T ⟨s1g, A1g, n1g, c1g, s2g, A2g, n2g, c2g⟩ Gx.out (HT.out.on (B8.out.trans (BR.out.mono B8.out.size))) (by decide))
     (try dsimp only [frV] at M)
     go_wp2_with fail
     refine M.out.mono ?_
     rintro e w9 ⟨rfl, hb⟩
     clear M
     have X := Lib.hid hb
     clear hb
     have B10 := Lib.hid (BR.out.trans (X.out.mono BR.out.size))
     have Kf10 := Lib.hid (Kf8.out.below X.out Kf8.out.lt)
     have Kg10 := Lib.hid (Kg.out.below X.out Kg.out.lt)
     have Gf10 := Lib.hid (Gf8.out.past X.out)
     have Gg10 := Lib.hid (Gx.out.past X.out)
     clear X BR Kf8 Kg Gf8 Gx
     clear zg0 zg1 zg2 zg3
     obtain ⟨zg0, zg1, zg2, zg3, -, -, -, -⟩ := fr_cells Kg10.out
     have M := Lib.hid (text_is (k := 50) ⟨s1g, A1g, n1g, c1g, s2g, A2g, n2g, c2g⟩ s Gg10.out HX.out (HT.out.on (B8.out.trans (B10.out.mono B8.out.size))) (HS.out.on (B8.out.trans (B10.out.mono B8.out.size))) (by decide))
     (try dsimp only [frV] at M)
     go_wp2_with fail
     refine M.out.mono ?_
     rintro e w11 ⟨rfl, hb⟩
     clear M
     have X := Lib.hid hb
     clear hb
     have B12 := Lib.hid (B10.out.trans (X.out.mono B10.out.size))
     have Kf12 := Lib.hid (Kf10.out.below X.out Kf10.out.lt)
     have Kg12 := Lib.hid (Kg10.out.below X.out Kg10.out.lt)
     have Gf12 := Lib.hid (Gf10.out.past X.out)
     have Gg12 := Lib.hid (Gg10.out.past X.out)
     clear X B10 Kf10 Kg10 Gf10 Gg10
     clear zg0 zg1 zg2 zg3
     go_wp2_with fail
     go_meet
     exact ⟨rfl, B12.out⟩
   · obtain ⟨rfl, rfl, rfl, rfl, rfl, rfl, rfl, rfl⟩ := FrR.mk.inj hr
     clear hr
     obtain ⟨zg0, zg1, zg2, zg3, -, -, -, -⟩ := fr_cells Kg.out
     have M := Lib.hid (same_zero (w := w7))
     (try dsimp only [frV] at M)
     go_wp2_with fail
     refine M.out.mono ?_
     rintro e w13 ⟨rfl, hb⟩
     clear M
     have X := Lib.hid hb
     clear hb
     have B14 := Lib.hid (BR.out.trans (X.out.mono BR.out.size))
     have Kf14 := Lib.hid (Kf8.out.below X.out Kf8.out.lt)
     have Kg14 := Lib.hid (Kg.out.below X.out Kg.out.lt)
     have Gf14 := Lib.hid (Gf8.out.past X.out)
     clear X BR Kf8 Kg Gf8
     clear zg0 zg1 zg2 zg3
     go_wp2_with fail
     go_meet
     exact ⟨rfl, B14.out⟩
  case rest => as_aux_lemma =>
   obtain ⟨rfl, hb⟩ := hcut
   obtain ⟨w35, rfl⟩ : ∃ W : World, W = wc := ⟨_, rfl⟩
   have X := Lib.hid hb
   clear hb
   have B36 := Lib.hid (B8.out.trans (X.out.mono B8.out.size))
   have Kf36 := Lib.hid (Kf8.out.below X.out Kf8.out.lt)
   have Kg36 := Lib.hid (Kg.out.below X.out Kg.out.lt)
   have Gf36 := Lib.hid (Gf8.out.past X.out)
   have Gg36 := Lib.hid (Gg8.out.past X.out)
   clear X B8 Kf8 Kg Gf8 Gg8
   obtain ⟨t, ht⟩ : ∃ t : ByteArray, t.data.toList = txtF xa := ⟨⟨(txtF xa).toArray⟩, by simp⟩
   have HTX := Lib.hid ht
   clear ht
   obtain ⟨zf0, zf1, zf2, zf3, -, -, -, -⟩ := fr_cells Kf36.out
   have M := Lib.hid (text_is (k := 40) ⟨s1a, A1a, n1a, c1a, s2a, A2a, n2a, c2a⟩ t Gf36.out HTX.out (HT.out.on B36.out) (HS.out.on B36.out) (by decide))
   (try dsimp only [frV] at M)
   go_wp2_with fail
   refine M.out.mono ?_
   rintro e w37 ⟨rfl, hb⟩
   clear M
   have X := Lib.hid hb
   clear hb
   have B38 := Lib.hid (B36.out.trans (X.out.mono B36.out.size))
   have Kf38 := Lib.hid (Kf36.out.below X.out Kf36.out.lt)
   have Gf38 := Lib.hid (Gf36.out.past X.out)
   clear X B36 Kf36 Gf36
   clear zf0 zf1 zf2 zf3
   obtain ⟨zf0, zf1, zf2, zf3, -, -, -, -⟩ := fr_cells Kf38.out
   have M := Lib.hid (right_T ⟨s1a, A1a, n1a, c1a, s2a, A2a, n2a, c2a⟩ Gf38.out (HT.out.on B38.out) (by decide))
   (try dsimp only [frV] at M)
   go_wp2_with fail
   refine M.out.mono ?_
   rintro e w39 ⟨rfl, hb⟩
   clear M
   have X := Lib.hid hb
   clear hb
   have B40 := Lib.hid (B38.out.trans (X.out.mono B38.out.size))
   have Kf40 := Lib.hid (Kf38.out.below X.out Kf38.out.lt)
   have Gf40 := Lib.hid (Gf38.out.past X.out)
   clear X B38 Kf38 Gf38
   clear zf0 zf1 zf2 zf3
   have M := Lib.hid (read_yes t xa HTX.out (Nat.le_trans (itoa_len (Gf40.out.1.1.mono (by decide))) (by decide)) (Nat.le_trans (itoa_len (Gf40.out.2.1.mono (by decide))) (by decide)) (HT.out.on B40.out) (HM.out.on B40.out HM.out.pos))
   (try dsimp only [frV] at M)
   go_wp2_with fail
   refine M.out.mono ?_
   rintro e w41 ⟨⟨s1x, A1x, n1x, c1x, s2x, A2x, n2x, c2x⟩, rfl, hc1, hc2, hf, f1, f2, hb⟩
   clear M
   (try dsimp only [frV])
   have X := Lib.hid hb
   have Gx := Lib.hid hf
   clear hc1 hc2 hf f1 f2 hb
   have B42 := Lib.hid (B40.out.trans (X.out.mono B40.out.size))
   have Kf42 := Lib.hid (Kf40.out.below X.out Kf40.out.lt)
   have Gf42 := Lib.hid (Gf40.out.past X.out)
   clear X B40 Kf40 Gf40
   have lox : w.heap.size ≤ w41.heap.size := B42.out.size
   obtain ⟨w43, hw⟩ : ∃ W, W = w41.alloc (.cells #[.int .i64 s1x, .slice A1x n1x c1x, .int .i64 s2x, .slice A2x n2x c2x] 26) := ⟨_, rfl⟩
   obtain ⟨bx, hbb⟩ : ∃ b, b = w41.heap.size := ⟨_, rfl⟩
   have X := Lib.hid (bal (Below.refl w41.heap.size w41) (o := .cells #[.int .i64 s1x, .slice A1x n1x c1x, .int .i64 s2x, .slice A2x n2x c2x] 26))
   rw [← hw] at X
   have Kx := Lib.hid (Blk.new w41 26 #[.int .i64 s1x, .slice A1x n1x c1x, .int .i64 s2x, .slice A2x n2x c2x])
   rw [← hw, ← hbb] at Kx
   rw [← hbb] at lox
   go_upto_region 11 with (fail)
   rw [← hw, ← hbb]
   clear hw hbb
   have B44 := Lib.hid (B42.out.trans (X.out.mono B42.out.size))
   have Kf44 := Lib.hid (Kf42.out.below X.out Kf42.out.lt)
   have Gf44 := Lib.hid (Gf42.out.past X.out)
   have Gx44 := Lib.hid (Gx.out.past X.out)
   clear X B42 Kf42 Gf42 Gx
   obtain ⟨zf0, zf1, zf2, zf3, -, -, -, -⟩ := fr_cells Kf44.out
   have M := Lib.hid (new_self (k := 40) ⟨s1a, A1a, n1a, c1a, s2a, A2a, n2a, c2a⟩ Gf44.out (HT.out.on B44.out) (by decide))
   (try dsimp only [frV] at M)
   go_wp2_with fail
   refine M.out.mono ?_
   rintro e w45 ⟨⟨s1yy, A1yy, n1yy, c1yy, s2yy, A2yy, n2yy, c2yy⟩, rfl, hc1, hc2, hf, f1, f2, hb⟩
   clear M
   (try dsimp only [frV])
   have X := Lib.hid hb
   have Gyy := Lib.hid hf
   clear hc1 hc2 hf f1 f2 hb
   have B46 := Lib.hid (B44.out.trans (X.out.mono B44.out.size))
   have Kf46 := Lib.hid (Kf44.out.below X.out Kf44.out.lt)
   have Kx46 := Lib.hid (Kx.out.below X.out Kx.out.lt)
   have Gf46 := Lib.hid (Gf44.out.past X.out)
   have Gx46 := Lib.hid (Gx44.out.past X.out)
   clear X B44 Kf44 Kx Gf44 Gx44
   clear zf0 zf1 zf2 zf3
   have loyy : w.heap.size ≤ w45.heap.size := B46.out.size
   obtain ⟨w47, hw⟩ : ∃ W, W = w45.alloc (.cells #[.int .i64 s1yy, .slice A1yy n1yy c1yy, .int .i64 s2yy, .slice A2yy n2yy c2yy] 26) := ⟨_, rfl⟩
   obtain ⟨byy, hbb⟩ : ∃ b, b = w45.heap.size := ⟨_, rfl⟩
   have X := Lib.hid (bal (Below.refl w45.heap.size w45) (o := .cells #[.int .i64 s1yy, .slice A1yy n1yy c1yy, .int .i64 s2yy, .slice A2yy n2yy c2yy] 26))
   rw [← hw] at X
   have Kyy := Lib.hid (Blk.new w45 26 #[.int .i64 s1yy, .slice A1yy n1yy c1yy, .int .i64 s2yy, .slice A2yy n2yy c2yy])
   rw [← hw, ← hbb] at Kyy
   rw [← hbb] at loyy
   go_upto_region 12 with (fail)
   rw [← hw, ← hbb]
   clear hw hbb
   have B48 := Lib.hid (B46.out.trans (X.out.mono B46.out.size))
   have Kf48 := Lib.hid (Kf46.out.below X.out Kf46.out.lt)
   have Kx48 := Lib.hid (Kx46.out.below X.out Kx46.out.lt)
   have Gf48 := Lib.hid (Gf46.out.past X.out)
   have Gx48 := Lib.hid (Gx46.out.past X.out)
   have Gyy48 := Lib.hid (Gyy.out.past X.out)
   clear X B46 Kf46 Kx46 Gf46 Gx46 Gyy
   obtain ⟨zf0, zf1, zf2, zf3, -, -, -, -⟩ := fr_cells Kf48.out
   go_cut [15, 16] (fun p1 p2 wc => p2 = .int .i64 0 ∧ ∃ b, p1 = .pointer (some ⟨b, 0, none⟩) ∧ Hid (OneB w47 wc b (40 + 4) (xa.num * z)))
   case first => as_aux_lemma =>
    have HC := Lib.hid (fun (w' : World) (h : Below w47.heap.size w47 w') => (⟨(h.cell (p := ⟨w.heap.size, 0, none⟩) (World.block_lt_of_cell? _ _ zf0)).trans zf0, (h.cell (p := ⟨w.heap.size, 1, none⟩) (World.block_lt_of_cell? _ _ zf1)).trans zf1, (h.cell (p := ⟨w.heap.size, 2, none⟩) (World.block_lt_of_cell? _ _ zf2)).trans zf2, (h.cell (p := ⟨w.heap.size, 3, none⟩) (World.block_lt_of_cell? _ _ zf3)).trans zf3⟩ : w'.cell? ⟨w.heap.size, 0, none⟩ = some (.int .i64 s1a) ∧ w'.cell? ⟨w.heap.size, 1, none⟩ = some (.slice A1a n1a c1a) ∧ w'.cell? ⟨w.heap.size, 2, none⟩ = some (.int .i64 s2a) ∧ w'.cell? ⟨w.heap.size, 3, none⟩ = some (.slice A2a n2a c2a)))
    clear zf0 zf1 zf2 zf3
    have Bv12_0 := Lib.hid (Below.refl w47.heap.size w47).drew
    refine wp_region_held_drew (S := fun w' => Below w47.heap.size w47 w') (by kernel_rfl) Bv12_0.out (fun hHeld => ?_)
    obtain ⟨v12_w0, hw⟩ : ∃ W, W = w47.drew := ⟨_, rfl⟩
    rw [← hw] at hHeld Bv12_0 ⊢
    clear hw
    refine take_at (i := 0) (v := ?v12_v1) rfl (by kernel_rfl) (by kernel_rfl) (by kernel_rfl) (fun _ _ _ h => h) (Or.inl ⟨by rfl, ?v12_y1⟩) (by assumption) ?v12_r1
    case v12_y1 => (intro w hSw; (try dsimp only at hSw); go_simp; (try with_reducible rfl))
    simp only [Act.put, List.setIfInBounds_toArray, List.set_cons_zero, List.set_cons_succ]
    refine take_at (i := 1) (v := ?v12_v2) rfl (by kernel_rfl) (by kernel_rfl) (by kernel_rfl) (fun _ _ _ h => h) (Or.inl ⟨by rfl, ?v12_y2⟩) (by assumption) ?v12_r2
    case v12_y2 => (intro w hSw; (try dsimp only at hSw); obtain ⟨cc0, cc1, cc2, cc3⟩ := HC.out _ hSw; go_simp; (try with_reducible rfl))
    simp only [Act.put, List.setIfInBounds_toArray, List.set_cons_zero, List.set_cons_succ]
    refine take_at (i := 2) (v := ?v12_v3) rfl (by kernel_rfl) (by kernel_rfl) (by kernel_rfl) (fun _ _ _ h => h) (Or.inl ⟨by rfl, ?v12_y3⟩) (by assumption) ?v12_r3
    case v12_y3 => (intro w hSw; (try dsimp only at hSw); go_simp; (try with_reducible rfl))
    simp only [Act.put, List.setIfInBounds_toArray, List.set_cons_zero, List.set_cons_succ]
    refine wpAnyH_ready (rs := [3, 8]) (by kernel_rfl) (by simp) ?_
    refine cons_at (i := 3) rfl (fun K hK => ?_) ?_
    go_simp
    refine (of_F z v12_w0 HZ.out.1 HZ.out.2).mono ?_
    rintro e v12_w4 ⟨s7, A7, n7, c7, rfl, hc, hg, hf, hb⟩
    try dsimp only
    have X4 := Lib.hid hb
    have Gv12_3_4 := Lib.hid hg
    have HCv12_3 := Lib.hid hc
    have FRv12_3 : Hid (Fresh w47 A7 n7) := fun hp ad e => Nat.le_trans Bv12_0.out.size (hf hp ad e)
    have Bv12_5 := Lib.hid (Bv12_0.out.trans (X4.out.mono Bv12_0.out.size))
    refine hK.out _ _ ?_ (fun hHeld => ?_)
    · exact Bv12_5.out
    clear Bv12_0 X4 hc hg hf hb
    clear hK K
    (try simp only [Act.put, uA, uB, uC])
    refine wpAnyH_ready (rs := [4, 8]) (by kernel_rfl) (by simp) ?_
    refine cons_at (i := 4) rfl (fun K hK => ?_) ?_
    go_simp
    refine (mul_F (Gf48.out.1.past Bv12_5.out) Gv12_3_4.out (by decide) (by decide) c1a c7).mono ?_
    rintro e v12_w6 ⟨s8, A8, n8, c8, rfl, hc, hg, hf, hb⟩
    try dsimp only
    have X6 := Lib.hid hb
    have Gv12_4_6 := Lib.hid hg
    have HCv12_4 := Lib.hid hc
    have FRv12_4 : Hid (Fresh w47 A8 n8) := fun hp ad e => Nat.le_trans Bv12_5.out.size (hf hp ad e)
    have Bv12_7 := Lib.hid (Bv12_5.out.trans (X6.out.mono Bv12_5.out.size))
    have Gv12_3_7 := Lib.hid (Gv12_3_4.out.past X6.out)
    refine hK.out _ _ ?_ (fun hHeld => ?_)
    · exact Bv12_7.out
    clear Bv12_5 Gv12_3_4 X6 hc hg hf hb
    clear hK K
    (try simp only [Act.put, uA, uB, uC])
    refine take_at (i := 5) (v := ?v12_v8) rfl (by kernel_rfl) (by kernel_rfl) (by kernel_rfl) (fun _ _ _ h => h) (Or.inl ⟨by rfl, ?v12_y8⟩) (by assumption) ?v12_r8
    case v12_y8 => (intro w hSw; (try dsimp only at hSw); go_simp; (try with_reducible rfl))
    simp only [Act.put, List.setIfInBounds_toArray, List.set_cons_zero, List.set_cons_succ]
    refine take_at (i := 6) (v := ?v12_v9) rfl (by kernel_rfl) (by kernel_rfl) (by kernel_rfl) (fun _ _ _ h => h) (Or.inl ⟨by rfl, ?v12_y9⟩) (by assumption) ?v12_r9
    case v12_y9 => (intro w hSw; (try dsimp only at hSw); go_simp; (try with_reducible rfl))
    simp only [Act.put, List.setIfInBounds_toArray, List.set_cons_zero, List.set_cons_succ]
    refine take_at (i := 7) (v := ?v12_v10) rfl (by kernel_rfl) (by kernel_rfl) (by kernel_rfl) (fun _ _ _ h => h) (Or.inl ⟨by rfl, ?v12_y10⟩) (by assumption) ?v12_r10
    case v12_y10 => (intro w hSw; (try dsimp only at hSw); go_simp; (try with_reducible rfl))
    simp only [Act.put, List.setIfInBounds_toArray, List.set_cons_zero, List.set_cons_succ]
    refine wpAnyH_ready (rs := [8]) (by kernel_rfl) (by simp) ?_
    refine cons_at (i := 8) rfl (fun K hK => ?_) AllReadyH.nil
    go_simp
    obtain ⟨v12_w11, hw⟩ : ∃ W', W' = v12_w6.alloc (.cells #[.int .i64 0, .slice none 0 0] 24) := ⟨_, rfl⟩
    obtain ⟨v12_b8_11, hb⟩ : ∃ b, b = v12_w6.heap.size := ⟨_, rfl⟩
    have X11 := Lib.hid (bal (Below.refl v12_w6.heap.size v12_w6) (o := .cells #[.int .i64 0, .slice none 0 0] 24))
    have Kv12_v12_b8_110 := Lib.hid (Blk.new v12_w6 24 #[.int .i64 0, .slice none 0 0])
    rw [← hw] at X11 Kv12_v12_b8_110
    rw [← hb] at Kv12_v12_b8_110
    rw [← hw, ← hb]
    have lov12_b8_11 : w47.heap.size ≤ v12_b8_11 := by rw [hb]; exact Bv12_7.out.size
    have ap3v12_b8_11 := Lib.hid (show 0 < n7 → ∀ ad, A7 = some ad → ad.block ≠ v12_b8_11 from fun hp ad e => by rw [hb]; exact Nat.ne_of_lt (Gv12_3_7.out.lt hp e))
    have ap4v12_b8_11 := Lib.hid (show 0 < n8 → ∀ ad, A8 = some ad → ad.block ≠ v12_b8_11 from fun hp ad e => by rw [hb]; exact Nat.ne_of_lt (Gv12_4_6.out.lt hp e))
    have Bv12_12 := Lib.hid (Bv12_7.out.trans (X11.out.mono Bv12_7.out.size))
    have Gv12_3_12 := Lib.hid (Gv12_3_7.out.past X11.out)
    have Gv12_4_12 := Lib.hid (Gv12_4_6.out.past X11.out)
    refine hK.out _ _ ?_ (fun hHeld => ?_)
    · exact Bv12_12.out
    clear Bv12_7 Gv12_3_7 Gv12_4_6 X11 hw hb
    clear hK K
    (try simp only [Act.put, uA, uB, uC])
    refine wpAnyH_ready (rs := [9]) (by kernel_rfl) (by simp) ?_
    refine cons_at (i := 9) rfl (fun K hK => ?_) AllReadyH.nil
    obtain ⟨f0, f1, f2, f3⟩ := sm_cells Kv12_v12_b8_110.out
    go_simp
    clear f0 f1 f2 f3
    obtain ⟨v12_w13, hw⟩ : ∃ W', W' = (v12_w11.setCell ⟨v12_b8_11, 0, none⟩ (.int .i64 s8)).setCell ⟨v12_b8_11, 1, none⟩ (.slice A8 n8 c8) := ⟨_, rfl⟩
    rw [← hw]
    have Bv12_13 := Lib.hid (below_2 Bv12_12.out lov12_b8_11 (u := .int .i64 s8) (v := .slice A8 n8 c8))
    rw [← hw] at Bv12_13
    have Kv12_v12_b8_11_13 := Lib.hid (Kv12_v12_b8_110.out.set2 (a := .int .i64 s8) (b := .slice A8 n8 c8))
    rw [← hw] at Kv12_v12_b8_11_13
    have Gv12_3_13 := Lib.hid (Gv12_3_12.out.far2 ap3v12_b8_11.out (a := .int .i64 s8) (b := .slice A8 n8 c8))
    rw [← hw] at Gv12_3_13
    have Gv12_4_13 := Lib.hid (Gv12_4_12.out.far2 ap4v12_b8_11.out (a := .int .i64 s8) (b := .slice A8 n8 c8))
    rw [← hw] at Gv12_4_13
    refine hK.out _ _ ?_ (fun hHeld => ?_)
    · exact Bv12_13.out
    clear Bv12_12 Kv12_v12_b8_110 Gv12_3_12 Gv12_4_12 hw
    clear hK K
    (try simp only [Act.put, uA, uB, uC])
    refine take_at (i := 10) (v := ?v12_v14) rfl (by kernel_rfl) (by kernel_rfl) (by kernel_rfl) (fun _ _ _ h => h) (Or.inl ⟨by rfl, ?v12_y14⟩) (by assumption) ?v12_r14
    case v12_y14 => (intro w hSw; (try dsimp only at hSw); go_simp; (try with_reducible rfl))
    simp only [Act.put, List.setIfInBounds_toArray, List.set_cons_zero, List.set_cons_succ]
    refine wpAnyH_done (by kernel_rfl) ?_ _
    go_wp2_with fail
    go_meet
    exact ⟨rfl, v12_b8_11, rfl, (show OneB _ _ _ _ _ from ⟨_, _, _, _, ⟨Kv12_v12_b8_11_13.out, lov12_b8_11, Gv12_4_13.out, HCv12_4.out, FRv12_4.out⟩, Bv12_13.out⟩)⟩
    refine cons_at (i := 8) rfl (fun K hK => ?_) AllReadyH.nil
    go_simp
    obtain ⟨v12_w15, hw⟩ : ∃ W', W' = v12_w4.alloc (.cells #[.int .i64 0, .slice none 0 0] 24) := ⟨_, rfl⟩
    obtain ⟨v12_b8_15, hb⟩ : ∃ b, b = v12_w4.heap.size := ⟨_, rfl⟩
    have X15 := Lib.hid (bal (Below.refl v12_w4.heap.size v12_w4) (o := .cells #[.int .i64 0, .slice none 0 0] 24))
    have Kv12_v12_b8_150 := Lib.hid (Blk.new v12_w4 24 #[.int .i64 0, .slice none 0 0])
    rw [← hw] at X15 Kv12_v12_b8_150
    rw [← hb] at Kv12_v12_b8_150
    rw [← hw, ← hb]
    have lov12_b8_15 : w47.heap.size ≤ v12_b8_15 := by rw [hb]; exact Bv12_5.out.size
    have ap3v12_b8_15 := Lib.hid (show 0 < n7 → ∀ ad, A7 = some ad → ad.block ≠ v12_b8_15 from fun hp ad e => by rw [hb]; exact Nat.ne_of_lt (Gv12_3_4.out.lt hp e))
    have Bv12_16 := Lib.hid (Bv12_5.out.trans (X15.out.mono Bv12_5.out.size))
    have Gv12_3_16 := Lib.hid (Gv12_3_4.out.past X15.out)
    refine hK.out _ _ ?_ (fun hHeld => ?_)
    · exact Bv12_16.out
    clear Bv12_5 Gv12_3_4 X15 hw hb
    clear hK K
    (try simp only [Act.put, uA, uB, uC])
    refine wpAnyH_ready (rs := [4]) (by kernel_rfl) (by simp) ?_
    refine cons_at (i := 4) rfl (fun K hK => ?_) AllReadyH.nil
    go_simp
    refine (mul_F (Gf48.out.1.past Bv12_16.out) Gv12_3_16.out (by decide) (by decide) c1a c7).mono ?_
    rintro e v12_w17 ⟨s8, A8, n8, c8, rfl, hc, hg, hf, hb⟩
    try dsimp only
    have X17 := Lib.hid hb
    have Gv12_4_17 := Lib.hid hg
    have HCv12_4 := Lib.hid hc
    have FRv12_4 : Hid (Fresh w47 A8 n8) := fun hp ad e => Nat.le_trans Bv12_16.out.size (hf hp ad e)
    have ap4v12_b8_15 := Lib.hid (show 0 < n8 → ∀ ad, A8 = some ad → ad.block ≠ v12_b8_15 from fun hp ad e => by have := hf hp ad e; have := Kv12_v12_b8_150.out.lt; omega)
    have Bv12_18 := Lib.hid (Bv12_16.out.trans (X17.out.mono Bv12_16.out.size))
    have Kv12_v12_b8_1518 := Lib.hid (Kv12_v12_b8_150.out.below X17.out Kv12_v12_b8_150.out.lt)
    have Gv12_3_18 := Lib.hid (Gv12_3_16.out.past X17.out)
    refine hK.out _ _ ?_ (fun hHeld => ?_)
    · exact Bv12_18.out
    clear Bv12_16 Kv12_v12_b8_150 Gv12_3_16 X17 hc hg hf hb
    clear hK K
    (try simp only [Act.put, uA, uB, uC])
    refine take_at (i := 5) (v := ?v12_v19) rfl (by kernel_rfl) (by kernel_rfl) (by kernel_rfl) (fun _ _ _ h => h) (Or.inl ⟨by rfl, ?v12_y19⟩) (by assumption) ?v12_r19
    case v12_y19 => (intro w hSw; (try dsimp only at hSw); go_simp; (try with_reducible rfl))
    simp only [Act.put, List.setIfInBounds_toArray, List.set_cons_zero, List.set_cons_succ]
    refine take_at (i := 6) (v := ?v12_v20) rfl (by kernel_rfl) (by kernel_rfl) (by kernel_rfl) (fun _ _ _ h => h) (Or.inl ⟨by rfl, ?v12_y20⟩) (by assumption) ?v12_r20
    case v12_y20 => (intro w hSw; (try dsimp only at hSw); go_simp; (try with_reducible rfl))
    simp only [Act.put, List.setIfInBounds_toArray, List.set_cons_zero, List.set_cons_succ]
    refine take_at (i := 7) (v := ?v12_v21) rfl (by kernel_rfl) (by kernel_rfl) (by kernel_rfl) (fun _ _ _ h => h) (Or.inl ⟨by rfl, ?v12_y21⟩) (by assumption) ?v12_r21
    case v12_y21 => (intro w hSw; (try dsimp only at hSw); go_simp; (try with_reducible rfl))
    simp only [Act.put, List.setIfInBounds_toArray, List.set_cons_zero, List.set_cons_succ]
    refine wpAnyH_ready (rs := [9]) (by kernel_rfl) (by simp) ?_
    refine cons_at (i := 9) rfl (fun K hK => ?_) AllReadyH.nil
    obtain ⟨f0, f1, f2, f3⟩ := sm_cells Kv12_v12_b8_1518.out
    go_simp
    clear f0 f1 f2 f3
    obtain ⟨v12_w22, hw⟩ : ∃ W', W' = (v12_w17.setCell ⟨v12_b8_15, 0, none⟩ (.int .i64 s8)).setCell ⟨v12_b8_15, 1, none⟩ (.slice A8 n8 c8) := ⟨_, rfl⟩
    rw [← hw]
    have Bv12_22 := Lib.hid (below_2 Bv12_18.out lov12_b8_15 (u := .int .i64 s8) (v := .slice A8 n8 c8))
    rw [← hw] at Bv12_22
    have Kv12_v12_b8_15_22 := Lib.hid (Kv12_v12_b8_1518.out.set2 (a := .int .i64 s8) (b := .slice A8 n8 c8))
    rw [← hw] at Kv12_v12_b8_15_22
    have Gv12_3_22 := Lib.hid (Gv12_3_18.out.far2 ap3v12_b8_15.out (a := .int .i64 s8) (b := .slice A8 n8 c8))
    rw [← hw] at Gv12_3_22
    have Gv12_4_22 := Lib.hid (Gv12_4_17.out.far2 ap4v12_b8_15.out (a := .int .i64 s8) (b := .slice A8 n8 c8))
    rw [← hw] at Gv12_4_22
    refine hK.out _ _ ?_ (fun hHeld => ?_)
    · exact Bv12_22.out
    clear Bv12_18 Kv12_v12_b8_1518 Gv12_3_18 Gv12_4_17 hw
    clear hK K
    (try simp only [Act.put, uA, uB, uC])
    refine take_at (i := 10) (v := ?v12_v23) rfl (by kernel_rfl) (by kernel_rfl) (by kernel_rfl) (fun _ _ _ h => h) (Or.inl ⟨by rfl, ?v12_y23⟩) (by assumption) ?v12_r23
    case v12_y23 => (intro w hSw; (try dsimp only at hSw); go_simp; (try with_reducible rfl))
    simp only [Act.put, List.setIfInBounds_toArray, List.set_cons_zero, List.set_cons_succ]
    refine wpAnyH_done (by kernel_rfl) ?_ _
    go_wp2_with fail
    go_meet
    exact ⟨rfl, v12_b8_15, rfl, (show OneB _ _ _ _ _ from ⟨_, _, _, _, ⟨Kv12_v12_b8_15_22.out, lov12_b8_15, Gv12_4_22.out, HCv12_4.out, FRv12_4.out⟩, Bv12_22.out⟩)⟩
    refine cons_at (i := 8) rfl (fun K hK => ?_) AllReadyH.nil
    go_simp
    obtain ⟨v12_w24, hw⟩ : ∃ W', W' = v12_w0.alloc (.cells #[.int .i64 0, .slice none 0 0] 24) := ⟨_, rfl⟩
    obtain ⟨v12_b8_24, hb⟩ : ∃ b, b = v12_w0.heap.size := ⟨_, rfl⟩
    have X24 := Lib.hid (bal (Below.refl v12_w0.heap.size v12_w0) (o := .cells #[.int .i64 0, .slice none 0 0] 24))
    have Kv12_v12_b8_240 := Lib.hid (Blk.new v12_w0 24 #[.int .i64 0, .slice none 0 0])
    rw [← hw] at X24 Kv12_v12_b8_240
    rw [← hb] at Kv12_v12_b8_240
    rw [← hw, ← hb]
    have lov12_b8_24 : w47.heap.size ≤ v12_b8_24 := by rw [hb]; exact Bv12_0.out.size
    have Bv12_25 := Lib.hid (Bv12_0.out.trans (X24.out.mono Bv12_0.out.size))
    refine hK.out _ _ ?_ (fun hHeld => ?_)
    · exact Bv12_25.out
    clear Bv12_0 X24 hw hb
    clear hK K
    (try simp only [Act.put, uA, uB, uC])
    refine wpAnyH_ready (rs := [3]) (by kernel_rfl) (by simp) ?_
    refine cons_at (i := 3) rfl (fun K hK => ?_) AllReadyH.nil
    go_simp
    refine (of_F z v12_w24 HZ.out.1 HZ.out.2).mono ?_
    rintro e v12_w26 ⟨s7, A7, n7, c7, rfl, hc, hg, hf, hb⟩
    try dsimp only
    have X26 := Lib.hid hb
    have Gv12_3_26 := Lib.hid hg
    have HCv12_3 := Lib.hid hc
    have FRv12_3 : Hid (Fresh w47 A7 n7) := fun hp ad e => Nat.le_trans Bv12_25.out.size (hf hp ad e)
    have ap3v12_b8_24 := Lib.hid (show 0 < n7 → ∀ ad, A7 = some ad → ad.block ≠ v12_b8_24 from fun hp ad e => by have := hf hp ad e; have := Kv12_v12_b8_240.out.lt; omega)
    have Bv12_27 := Lib.hid (Bv12_25.out.trans (X26.out.mono Bv12_25.out.size))
    have Kv12_v12_b8_2427 := Lib.hid (Kv12_v12_b8_240.out.below X26.out Kv12_v12_b8_240.out.lt)
    refine hK.out _ _ ?_ (fun hHeld => ?_)
    · exact Bv12_27.out
    clear Bv12_25 Kv12_v12_b8_240 X26 hc hg hf hb
    clear hK K
    (try simp only [Act.put, uA, uB, uC])
    refine wpAnyH_ready (rs := [4]) (by kernel_rfl) (by simp) ?_
    refine cons_at (i := 4) rfl (fun K hK => ?_) AllReadyH.nil
    go_simp
    refine (mul_F (Gf48.out.1.past Bv12_27.out) Gv12_3_26.out (by decide) (by decide) c1a c7).mono ?_
    rintro e v12_w28 ⟨s8, A8, n8, c8, rfl, hc, hg, hf, hb⟩
    try dsimp only
    have X28 := Lib.hid hb
    have Gv12_4_28 := Lib.hid hg
    have HCv12_4 := Lib.hid hc
    have FRv12_4 : Hid (Fresh w47 A8 n8) := fun hp ad e => Nat.le_trans Bv12_27.out.size (hf hp ad e)
    have ap4v12_b8_24 := Lib.hid (show 0 < n8 → ∀ ad, A8 = some ad → ad.block ≠ v12_b8_24 from fun hp ad e => by have := hf hp ad e; have := Kv12_v12_b8_2427.out.lt; omega)
    have Bv12_29 := Lib.hid (Bv12_27.out.trans (X28.out.mono Bv12_27.out.size))
    have Kv12_v12_b8_2429 := Lib.hid (Kv12_v12_b8_2427.out.below X28.out Kv12_v12_b8_2427.out.lt)
    have Gv12_3_29 := Lib.hid (Gv12_3_26.out.past X28.out)
    refine hK.out _ _ ?_ (fun hHeld => ?_)
    · exact Bv12_29.out
    clear Bv12_27 Kv12_v12_b8_2427 Gv12_3_26 X28 hc hg hf hb
    clear hK K
    (try simp only [Act.put, uA, uB, uC])
    refine take_at (i := 5) (v := ?v12_v30) rfl (by kernel_rfl) (by kernel_rfl) (by kernel_rfl) (fun _ _ _ h => h) (Or.inl ⟨by rfl, ?v12_y30⟩) (by assumption) ?v12_r30
    case v12_y30 => (intro w hSw; (try dsimp only at hSw); go_simp; (try with_reducible rfl))
    simp only [Act.put, List.setIfInBounds_toArray, List.set_cons_zero, List.set_cons_succ]
    refine take_at (i := 6) (v := ?v12_v31) rfl (by kernel_rfl) (by kernel_rfl) (by kernel_rfl) (fun _ _ _ h => h) (Or.inl ⟨by rfl, ?v12_y31⟩) (by assumption) ?v12_r31
    case v12_y31 => (intro w hSw; (try dsimp only at hSw); go_simp; (try with_reducible rfl))
    simp only [Act.put, List.setIfInBounds_toArray, List.set_cons_zero, List.set_cons_succ]
    refine take_at (i := 7) (v := ?v12_v32) rfl (by kernel_rfl) (by kernel_rfl) (by kernel_rfl) (fun _ _ _ h => h) (Or.inl ⟨by rfl, ?v12_y32⟩) (by assumption) ?v12_r32
    case v12_y32 => (intro w hSw; (try dsimp only at hSw); go_simp; (try with_reducible rfl))
    simp only [Act.put, List.setIfInBounds_toArray, List.set_cons_zero, List.set_cons_succ]
    refine wpAnyH_ready (rs := [9]) (by kernel_rfl) (by simp) ?_
    refine cons_at (i := 9) rfl (fun K hK => ?_) AllReadyH.nil
    obtain ⟨f0, f1, f2, f3⟩ := sm_cells Kv12_v12_b8_2429.out
    go_simp
    clear f0 f1 f2 f3
    obtain ⟨v12_w33, hw⟩ : ∃ W', W' = (v12_w28.setCell ⟨v12_b8_24, 0, none⟩ (.int .i64 s8)).setCell ⟨v12_b8_24, 1, none⟩ (.slice A8 n8 c8) := ⟨_, rfl⟩
    rw [← hw]
    have Bv12_33 := Lib.hid (below_2 Bv12_29.out lov12_b8_24 (u := .int .i64 s8) (v := .slice A8 n8 c8))
    rw [← hw] at Bv12_33
    have Kv12_v12_b8_24_33 := Lib.hid (Kv12_v12_b8_2429.out.set2 (a := .int .i64 s8) (b := .slice A8 n8 c8))
    rw [← hw] at Kv12_v12_b8_24_33
    have Gv12_3_33 := Lib.hid (Gv12_3_29.out.far2 ap3v12_b8_24.out (a := .int .i64 s8) (b := .slice A8 n8 c8))
    rw [← hw] at Gv12_3_33
    have Gv12_4_33 := Lib.hid (Gv12_4_28.out.far2 ap4v12_b8_24.out (a := .int .i64 s8) (b := .slice A8 n8 c8))
    rw [← hw] at Gv12_4_33
    refine hK.out _ _ ?_ (fun hHeld => ?_)
    · exact Bv12_33.out
    clear Bv12_29 Kv12_v12_b8_2429 Gv12_3_29 Gv12_4_28 hw
    clear hK K
    (try simp only [Act.put, uA, uB, uC])
    refine take_at (i := 10) (v := ?v12_v34) rfl (by kernel_rfl) (by kernel_rfl) (by kernel_rfl) (fun _ _ _ h => h) (Or.inl ⟨by rfl, ?v12_y34⟩) (by assumption) ?v12_r34
    case v12_y34 => (intro w hSw; (try dsimp only at hSw); go_simp; (try with_reducible rfl))
    simp only [Act.put, List.setIfInBounds_toArray, List.set_cons_zero, List.set_cons_succ]
    refine wpAnyH_done (by kernel_rfl) ?_ _
    go_wp2_with fail
    go_meet
    exact ⟨rfl, v12_b8_24, rfl, (show OneB _ _ _ _ _ from ⟨_, _, _, _, ⟨Kv12_v12_b8_24_33.out, lov12_b8_24, Gv12_4_33.out, HCv12_4.out, FRv12_4.out⟩, Bv12_33.out⟩)⟩
   case rest => as_aux_lemma =>
    obtain ⟨rfl, bp, rfl, HX⟩ := hcut
    obtain ⟨w49, rfl⟩ : ∃ W : World, W = wc := ⟨_, rfl⟩
    obtain ⟨sp, Ap, np, cp, ⟨hk, hlo, hg, f1, f2⟩, hb⟩ := HX.out
    have X := Lib.hid hb
    have Kp := Lib.hid hk
    have Gp := Lib.hid hg
    (try dsimp only [frC] at Kp)
    clear HX hk hlo hg f1 f2 hb
    clear zf0 zf1 zf2 zf3
    have B50 := Lib.hid (B48.out.trans (X.out.mono B48.out.size))
    have Kf50 := Lib.hid (Kf48.out.below X.out Kf48.out.lt)
    have Kx50 := Lib.hid (Kx48.out.below X.out Kx48.out.lt)
    have Kyy50 := Lib.hid (Kyy.out.below X.out Kyy.out.lt)
    have Gf50 := Lib.hid (Gf48.out.past X.out)
    have Gx50 := Lib.hid (Gx48.out.past X.out)
    have Gyy50 := Lib.hid (Gyy48.out.past X.out)
    clear X B48 Kf48 Kx48 Kyy Gf48 Gx48 Gyy48
    go_upto_region 13 with (fail)
    obtain ⟨zf0, zf1, zf2, zf3, -, -, -, -⟩ := fr_cells Kf50.out
    go_cut [17, 18] (fun p1 p2 wc => p2 = .int .i64 0 ∧ ∃ b, p1 = .pointer (some ⟨b, 0, none⟩) ∧ Hid (OneB w49 wc b (40 + 4) ((xa.den : Int) * z)))
    case first => as_aux_lemma =>
     have HC := Lib.hid (fun (w' : World) (h : Below w49.heap.size w49 w') => (⟨(h.cell (p := ⟨w.heap.size, 0, none⟩) (World.block_lt_of_cell? _ _ zf0)).trans zf0, (h.cell (p := ⟨w.heap.size, 1, none⟩) (World.block_lt_of_cell? _ _ zf1)).trans zf1, (h.cell (p := ⟨w.heap.size, 2, none⟩) (World.block_lt_of_cell? _ _ zf2)).trans zf2, (h.cell (p := ⟨w.heap.size, 3, none⟩) (World.block_lt_of_cell? _ _ zf3)).trans zf3⟩ : w'.cell? ⟨w.heap.size, 0, none⟩ = some (.int .i64 s1a) ∧ w'.cell? ⟨w.heap.size, 1, none⟩ = some (.slice A1a n1a c1a) ∧ w'.cell? ⟨w.heap.size, 2, none⟩ = some (.int .i64 s2a) ∧ w'.cell? ⟨w.heap.size, 3, none⟩ = some (.slice A2a n2a c2a)))
     clear zf0 zf1 zf2 zf3
     have Bv13_0 := Lib.hid (Below.refl w49.heap.size w49).drew
     refine wp_region_held_drew (S := fun w' => Below w49.heap.size w49 w') (by kernel_rfl) Bv13_0.out (fun hHeld => ?_)
     obtain ⟨v13_w0, hw⟩ : ∃ W, W = w49.drew := ⟨_, rfl⟩
     rw [← hw] at hHeld Bv13_0 ⊢
     clear hw
     refine take_at (i := 0) (v := ?v13_v1) rfl (by kernel_rfl) (by kernel_rfl) (by kernel_rfl) (fun _ _ _ h => h) (Or.inl ⟨by rfl, ?v13_y1⟩) (by assumption) ?v13_r1
     case v13_y1 => (intro w hSw; (try dsimp only at hSw); go_simp; (try with_reducible rfl))
     simp only [Act.put, List.setIfInBounds_toArray, List.set_cons_zero, List.set_cons_succ]
     refine take_at (i := 1) (v := ?v13_v2) rfl (by kernel_rfl) (by kernel_rfl) (by kernel_rfl) (fun _ _ _ h => h) (Or.inl ⟨by rfl, ?v13_y2⟩) (by assumption) ?v13_r2
     case v13_y2 => (intro w hSw; (try dsimp only at hSw); obtain ⟨cc0, cc1, cc2, cc3⟩ := HC.out _ hSw; go_simp; (try with_reducible rfl))
     simp only [Act.put, List.setIfInBounds_toArray, List.set_cons_zero, List.set_cons_succ]
     refine take_at (i := 2) (v := ?v13_v3) rfl (by kernel_rfl) (by kernel_rfl) (by kernel_rfl) (fun _ _ _ h => h) (Or.inl ⟨by rfl, ?v13_y3⟩) (by assumption) ?v13_r3
     case v13_y3 => (intro w hSw; (try dsimp only at hSw); go_simp; (try with_reducible rfl))
     simp only [Act.put, List.setIfInBounds_toArray, List.set_cons_zero, List.set_cons_succ]
     refine wpAnyH_ready (rs := [3, 8]) (by kernel_rfl) (by simp) ?_
     refine cons_at (i := 3) rfl (fun K hK => ?_) ?_
     go_simp
     refine (of_F z v13_w0 HZ.out.1 HZ.out.2).mono ?_
     rintro e v13_w4 ⟨s7, A7, n7, c7, rfl, hc, hg, hf, hb⟩
     try dsimp only
     have X4 := Lib.hid hb
     have Gv13_3_4 := Lib.hid hg
     have HCv13_3 := Lib.hid hc
     have FRv13_3 : Hid (Fresh w49 A7 n7) := fun hp ad e => Nat.le_trans Bv13_0.out.size (hf hp ad e)
     have Bv13_5 := Lib.hid (Bv13_0.out.trans (X4.out.mono Bv13_0.out.size))
     refine hK.out _ _ ?_ (fun hHeld => ?_)
     · exact Bv13_5.out
     clear Bv13_0 X4 hc hg hf hb
     clear hK K
     (try simp only [Act.put, uA, uB, uC])
     refine wpAnyH_ready (rs := [4, 8]) (by kernel_rfl) (by simp) ?_
     refine cons_at (i := 4) rfl (fun K hK => ?_) ?_
     go_simp
     refine (mul_F (Gf50.out.2.past Bv13_5.out) Gv13_3_4.out (by decide) (by decide) c2a c7).mono ?_
     rintro e v13_w6 ⟨s8, A8, n8, c8, rfl, hc, hg, hf, hb⟩
     try dsimp only
     have X6 := Lib.hid hb
     have Gv13_4_6 := Lib.hid hg
     have HCv13_4 := Lib.hid hc
     have FRv13_4 : Hid (Fresh w49 A8 n8) := fun hp ad e => Nat.le_trans Bv13_5.out.size (hf hp ad e)
     have Bv13_7 := Lib.hid (Bv13_5.out.trans (X6.out.mono Bv13_5.out.size))
     have Gv13_3_7 := Lib.hid (Gv13_3_4.out.past X6.out)
     refine hK.out _ _ ?_ (fun hHeld => ?_)
     · exact Bv13_7.out
     clear Bv13_5 Gv13_3_4 X6 hc hg hf hb
     clear hK K
     (try simp only [Act.put, uA, uB, uC])
     refine take_at (i := 5) (v := ?v13_v8) rfl (by kernel_rfl) (by kernel_rfl) (by kernel_rfl) (fun _ _ _ h => h) (Or.inl ⟨by rfl, ?v13_y8⟩) (by assumption) ?v13_r8
     case v13_y8 => (intro w hSw; (try dsimp only at hSw); go_simp; (try with_reducible rfl))
     simp only [Act.put, List.setIfInBounds_toArray, List.set_cons_zero, List.set_cons_succ]
     refine take_at (i := 6) (v := ?v13_v9) rfl (by kernel_rfl) (by kernel_rfl) (by kernel_rfl) (fun _ _ _ h => h) (Or.inl ⟨by rfl, ?v13_y9⟩) (by assumption) ?v13_r9
     case v13_y9 => (intro w hSw; (try dsimp only at hSw); go_simp; (try with_reducible rfl))
     simp only [Act.put, List.setIfInBounds_toArray, List.set_cons_zero, List.set_cons_succ]
     refine take_at (i := 7) (v := ?v13_v10) rfl (by kernel_rfl) (by kernel_rfl) (by kernel_rfl) (fun _ _ _ h => h) (Or.inl ⟨by rfl, ?v13_y10⟩) (by assumption) ?v13_r10
     case v13_y10 => (intro w hSw; (try dsimp only at hSw); go_simp; (try with_reducible rfl))
     simp only [Act.put, List.setIfInBounds_toArray, List.set_cons_zero, List.set_cons_succ]
     refine wpAnyH_ready (rs := [8]) (by kernel_rfl) (by simp) ?_
     refine cons_at (i := 8) rfl (fun K hK => ?_) AllReadyH.nil
     go_simp
     obtain ⟨v13_w11, hw⟩ : ∃ W', W' = v13_w6.alloc (.cells #[.int .i64 0, .slice none 0 0] 24) := ⟨_, rfl⟩
     obtain ⟨v13_b8_11, hb⟩ : ∃ b, b = v13_w6.heap.size := ⟨_, rfl⟩
     have X11 := Lib.hid (bal (Below.refl v13_w6.heap.size v13_w6) (o := .cells #[.int .i64 0, .slice none 0 0] 24))
     have Kv13_v13_b8_110 := Lib.hid (Blk.new v13_w6 24 #[.int .i64 0, .slice none 0 0])
     rw [← hw] at X11 Kv13_v13_b8_110
     rw [← hb] at Kv13_v13_b8_110
     rw [← hw, ← hb]
     have lov13_b8_11 : w49.heap.size ≤ v13_b8_11 := by rw [hb]; exact Bv13_7.out.size
     have ap3v13_b8_11 := Lib.hid (show 0 < n7 → ∀ ad, A7 = some ad → ad.block ≠ v13_b8_11 from fun hp ad e => by rw [hb]; exact Nat.ne_of_lt (Gv13_3_7.out.lt hp e))
     have ap4v13_b8_11 := Lib.hid (show 0 < n8 → ∀ ad, A8 = some ad → ad.block ≠ v13_b8_11 from fun hp ad e => by rw [hb]; exact Nat.ne_of_lt (Gv13_4_6.out.lt hp e))
     have Bv13_12 := Lib.hid (Bv13_7.out.trans (X11.out.mono Bv13_7.out.size))
     have Gv13_3_12 := Lib.hid (Gv13_3_7.out.past X11.out)
     have Gv13_4_12 := Lib.hid (Gv13_4_6.out.past X11.out)
     refine hK.out _ _ ?_ (fun hHeld => ?_)
     · exact Bv13_12.out
     clear Bv13_7 Gv13_3_7 Gv13_4_6 X11 hw hb
     clear hK K
     (try simp only [Act.put, uA, uB, uC])
     refine wpAnyH_ready (rs := [9]) (by kernel_rfl) (by simp) ?_
     refine cons_at (i := 9) rfl (fun K hK => ?_) AllReadyH.nil
     obtain ⟨f0, f1, f2, f3⟩ := sm_cells Kv13_v13_b8_110.out
     go_simp
     clear f0 f1 f2 f3
     obtain ⟨v13_w13, hw⟩ : ∃ W', W' = (v13_w11.setCell ⟨v13_b8_11, 0, none⟩ (.int .i64 s8)).setCell ⟨v13_b8_11, 1, none⟩ (.slice A8 n8 c8) := ⟨_, rfl⟩
     rw [← hw]
     have Bv13_13 := Lib.hid (below_2 Bv13_12.out lov13_b8_11 (u := .int .i64 s8) (v := .slice A8 n8 c8))
     rw [← hw] at Bv13_13
     have Kv13_v13_b8_11_13 := Lib.hid (Kv13_v13_b8_110.out.set2 (a := .int .i64 s8) (b := .slice A8 n8 c8))
     rw [← hw] at Kv13_v13_b8_11_13
     have Gv13_3_13 := Lib.hid (Gv13_3_12.out.far2 ap3v13_b8_11.out (a := .int .i64 s8) (b := .slice A8 n8 c8))
     rw [← hw] at Gv13_3_13
     have Gv13_4_13 := Lib.hid (Gv13_4_12.out.far2 ap4v13_b8_11.out (a := .int .i64 s8) (b := .slice A8 n8 c8))
     rw [← hw] at Gv13_4_13
     refine hK.out _ _ ?_ (fun hHeld => ?_)
     · exact Bv13_13.out
     clear Bv13_12 Kv13_v13_b8_110 Gv13_3_12 Gv13_4_12 hw
     clear hK K
     (try simp only [Act.put, uA, uB, uC])
     refine take_at (i := 10) (v := ?v13_v14) rfl (by kernel_rfl) (by kernel_rfl) (by kernel_rfl) (fun _ _ _ h => h) (Or.inl ⟨by rfl, ?v13_y14⟩) (by assumption) ?v13_r14
     case v13_y14 => (intro w hSw; (try dsimp only at hSw); go_simp; (try with_reducible rfl))
     simp only [Act.put, List.setIfInBounds_toArray, List.set_cons_zero, List.set_cons_succ]
     refine wpAnyH_done (by kernel_rfl) ?_ _
     go_wp2_with fail
     go_meet
     exact ⟨rfl, v13_b8_11, rfl, (show OneB _ _ _ _ _ from ⟨_, _, _, _, ⟨Kv13_v13_b8_11_13.out, lov13_b8_11, Gv13_4_13.out, HCv13_4.out, FRv13_4.out⟩, Bv13_13.out⟩)⟩
     refine cons_at (i := 8) rfl (fun K hK => ?_) AllReadyH.nil
     go_simp
     obtain ⟨v13_w15, hw⟩ : ∃ W', W' = v13_w4.alloc (.cells #[.int .i64 0, .slice none 0 0] 24) := ⟨_, rfl⟩
     obtain ⟨v13_b8_15, hb⟩ : ∃ b, b = v13_w4.heap.size := ⟨_, rfl⟩
     have X15 := Lib.hid (bal (Below.refl v13_w4.heap.size v13_w4) (o := .cells #[.int .i64 0, .slice none 0 0] 24))
     have Kv13_v13_b8_150 := Lib.hid (Blk.new v13_w4 24 #[.int .i64 0, .slice none 0 0])
     rw [← hw] at X15 Kv13_v13_b8_150
     rw [← hb] at Kv13_v13_b8_150
     rw [← hw, ← hb]
     have lov13_b8_15 : w49.heap.size ≤ v13_b8_15 := by rw [hb]; exact Bv13_5.out.size
     have ap3v13_b8_15 := Lib.hid (show 0 < n7 → ∀ ad, A7 = some ad → ad.block ≠ v13_b8_15 from fun hp ad e => by rw [hb]; exact Nat.ne_of_lt (Gv13_3_4.out.lt hp e))
     have Bv13_16 := Lib.hid (Bv13_5.out.trans (X15.out.mono Bv13_5.out.size))
     have Gv13_3_16 := Lib.hid (Gv13_3_4.out.past X15.out)
     refine hK.out _ _ ?_ (fun hHeld => ?_)
     · exact Bv13_16.out
     clear Bv13_5 Gv13_3_4 X15 hw hb
     clear hK K
     (try simp only [Act.put, uA, uB, uC])
     refine wpAnyH_ready (rs := [4]) (by kernel_rfl) (by simp) ?_
     refine cons_at (i := 4) rfl (fun K hK => ?_) AllReadyH.nil
     go_simp
     refine (mul_F (Gf50.out.2.past Bv13_16.out) Gv13_3_16.out (by decide) (by decide) c2a c7).mono ?_
     rintro e v13_w17 ⟨s8, A8, n8, c8, rfl, hc, hg, hf, hb⟩
     try dsimp only
     have X17 := Lib.hid hb
     have Gv13_4_17 := Lib.hid hg
     have HCv13_4 := Lib.hid hc
     have FRv13_4 : Hid (Fresh w49 A8 n8) := fun hp ad e => Nat.le_trans Bv13_16.out.size (hf hp ad e)
     have ap4v13_b8_15 := Lib.hid (show 0 < n8 → ∀ ad, A8 = some ad → ad.block ≠ v13_b8_15 from fun hp ad e => by have := hf hp ad e; have := Kv13_v13_b8_150.out.lt; omega)
     have Bv13_18 := Lib.hid (Bv13_16.out.trans (X17.out.mono Bv13_16.out.size))
     have Kv13_v13_b8_1518 := Lib.hid (Kv13_v13_b8_150.out.below X17.out Kv13_v13_b8_150.out.lt)
     have Gv13_3_18 := Lib.hid (Gv13_3_16.out.past X17.out)
     refine hK.out _ _ ?_ (fun hHeld => ?_)
     · exact Bv13_18.out
     clear Bv13_16 Kv13_v13_b8_150 Gv13_3_16 X17 hc hg hf hb
     clear hK K
     (try simp only [Act.put, uA, uB, uC])
     refine take_at (i := 5) (v := ?v13_v19) rfl (by kernel_rfl) (by kernel_rfl) (by kernel_rfl) (fun _ _ _ h => h) (Or.inl ⟨by rfl, ?v13_y19⟩) (by assumption) ?v13_r19
     case v13_y19 => (intro w hSw; (try dsimp only at hSw); go_simp; (try with_reducible rfl))
     simp only [Act.put, List.setIfInBounds_toArray, List.set_cons_zero, List.set_cons_succ]
     refine take_at (i := 6) (v := ?v13_v20) rfl (by kernel_rfl) (by kernel_rfl) (by kernel_rfl) (fun _ _ _ h => h) (Or.inl ⟨by rfl, ?v13_y20⟩) (by assumption) ?v13_r20
     case v13_y20 => (intro w hSw; (try dsimp only at hSw); go_simp; (try with_reducible rfl))
     simp only [Act.put, List.setIfInBounds_toArray, List.set_cons_zero, List.set_cons_succ]
     refine take_at (i := 7) (v := ?v13_v21) rfl (by kernel_rfl) (by kernel_rfl) (by kernel_rfl) (fun _ _ _ h => h) (Or.inl ⟨by rfl, ?v13_y21⟩) (by assumption) ?v13_r21
     case v13_y21 => (intro w hSw; (try dsimp only at hSw); go_simp; (try with_reducible rfl))
     simp only [Act.put, List.setIfInBounds_toArray, List.set_cons_zero, List.set_cons_succ]
     refine wpAnyH_ready (rs := [9]) (by kernel_rfl) (by simp) ?_
     refine cons_at (i := 9) rfl (fun K hK => ?_) AllReadyH.nil
     obtain ⟨f0, f1, f2, f3⟩ := sm_cells Kv13_v13_b8_1518.out
     go_simp
     clear f0 f1 f2 f3
     obtain ⟨v13_w22, hw⟩ : ∃ W', W' = (v13_w17.setCell ⟨v13_b8_15, 0, none⟩ (.int .i64 s8)).setCell ⟨v13_b8_15, 1, none⟩ (.slice A8 n8 c8) := ⟨_, rfl⟩
     rw [← hw]
     have Bv13_22 := Lib.hid (below_2 Bv13_18.out lov13_b8_15 (u := .int .i64 s8) (v := .slice A8 n8 c8))
     rw [← hw] at Bv13_22
     have Kv13_v13_b8_15_22 := Lib.hid (Kv13_v13_b8_1518.out.set2 (a := .int .i64 s8) (b := .slice A8 n8 c8))
     rw [← hw] at Kv13_v13_b8_15_22
     have Gv13_3_22 := Lib.hid (Gv13_3_18.out.far2 ap3v13_b8_15.out (a := .int .i64 s8) (b := .slice A8 n8 c8))
     rw [← hw] at Gv13_3_22
     have Gv13_4_22 := Lib.hid (Gv13_4_17.out.far2 ap4v13_b8_15.out (a := .int .i64 s8) (b := .slice A8 n8 c8))
     rw [← hw] at Gv13_4_22
     refine hK.out _ _ ?_ (fun hHeld => ?_)
     · exact Bv13_22.out
     clear Bv13_18 Kv13_v13_b8_1518 Gv13_3_18 Gv13_4_17 hw
     clear hK K
     (try simp only [Act.put, uA, uB, uC])
     refine take_at (i := 10) (v := ?v13_v23) rfl (by kernel_rfl) (by kernel_rfl) (by kernel_rfl) (fun _ _ _ h => h) (Or.inl ⟨by rfl, ?v13_y23⟩) (by assumption) ?v13_r23
     case v13_y23 => (intro w hSw; (try dsimp only at hSw); go_simp; (try with_reducible rfl))
     simp only [Act.put, List.setIfInBounds_toArray, List.set_cons_zero, List.set_cons_succ]
     refine wpAnyH_done (by kernel_rfl) ?_ _
     go_wp2_with fail
     go_meet
     exact ⟨rfl, v13_b8_15, rfl, (show OneB _ _ _ _ _ from ⟨_, _, _, _, ⟨Kv13_v13_b8_15_22.out, lov13_b8_15, Gv13_4_22.out, HCv13_4.out, FRv13_4.out⟩, Bv13_22.out⟩)⟩
     refine cons_at (i := 8) rfl (fun K hK => ?_) AllReadyH.nil
     go_simp
     obtain ⟨v13_w24, hw⟩ : ∃ W', W' = v13_w0.alloc (.cells #[.int .i64 0, .slice none 0 0] 24) := ⟨_, rfl⟩
     obtain ⟨v13_b8_24, hb⟩ : ∃ b, b = v13_w0.heap.size := ⟨_, rfl⟩
     have X24 := Lib.hid (bal (Below.refl v13_w0.heap.size v13_w0) (o := .cells #[.int .i64 0, .slice none 0 0] 24))
     have Kv13_v13_b8_240 := Lib.hid (Blk.new v13_w0 24 #[.int .i64 0, .slice none 0 0])
     rw [← hw] at X24 Kv13_v13_b8_240
     rw [← hb] at Kv13_v13_b8_240
     rw [← hw, ← hb]
     have lov13_b8_24 : w49.heap.size ≤ v13_b8_24 := by rw [hb]; exact Bv13_0.out.size
     have Bv13_25 := Lib.hid (Bv13_0.out.trans (X24.out.mono Bv13_0.out.size))
     refine hK.out _ _ ?_ (fun hHeld => ?_)
     · exact Bv13_25.out
     clear Bv13_0 X24 hw hb
     clear hK K
     (try simp only [Act.put, uA, uB, uC])
     refine wpAnyH_ready (rs := [3]) (by kernel_rfl) (by simp) ?_
     refine cons_at (i := 3) rfl (fun K hK => ?_) AllReadyH.nil
     go_simp
     refine (of_F z v13_w24 HZ.out.1 HZ.out.2).mono ?_
     rintro e v13_w26 ⟨s7, A7, n7, c7, rfl, hc, hg, hf, hb⟩
     try dsimp only
     have X26 := Lib.hid hb
     have Gv13_3_26 := Lib.hid hg
     have HCv13_3 := Lib.hid hc
     have FRv13_3 : Hid (Fresh w49 A7 n7) := fun hp ad e => Nat.le_trans Bv13_25.out.size (hf hp ad e)
     have ap3v13_b8_24 := Lib.hid (show 0 < n7 → ∀ ad, A7 = some ad → ad.block ≠ v13_b8_24 from fun hp ad e => by have := hf hp ad e; have := Kv13_v13_b8_240.out.lt; omega)
     have Bv13_27 := Lib.hid (Bv13_25.out.trans (X26.out.mono Bv13_25.out.size))
     have Kv13_v13_b8_2427 := Lib.hid (Kv13_v13_b8_240.out.below X26.out Kv13_v13_b8_240.out.lt)
     refine hK.out _ _ ?_ (fun hHeld => ?_)
     · exact Bv13_27.out
     clear Bv13_25 Kv13_v13_b8_240 X26 hc hg hf hb
     clear hK K
     (try simp only [Act.put, uA, uB, uC])
     refine wpAnyH_ready (rs := [4]) (by kernel_rfl) (by simp) ?_
     refine cons_at (i := 4) rfl (fun K hK => ?_) AllReadyH.nil
     go_simp
     refine (mul_F (Gf50.out.2.past Bv13_27.out) Gv13_3_26.out (by decide) (by decide) c2a c7).mono ?_
     rintro e v13_w28 ⟨s8, A8, n8, c8, rfl, hc, hg, hf, hb⟩
     try dsimp only
     have X28 := Lib.hid hb
     have Gv13_4_28 := Lib.hid hg
     have HCv13_4 := Lib.hid hc
     have FRv13_4 : Hid (Fresh w49 A8 n8) := fun hp ad e => Nat.le_trans Bv13_27.out.size (hf hp ad e)
     have ap4v13_b8_24 := Lib.hid (show 0 < n8 → ∀ ad, A8 = some ad → ad.block ≠ v13_b8_24 from fun hp ad e => by have := hf hp ad e; have := Kv13_v13_b8_2427.out.lt; omega)
     have Bv13_29 := Lib.hid (Bv13_27.out.trans (X28.out.mono Bv13_27.out.size))
     have Kv13_v13_b8_2429 := Lib.hid (Kv13_v13_b8_2427.out.below X28.out Kv13_v13_b8_2427.out.lt)
     have Gv13_3_29 := Lib.hid (Gv13_3_26.out.past X28.out)
     refine hK.out _ _ ?_ (fun hHeld => ?_)
     · exact Bv13_29.out
     clear Bv13_27 Kv13_v13_b8_2427 Gv13_3_26 X28 hc hg hf hb
     clear hK K
     (try simp only [Act.put, uA, uB, uC])
     refine take_at (i := 5) (v := ?v13_v30) rfl (by kernel_rfl) (by kernel_rfl) (by kernel_rfl) (fun _ _ _ h => h) (Or.inl ⟨by rfl, ?v13_y30⟩) (by assumption) ?v13_r30
     case v13_y30 => (intro w hSw; (try dsimp only at hSw); go_simp; (try with_reducible rfl))
     simp only [Act.put, List.setIfInBounds_toArray, List.set_cons_zero, List.set_cons_succ]
     refine take_at (i := 6) (v := ?v13_v31) rfl (by kernel_rfl) (by kernel_rfl) (by kernel_rfl) (fun _ _ _ h => h) (Or.inl ⟨by rfl, ?v13_y31⟩) (by assumption) ?v13_r31
     case v13_y31 => (intro w hSw; (try dsimp only at hSw); go_simp; (try with_reducible rfl))
     simp only [Act.put, List.setIfInBounds_toArray, List.set_cons_zero, List.set_cons_succ]
     refine take_at (i := 7) (v := ?v13_v32) rfl (by kernel_rfl) (by kernel_rfl) (by kernel_rfl) (fun _ _ _ h => h) (Or.inl ⟨by rfl, ?v13_y32⟩) (by assumption) ?v13_r32
     case v13_y32 => (intro w hSw; (try dsimp only at hSw); go_simp; (try with_reducible rfl))
     simp only [Act.put, List.setIfInBounds_toArray, List.set_cons_zero, List.set_cons_succ]
     refine wpAnyH_ready (rs := [9]) (by kernel_rfl) (by simp) ?_
     refine cons_at (i := 9) rfl (fun K hK => ?_) AllReadyH.nil
     obtain ⟨f0, f1, f2, f3⟩ := sm_cells Kv13_v13_b8_2429.out
     go_simp
     clear f0 f1 f2 f3
     obtain ⟨v13_w33, hw⟩ : ∃ W', W' = (v13_w28.setCell ⟨v13_b8_24, 0, none⟩ (.int .i64 s8)).setCell ⟨v13_b8_24, 1, none⟩ (.slice A8 n8 c8) := ⟨_, rfl⟩
     rw [← hw]
     have Bv13_33 := Lib.hid (below_2 Bv13_29.out lov13_b8_24 (u := .int .i64 s8) (v := .slice A8 n8 c8))
     rw [← hw] at Bv13_33
     have Kv13_v13_b8_24_33 := Lib.hid (Kv13_v13_b8_2429.out.set2 (a := .int .i64 s8) (b := .slice A8 n8 c8))
     rw [← hw] at Kv13_v13_b8_24_33
     have Gv13_3_33 := Lib.hid (Gv13_3_29.out.far2 ap3v13_b8_24.out (a := .int .i64 s8) (b := .slice A8 n8 c8))
     rw [← hw] at Gv13_3_33
     have Gv13_4_33 := Lib.hid (Gv13_4_28.out.far2 ap4v13_b8_24.out (a := .int .i64 s8) (b := .slice A8 n8 c8))
     rw [← hw] at Gv13_4_33
     refine hK.out _ _ ?_ (fun hHeld => ?_)
     · exact Bv13_33.out
     clear Bv13_29 Kv13_v13_b8_2429 Gv13_3_29 Gv13_4_28 hw
     clear hK K
     (try simp only [Act.put, uA, uB, uC])
     refine take_at (i := 10) (v := ?v13_v34) rfl (by kernel_rfl) (by kernel_rfl) (by kernel_rfl) (fun _ _ _ h => h) (Or.inl ⟨by rfl, ?v13_y34⟩) (by assumption) ?v13_r34
     case v13_y34 => (intro w hSw; (try dsimp only at hSw); go_simp; (try with_reducible rfl))
     simp only [Act.put, List.setIfInBounds_toArray, List.set_cons_zero, List.set_cons_succ]
     refine wpAnyH_done (by kernel_rfl) ?_ _
     go_wp2_with fail
     go_meet
     exact ⟨rfl, v13_b8_24, rfl, (show OneB _ _ _ _ _ from ⟨_, _, _, _, ⟨Kv13_v13_b8_24_33.out, lov13_b8_24, Gv13_4_33.out, HCv13_4.out, FRv13_4.out⟩, Bv13_33.out⟩)⟩
    case rest => as_aux_lemma =>
     obtain ⟨rfl, bq, rfl, HX⟩ := hcut
     obtain ⟨w51, rfl⟩ : ∃ W : World, W = wc := ⟨_, rfl⟩
     obtain ⟨sq, Aq, nq, cq, ⟨hk, hlo, hg, f1, f2⟩, hb⟩ := HX.out
     have X := Lib.hid hb
     have Kq := Lib.hid hk
     have Gq := Lib.hid hg
     (try dsimp only [frC] at Kq)
     clear HX hk hlo hg f1 f2 hb
     clear zf0 zf1 zf2 zf3
     have B52 := Lib.hid (B50.out.trans (X.out.mono B50.out.size))
     have Kf52 := Lib.hid (Kf50.out.below X.out Kf50.out.lt)
     have Kx52 := Lib.hid (Kx50.out.below X.out Kx50.out.lt)
     have Kyy52 := Lib.hid (Kyy50.out.below X.out Kyy50.out.lt)
     have Kp52 := Lib.hid (Kp.out.below X.out Kp.out.lt)
     have Gf52 := Lib.hid (Gf50.out.past X.out)
     have Gx52 := Lib.hid (Gx50.out.past X.out)
     have Gyy52 := Lib.hid (Gyy50.out.past X.out)
     have Gp52 := Lib.hid (Gp.out.past X.out)
     clear X B50 Kf50 Kx50 Kyy50 Kp Gf50 Gx50 Gyy50 Gp
     by_cases hz0 : z = 0
     · as_aux_lemma =>
       obtain ⟨zp0, zp1, -, -⟩ := sm_cells Kp52.out
       obtain ⟨zq0, zq1, -, -⟩ := sm_cells Kq.out
       subst hz0
       have E1 : Hid (xa.num * 0 = 0) := Int.mul_zero _
       have E2 : Hid ((xa.den : Int) * 0 = 0) := Int.mul_zero _
       have M := Lib.hid (new_Z (k := 44) (p := xa.num * 0) ⟨sp, Ap, np, cp, sq, Aq, nq, cq⟩ Gp52.out (by have h := Gq.out; rwa [E2.out] at h) (HT.out.on B52.out) (by decide))
       (try dsimp only [frV] at M)
       go_wp2_with fail
       refine M.out.mono ?_
       rintro e w53 ⟨rfl, hb⟩
       clear M
       have X := Lib.hid hb
       clear hb
       have B54 := Lib.hid (B52.out.trans (X.out.mono B52.out.size))
       have Kf54 := Lib.hid (Kf52.out.below X.out Kf52.out.lt)
       have Kx54 := Lib.hid (Kx52.out.below X.out Kx52.out.lt)
       have Kyy54 := Lib.hid (Kyy52.out.below X.out Kyy52.out.lt)
       have Kp54 := Lib.hid (Kp52.out.below X.out Kp52.out.lt)
       have Kq54 := Lib.hid (Kq.out.below X.out Kq.out.lt)
       have Gf54 := Lib.hid (Gf52.out.past X.out)
       have Gx54 := Lib.hid (Gx52.out.past X.out)
       have Gyy54 := Lib.hid (Gyy52.out.past X.out)
       have Gp54 := Lib.hid (Gp52.out.past X.out)
       have Gq54 := Lib.hid (Gq.out.past X.out)
       clear X B52 Kf52 Kx52 Kyy52 Kp52 Kq Gf52 Gx52 Gyy52 Gp52 Gq
       clear zp0 zp1 zq0 zq1
       have lov : w.heap.size ≤ w53.heap.size := B54.out.size
       obtain ⟨w55, hw⟩ : ∃ W, W = w53.alloc (.cells #[.int .i64 0, .slice none 0 0, .int .i64 0, .slice none 0 0] 26) := ⟨_, rfl⟩
       obtain ⟨bv, hbb⟩ : ∃ b, b = w53.heap.size := ⟨_, rfl⟩
       have X := Lib.hid (bal (Below.refl w53.heap.size w53) (o := .cells #[.int .i64 0, .slice none 0 0, .int .i64 0, .slice none 0 0] 26))
       rw [← hw] at X
       have Kv := Lib.hid (Blk.new w53 26 #[.int .i64 0, .slice none 0 0, .int .i64 0, .slice none 0 0])
       rw [← hw, ← hbb] at Kv
       rw [← hbb] at lov
       go_upto_region 15 with (fail)
       rw [← hw, ← hbb]
       clear hw hbb
       have B56 := Lib.hid (B54.out.trans (X.out.mono B54.out.size))
       have Kf56 := Lib.hid (Kf54.out.below X.out Kf54.out.lt)
       have Kx56 := Lib.hid (Kx54.out.below X.out Kx54.out.lt)
       have Kyy56 := Lib.hid (Kyy54.out.below X.out Kyy54.out.lt)
       have Kp56 := Lib.hid (Kp54.out.below X.out Kp54.out.lt)
       have Kq56 := Lib.hid (Kq54.out.below X.out Kq54.out.lt)
       have Gf56 := Lib.hid (Gf54.out.past X.out)
       have Gx56 := Lib.hid (Gx54.out.past X.out)
       have Gyy56 := Lib.hid (Gyy54.out.past X.out)
       have Gp56 := Lib.hid (Gp54.out.past X.out)
       have Gq56 := Lib.hid (Gq54.out.past X.out)
       clear X B54 Kf54 Kx54 Kyy54 Kp54 Kq54 Gf54 Gx54 Gyy54 Gp54 Gq54
       obtain ⟨zx0, zx1, zx2, zx3, -, -, -, -⟩ := fr_cells Kx56.out
       obtain ⟨zf0, zf1, zf2, zf3, -, -, -, -⟩ := fr_cells Kf56.out
       have M := Lib.hid (same5_R (k := 67) ⟨s1x, A1x, n1x, c1x, s2x, A2x, n2x, c2x⟩ ⟨s1a, A1a, n1a, c1a, s2a, A2a, n2a, c2a⟩ Gx56.out (Gf56.out.more (by decide)) (by decide) (o := true) (decide_eq_true rfl))
       (try dsimp only [frV] at M)
       go_wp2_with fail
       refine M.out.mono ?_
       rintro e w57 ⟨rfl, hb⟩
       clear M
       have X := Lib.hid hb
       clear hb
       have B58 := Lib.hid (B56.out.trans (X.out.mono B56.out.size))
       have Kf58 := Lib.hid (Kf56.out.below X.out Kf56.out.lt)
       have Kx58 := Lib.hid (Kx56.out.below X.out Kx56.out.lt)
       have Kyy58 := Lib.hid (Kyy56.out.below X.out Kyy56.out.lt)
       have Kp58 := Lib.hid (Kp56.out.below X.out Kp56.out.lt)
       have Kq58 := Lib.hid (Kq56.out.below X.out Kq56.out.lt)
       have Gf58 := Lib.hid (Gf56.out.past X.out)
       have Gx58 := Lib.hid (Gx56.out.past X.out)
       have Gyy58 := Lib.hid (Gyy56.out.past X.out)
       have Gp58 := Lib.hid (Gp56.out.past X.out)
       have Gq58 := Lib.hid (Gq56.out.past X.out)
       clear X B56 Kf56 Kx56 Kyy56 Kp56 Kq56 Gf56 Gx56 Gyy56 Gp56 Gq56
       clear zx0 zx1 zx2 zx3 zf0 zf1 zf2 zf3
       obtain ⟨zyy0, zyy1, zyy2, zyy3, -, -, -, -⟩ := fr_cells Kyy58.out
       obtain ⟨zf0, zf1, zf2, zf3, -, -, -, -⟩ := fr_cells Kf58.out
       have M := Lib.hid (same5_R (k := 40) ⟨s1yy, A1yy, n1yy, c1yy, s2yy, A2yy, n2yy, c2yy⟩ ⟨s1a, A1a, n1a, c1a, s2a, A2a, n2a, c2a⟩ Gyy58.out Gf58.out (by decide) (o := true) (decide_eq_true rfl))
       (try dsimp only [frV] at M)
       go_wp2_with fail
       refine M.out.mono ?_
       rintro e w59 ⟨rfl, hb⟩
       clear M
       have X := Lib.hid hb
       clear hb
       have B60 := Lib.hid (B58.out.trans (X.out.mono B58.out.size))
       have Kf60 := Lib.hid (Kf58.out.below X.out Kf58.out.lt)
       have Kx60 := Lib.hid (Kx58.out.below X.out Kx58.out.lt)
       have Kyy60 := Lib.hid (Kyy58.out.below X.out Kyy58.out.lt)
       have Kp60 := Lib.hid (Kp58.out.below X.out Kp58.out.lt)
       have Kq60 := Lib.hid (Kq58.out.below X.out Kq58.out.lt)
       have Gf60 := Lib.hid (Gf58.out.past X.out)
       have Gx60 := Lib.hid (Gx58.out.past X.out)
       have Gyy60 := Lib.hid (Gyy58.out.past X.out)
       have Gp60 := Lib.hid (Gp58.out.past X.out)
       have Gq60 := Lib.hid (Gq58.out.past X.out)
       clear X B58 Kf58 Kx58 Kyy58 Kp58 Kq58 Gf58 Gx58 Gyy58 Gp58 Gq58
       clear zyy0 zyy1 zyy2 zyy3 zf0 zf1 zf2 zf3
       go_wp2_with fail
       go_ret
       exact ⟨rfl, B60.out⟩
     · as_aux_lemma =>
       obtain ⟨zp0, zp1, -, -⟩ := sm_cells Kp52.out
       obtain ⟨zq0, zq1, -, -⟩ := sm_cells Kq.out
       have hb1 : (z != 0) = true := by simp [hz0]
       have hb2 : (z == 0) = false := by simp [hz0]
       have M := Lib.hid (new_times (k := 44) (x := xa) ⟨sp, Ap, np, cp, sq, Aq, nq, cq⟩ hz0 Gp52.out Gq.out (HT.out.on B52.out) (by decide))
       (try dsimp only [frV] at M)
       go_wp2_with fail
       refine M.out.mono ?_
       rintro e w53 ⟨⟨s1v, A1v, n1v, c1v, s2v, A2v, n2v, c2v⟩, rfl, hc1, hc2, hf, f1, f2, hb⟩
       clear M
       (try dsimp only [frV])
       have X := Lib.hid hb
       have Gv := Lib.hid hf
       clear hc1 hc2 hf f1 f2 hb
       have B54 := Lib.hid (B52.out.trans (X.out.mono B52.out.size))
       have Kf54 := Lib.hid (Kf52.out.below X.out Kf52.out.lt)
       have Kx54 := Lib.hid (Kx52.out.below X.out Kx52.out.lt)
       have Kyy54 := Lib.hid (Kyy52.out.below X.out Kyy52.out.lt)
       have Kp54 := Lib.hid (Kp52.out.below X.out Kp52.out.lt)
       have Kq54 := Lib.hid (Kq.out.below X.out Kq.out.lt)
       have Gf54 := Lib.hid (Gf52.out.past X.out)
       have Gx54 := Lib.hid (Gx52.out.past X.out)
       have Gyy54 := Lib.hid (Gyy52.out.past X.out)
       have Gp54 := Lib.hid (Gp52.out.past X.out)
       have Gq54 := Lib.hid (Gq.out.past X.out)
       clear X B52 Kf52 Kx52 Kyy52 Kp52 Kq Gf52 Gx52 Gyy52 Gp52 Gq
       clear zp0 zp1 zq0 zq1
       have lov : w.heap.size ≤ w53.heap.size := B54.out.size
       obtain ⟨w55, hw⟩ : ∃ W, W = w53.alloc (.cells #[.int .i64 s1v, .slice A1v n1v c1v, .int .i64 s2v, .slice A2v n2v c2v] 26) := ⟨_, rfl⟩
       obtain ⟨bv, hbb⟩ : ∃ b, b = w53.heap.size := ⟨_, rfl⟩
       have X := Lib.hid (bal (Below.refl w53.heap.size w53) (o := .cells #[.int .i64 s1v, .slice A1v n1v c1v, .int .i64 s2v, .slice A2v n2v c2v] 26))
       rw [← hw] at X
       have Kv := Lib.hid (Blk.new w53 26 #[.int .i64 s1v, .slice A1v n1v c1v, .int .i64 s2v, .slice A2v n2v c2v])
       rw [← hw, ← hbb] at Kv
       rw [← hbb] at lov
       go_upto_region 15 with (fail)
       rw [← hw, ← hbb]
       clear hw hbb
       have B56 := Lib.hid (B54.out.trans (X.out.mono B54.out.size))
       have Kf56 := Lib.hid (Kf54.out.below X.out Kf54.out.lt)
       have Kx56 := Lib.hid (Kx54.out.below X.out Kx54.out.lt)
       have Kyy56 := Lib.hid (Kyy54.out.below X.out Kyy54.out.lt)
       have Kp56 := Lib.hid (Kp54.out.below X.out Kp54.out.lt)
       have Kq56 := Lib.hid (Kq54.out.below X.out Kq54.out.lt)
       have Gf56 := Lib.hid (Gf54.out.past X.out)
       have Gx56 := Lib.hid (Gx54.out.past X.out)
       have Gyy56 := Lib.hid (Gyy54.out.past X.out)
       have Gp56 := Lib.hid (Gp54.out.past X.out)
       have Gq56 := Lib.hid (Gq54.out.past X.out)
       have Gv56 := Lib.hid (Gv.out.past X.out)
       clear X B54 Kf54 Kx54 Kyy54 Kp54 Kq54 Gf54 Gx54 Gyy54 Gp54 Gq54 Gv
       obtain ⟨zx0, zx1, zx2, zx3, -, -, -, -⟩ := fr_cells Kx56.out
       obtain ⟨zf0, zf1, zf2, zf3, -, -, -, -⟩ := fr_cells Kf56.out
       have M := Lib.hid (same5_R (k := 67) ⟨s1x, A1x, n1x, c1x, s2x, A2x, n2x, c2x⟩ ⟨s1a, A1a, n1a, c1a, s2a, A2a, n2a, c2a⟩ Gx56.out (Gf56.out.more (by decide)) (by decide) (o := true) (decide_eq_true rfl))
       (try dsimp only [frV] at M)
       go_wp2_with fail
       refine M.out.mono ?_
       rintro e w57 ⟨rfl, hb⟩
       clear M
       have X := Lib.hid hb
       clear hb
       have B58 := Lib.hid (B56.out.trans (X.out.mono B56.out.size))
       have Kf58 := Lib.hid (Kf56.out.below X.out Kf56.out.lt)
       have Kx58 := Lib.hid (Kx56.out.below X.out Kx56.out.lt)
       have Kyy58 := Lib.hid (Kyy56.out.below X.out Kyy56.out.lt)
       have Kp58 := Lib.hid (Kp56.out.below X.out Kp56.out.lt)
       have Kq58 := Lib.hid (Kq56.out.below X.out Kq56.out.lt)
       have Kv58 := Lib.hid (Kv.out.below X.out Kv.out.lt)
       have Gf58 := Lib.hid (Gf56.out.past X.out)
       have Gx58 := Lib.hid (Gx56.out.past X.out)
       have Gyy58 := Lib.hid (Gyy56.out.past X.out)
       have Gp58 := Lib.hid (Gp56.out.past X.out)
       have Gq58 := Lib.hid (Gq56.out.past X.out)
       have Gv58 := Lib.hid (Gv56.out.past X.out)
       clear X B56 Kf56 Kx56 Kyy56 Kp56 Kq56 Kv Gf56 Gx56 Gyy56 Gp56 Gq56 Gv56
       clear zx0 zx1 zx2 zx3 zf0 zf1 zf2 zf3
       obtain ⟨zyy0, zyy1, zyy2, zyy3, -, -, -, -⟩ := fr_cells Kyy58.out
       obtain ⟨zf0, zf1, zf2, zf3, -, -, -, -⟩ := fr_cells Kf58.out
       have M := Lib.hid (same5_R (k := 40) ⟨s1yy, A1yy, n1yy, c1yy, s2yy, A2yy, n2yy, c2yy⟩ ⟨s1a, A1a, n1a, c1a, s2a, A2a, n2a, c2a⟩ Gyy58.out Gf58.out (by decide) (o := true) (decide_eq_true rfl))
       (try dsimp only [frV] at M)
       go_wp2_with fail
       refine M.out.mono ?_
       rintro e w59 ⟨rfl, hb⟩
       clear M
       have X := Lib.hid hb
       clear hb
       have B60 := Lib.hid (B58.out.trans (X.out.mono B58.out.size))
       have Kf60 := Lib.hid (Kf58.out.below X.out Kf58.out.lt)
       have Kx60 := Lib.hid (Kx58.out.below X.out Kx58.out.lt)
       have Kyy60 := Lib.hid (Kyy58.out.below X.out Kyy58.out.lt)
       have Kp60 := Lib.hid (Kp58.out.below X.out Kp58.out.lt)
       have Kq60 := Lib.hid (Kq58.out.below X.out Kq58.out.lt)
       have Kv60 := Lib.hid (Kv58.out.below X.out Kv58.out.lt)
       have Gf60 := Lib.hid (Gf58.out.past X.out)
       have Gx60 := Lib.hid (Gx58.out.past X.out)
       have Gyy60 := Lib.hid (Gyy58.out.past X.out)
       have Gp60 := Lib.hid (Gp58.out.past X.out)
       have Gq60 := Lib.hid (Gq58.out.past X.out)
       have Gv60 := Lib.hid (Gv58.out.past X.out)
       clear X B58 Kf58 Kx58 Kyy58 Kp58 Kq58 Kv58 Gf58 Gx58 Gyy58 Gp58 Gq58 Gv58
       clear zyy0 zyy1 zyy2 zyy3 zf0 zf1 zf2 zf3
       obtain ⟨zv0, zv1, zv2, zv3, -, -, -, -⟩ := fr_cells Kv60.out
       obtain ⟨zf0, zf1, zf2, zf3, -, -, -, -⟩ := fr_cells Kf60.out
       have M := Lib.hid (same5_R (k := 44) ⟨s1v, A1v, n1v, c1v, s2v, A2v, n2v, c2v⟩ ⟨s1a, A1a, n1a, c1a, s2a, A2a, n2a, c2a⟩ Gv60.out (Gf60.out.more (by decide)) (by decide) (o := true) (decide_eq_true rfl))
       (try dsimp only [frV] at M)
       go_wp2_with fail
       refine M.out.mono ?_
       rintro e w61 ⟨rfl, hb⟩
       clear M
       have X := Lib.hid hb
       clear hb
       have B62 := Lib.hid (B60.out.trans (X.out.mono B60.out.size))
       have Kf62 := Lib.hid (Kf60.out.below X.out Kf60.out.lt)
       have Kx62 := Lib.hid (Kx60.out.below X.out Kx60.out.lt)
       have Kyy62 := Lib.hid (Kyy60.out.below X.out Kyy60.out.lt)
       have Kp62 := Lib.hid (Kp60.out.below X.out Kp60.out.lt)
       have Kq62 := Lib.hid (Kq60.out.below X.out Kq60.out.lt)
       have Kv62 := Lib.hid (Kv60.out.below X.out Kv60.out.lt)
       have Gf62 := Lib.hid (Gf60.out.past X.out)
       have Gx62 := Lib.hid (Gx60.out.past X.out)
       have Gyy62 := Lib.hid (Gyy60.out.past X.out)
       have Gp62 := Lib.hid (Gp60.out.past X.out)
       have Gq62 := Lib.hid (Gq60.out.past X.out)
       have Gv62 := Lib.hid (Gv60.out.past X.out)
       clear X B60 Kf60 Kx60 Kyy60 Kp60 Kq60 Kv60 Gf60 Gx60 Gyy60 Gp60 Gq60 Gv60
       clear zv0 zv1 zv2 zv3 zf0 zf1 zf2 zf3
       go_wp2_with fail
       go_ret
       exact ⟨rfl, B62.out⟩
theorem back_walk (ra : FrR) (l1a l2a : List Int) (z : Int) (s : ByteArray) (w : World) (haa : FrArg w ra l1a l2a) (hT : TabZ w) (hS : Tab w) (hM : MaxL w) (hz : -9223372036854775808 ≤ z ∧ z ≤ 9223372036854775807) :
    Calls Tryz.prog 5 #[frV ra, .int .i64 z, .string s] w fun e w' => e = .returned (.bool true) ∧ Below w.heap.size w w' := by
  by_cases t : (ra.n1 : Int) ≤ 40 ∧ (ra.n2 : Int) ≤ 40
  case neg => exact back_e0 ra l1a l2a z s w haa hT hS hM (by omega)
  by_cases hl : (s.size : Int) ≤ 300
  case neg => exact back_e1 ra l1a l2a z s w haa hT hS hM t (by omega)
  by_cases u : ∃ x, IsFr w ra x
  · obtain ⟨xa, u⟩ := u
    exact back_yes ra l1a l2a z s w haa hT hS hM t hl hz xa u
  · exact back_no ra l1a l2a z s w haa hT hS hM t hl (fun x hx => u ⟨x, hx⟩)
end Go.Proofs.YtmkhoofeekollaaGreatDoor
