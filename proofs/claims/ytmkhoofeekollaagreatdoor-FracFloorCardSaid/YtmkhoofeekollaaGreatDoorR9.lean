/- The walk of the law FracFloor. Conditions: the arguments' memory; the tables of math/bits and strconv as their texts lay them; the variable MaxLen of internal/bytealg holds an int. -/
import Derived.Test.YtmkhoofeekollaaGreatDoorR8
import Derived.Deep.DeepCutAuto
namespace Go.Proofs.YtmkhoofeekollaaGreatDoor
set_option maxRecDepth 20000
open Go.RowKit

set_option maxHeartbeats 16000000 in
theorem floor_main (ra : FrR) (l1a l2a : List Int) (z : Int) (hz : -9223372036854775808 ≤ z ∧ z ≤ 9223372036854775807) (w : World) (_haa : FrArg w ra l1a l2a) (hT : TabZ w) (hS : Tab w) (hM : MaxL w) (t0 : (ra.n1 : Int) ≤ 30 ∧ (ra.n2 : Int) ≤ 30) (xa : Rat) (t1 : IsFr w ra xa) :
    Calls Tryz.prog 6 #[frV ra, .int .i64 z] w fun e w' => e = .returned (.bool true) ∧ Below w.heap.size w w' := by
  have HR0 := Lib.hid t0
  have HR1 := Lib.hid t1
  have HXa : Hid (Fg w 30 xa ra) := ⟨t1.1.as (by have h := t1.1; have hl := h.len; exact few_sz h (by omega)), t1.2.as (by have h := t1.2; exact few_sz h (by omega))⟩
  clear t0 t1 _haa
  obtain ⟨W0, hW0⟩ : ∃ W0, W0 = w.alloc (.cells (frC ra) 26) := ⟨_, rfl⟩
  have B0 : Hid (Below w.heap.size w W0) := by show Below _ _ _; rw [hW0]; exact (bal (Below.refl w.heap.size w))
  have Ka : Hid (Blk W0 (w.heap.size) 26 (frC ra)) := by show Blk _ _ _ _; rw [hW0]; exact (Blk.new_ (by simp))
  have HT := Lib.hid hT
  have HS := Lib.hid hS
  have HM := Lib.hid hM
  obtain ⟨s1a, A1a, n1a, c1a, s2a, A2a, n2a, c2a⟩ := ra
  dsimp only [frV, frC] at *
  clear hT hS hM
  go_enter Tryz.func6, Tryz.ntmps6
  go_wp2_with fail
  rw [← hW0]
  clear hW0
  have M := Lib.hid (small5_any W0 (HT.out.on B0.out) (HS.out.on B0.out) (HM.out.on B0.out HM.out.pos))
  (try dsimp only [frV] at M)
  go_wp2_with fail
  refine M.out.mono ?_
  rintro e wa1 ⟨rfl, hb⟩
  clear M
  have X := Lib.hid hb
  clear hb
  have Ba2 := Lib.hid (B0.out.trans (X.out.mono B0.out.size))
  have Kaa2 := Lib.hid (Ka.out.below X.out Ka.out.lt)
  clear X B0 Ka
  obtain ⟨za0, za1, za2, za3, -, -, -, -⟩ := fr_cells Kaa2.out
  have M := Lib.hid (few5_T ⟨s1a, A1a, n1a, c1a, s2a, A2a, n2a, c2a⟩ 30 wa1 HR0.out.1 HR0.out.2)
  (try dsimp only [frV] at M)
  go_wp2_with fail
  refine M.out.mono ?_
  rintro e wa3 ⟨rfl, hb⟩
  clear M
  have X := Lib.hid hb
  clear hb
  have Ba4 := Lib.hid (Ba2.out.trans (X.out.mono Ba2.out.size))
  have Kaa4 := Lib.hid (Kaa2.out.below X.out Kaa2.out.lt)
  clear X Ba2 Kaa2
  clear za0 za1 za2 za3
  obtain ⟨za0, za1, za2, za3, -, -, -, -⟩ := fr_cells Kaa4.out
  have M := Lib.hid (right_T ⟨s1a, A1a, n1a, c1a, s2a, A2a, n2a, c2a⟩ (HR1.out.past Ba4.out) (HT.out.on Ba4.out) (by dsimp only; have := HR0.out; have := HR0.out; omega))
  (try dsimp only [frV] at M)
  go_wp2_with fail
  refine M.out.mono ?_
  rintro e wa5 ⟨rfl, hb⟩
  clear M
  have X := Lib.hid hb
  clear hb
  have Ba6 := Lib.hid (Ba4.out.trans (X.out.mono Ba4.out.size))
  have Kaa6 := Lib.hid (Kaa4.out.below X.out Kaa4.out.lt)
  clear X Ba4 Kaa4
  clear za0 za1 za2 za3
  have Gf := Lib.hid (HXa.out.past Ba6.out)
  clear HXa HR0 HR1 HS HM
  have HZ := Lib.hid hz
  obtain ⟨zf0, zf1, zf2, zf3, -, -, -, -⟩ := fr_cells Kaa6.out
  have M := Lib.hid (floor_R ⟨s1a, A1a, n1a, c1a, s2a, A2a, n2a, c2a⟩ Gf.out (HT.out.on Ba6.out) (by decide))
  (try dsimp only [frV] at M)
  go_wp2_with fail
  refine M.out.mono ?_
  rintro e w101 ⟨sa, Aa, na, ca, rfl, hc, hg, hf, hb⟩
  clear M
  have X := Lib.hid hb
  have Ga := Lib.hid hg
  clear hc hg hf hb
  have B102 := Lib.hid (Ba6.out.trans (X.out.mono Ba6.out.size))
  have Kf102 := Lib.hid (Kaa6.out.below X.out Kaa6.out.lt)
  have Gf102 := Lib.hid (Gf.out.past X.out)
  clear X Ba6 Kaa6 Gf
  clear zf0 zf1 zf2 zf3
  have loa : w.heap.size ≤ w101.heap.size := B102.out.size
  obtain ⟨w103, hw⟩ : ∃ W, W = w101.alloc (.cells #[.int .i64 sa, .slice Aa na ca] 24) := ⟨_, rfl⟩
  obtain ⟨ba, hbb⟩ : ∃ b, b = w101.heap.size := ⟨_, rfl⟩
  have X := Lib.hid (bal (Below.refl w101.heap.size w101) (o := .cells #[.int .i64 sa, .slice Aa na ca] 24))
  rw [← hw] at X
  have Ka := Lib.hid (Blk.new w101 24 #[.int .i64 sa, .slice Aa na ca])
  rw [← hw, ← hbb] at Ka
  rw [← hbb] at loa
  go_upto_region 5 with (fail)
  rw [← hw, ← hbb]
  clear hw hbb
  have B104 := Lib.hid (B102.out.trans (X.out.mono B102.out.size))
  have Kf104 := Lib.hid (Kf102.out.below X.out Kf102.out.lt)
  have Gf104 := Lib.hid (Gf102.out.past X.out)
  have Ga104 := Lib.hid (Ga.out.past X.out)
  clear X B102 Kf102 Gf102 Ga
  obtain ⟨za0, za1, -, -⟩ := sm_cells Ka.out
  go_cut [7, 8] (fun p1 p2 wc => p2 = .int .i64 0 ∧ ∃ b, p1 = .pointer (some ⟨b, 0, none⟩) ∧ Hid (OneB w103 wc b (30 + 4 + 1) (xa.floor + 1)))
  case first => as_aux_lemma =>
   have HC := Lib.hid (fun (w' : World) (h : Below w103.heap.size w103 w') => (⟨(h.cell (p := ⟨ba, 0, none⟩) (World.block_lt_of_cell? _ _ za0)).trans za0, (h.cell (p := ⟨ba, 1, none⟩) (World.block_lt_of_cell? _ _ za1)).trans za1⟩ : w'.cell? ⟨ba, 0, none⟩ = some (.int .i64 sa) ∧ w'.cell? ⟨ba, 1, none⟩ = some (.slice Aa na ca)))
   clear za0 za1
   have Bv5_0 := Lib.hid (Below.refl w103.heap.size w103).drew
   refine wp_region_held_drew (S := fun w' => Below w103.heap.size w103 w') (by kernel_rfl) Bv5_0.out (fun hHeld => ?_)
   obtain ⟨v5_w0, hw⟩ : ∃ W, W = w103.drew := ⟨_, rfl⟩
   rw [← hw] at hHeld Bv5_0 ⊢
   clear hw
   refine take_at (i := 0) (v := ?v5_v1) rfl (by kernel_rfl) (by kernel_rfl) (by kernel_rfl) (fun _ _ _ h => h) (Or.inl ⟨by rfl, ?v5_y1⟩) (by assumption) ?v5_r1
   case v5_y1 => (intro w hSw; (try dsimp only at hSw); obtain ⟨cc0, cc1⟩ := HC.out _ hSw; go_simp; (try with_reducible rfl))
   simp only [Act.put, List.setIfInBounds_toArray, List.set_cons_zero, List.set_cons_succ]
   refine wpAnyH_ready (rs := [1, 6]) (by kernel_rfl) (by simp) ?_
   refine cons_at (i := 1) rfl (fun K hK => ?_) ?_
   go_simp
   refine (of_F 1 v5_w0 (by decide) (by decide)).mono ?_
   rintro e v5_w2 ⟨s7, A7, n7, c7, rfl, hc, hg, hf, hb⟩
   try dsimp only
   have X2 := Lib.hid hb
   have Gv5_1_2 := Lib.hid hg
   have HCv5_1 := Lib.hid hc
   have FRv5_1 : Hid (Fresh w103 A7 n7) := fun hp ad e => Nat.le_trans Bv5_0.out.size (hf hp ad e)
   have Bv5_3 := Lib.hid (Bv5_0.out.trans (X2.out.mono Bv5_0.out.size))
   refine hK.out _ _ ?_ (fun hHeld => ?_)
   · exact Bv5_3.out
   clear Bv5_0 X2 hc hg hf hb
   clear hK K
   (try simp only [Act.put, uA, uB, uC])
   refine wpAnyH_ready (rs := [2, 6]) (by kernel_rfl) (by simp) ?_
   refine cons_at (i := 2) rfl (fun K hK => ?_) ?_
   go_simp
   refine (add_F (Ga104.out.past Bv5_3.out) Gv5_1_2.out (by decide) (by decide) ca c7).mono ?_
   rintro e v5_w4 ⟨s8, A8, n8, c8, rfl, hc, hg, hf, hb⟩
   try dsimp only
   have X4 := Lib.hid hb
   have Gv5_2_4 := Lib.hid hg
   have HCv5_2 := Lib.hid hc
   have FRv5_2 : Hid (Fresh w103 A8 n8) := fun hp ad e => Nat.le_trans Bv5_3.out.size (hf hp ad e)
   have Bv5_5 := Lib.hid (Bv5_3.out.trans (X4.out.mono Bv5_3.out.size))
   have Gv5_1_5 := Lib.hid (Gv5_1_2.out.past X4.out)
   refine hK.out _ _ ?_ (fun hHeld => ?_)
   · exact Bv5_5.out
   clear Bv5_3 Gv5_1_2 X4 hc hg hf hb
   clear hK K
   (try simp only [Act.put, uA, uB, uC])
   refine take_at (i := 3) (v := ?v5_v6) rfl (by kernel_rfl) (by kernel_rfl) (by kernel_rfl) (fun _ _ _ h => h) (Or.inl ⟨by rfl, ?v5_y6⟩) (by assumption) ?v5_r6
   case v5_y6 => (intro w hSw; (try dsimp only at hSw); go_simp; (try with_reducible rfl))
   simp only [Act.put, List.setIfInBounds_toArray, List.set_cons_zero, List.set_cons_succ]
   refine take_at (i := 4) (v := ?v5_v7) rfl (by kernel_rfl) (by kernel_rfl) (by kernel_rfl) (fun _ _ _ h => h) (Or.inl ⟨by rfl, ?v5_y7⟩) (by assumption) ?v5_r7
   case v5_y7 => (intro w hSw; (try dsimp only at hSw); go_simp; (try with_reducible rfl))
   simp only [Act.put, List.setIfInBounds_toArray, List.set_cons_zero, List.set_cons_succ]
   refine take_at (i := 5) (v := ?v5_v8) rfl (by kernel_rfl) (by kernel_rfl) (by kernel_rfl) (fun _ _ _ h => h) (Or.inl ⟨by rfl, ?v5_y8⟩) (by assumption) ?v5_r8
   case v5_y8 => (intro w hSw; (try dsimp only at hSw); go_simp; (try with_reducible rfl))
   simp only [Act.put, List.setIfInBounds_toArray, List.set_cons_zero, List.set_cons_succ]
   refine wpAnyH_ready (rs := [6]) (by kernel_rfl) (by simp) ?_
   refine cons_at (i := 6) rfl (fun K hK => ?_) AllReadyH.nil
   go_simp
   obtain ⟨v5_w9, hw⟩ : ∃ W', W' = v5_w4.alloc (.cells #[.int .i64 0, .slice none 0 0] 24) := ⟨_, rfl⟩
   obtain ⟨v5_b6_9, hb⟩ : ∃ b, b = v5_w4.heap.size := ⟨_, rfl⟩
   have X9 := Lib.hid (bal (Below.refl v5_w4.heap.size v5_w4) (o := .cells #[.int .i64 0, .slice none 0 0] 24))
   have Kv5_v5_b6_90 := Lib.hid (Blk.new v5_w4 24 #[.int .i64 0, .slice none 0 0])
   rw [← hw] at X9 Kv5_v5_b6_90
   rw [← hb] at Kv5_v5_b6_90
   rw [← hw, ← hb]
   have lov5_b6_9 : w103.heap.size ≤ v5_b6_9 := by rw [hb]; exact Bv5_5.out.size
   have ap1v5_b6_9 := Lib.hid (show 0 < n7 → ∀ ad, A7 = some ad → ad.block ≠ v5_b6_9 from fun hp ad e => by rw [hb]; exact Nat.ne_of_lt (Gv5_1_5.out.lt hp e))
   have ap2v5_b6_9 := Lib.hid (show 0 < n8 → ∀ ad, A8 = some ad → ad.block ≠ v5_b6_9 from fun hp ad e => by rw [hb]; exact Nat.ne_of_lt (Gv5_2_4.out.lt hp e))
   have Bv5_10 := Lib.hid (Bv5_5.out.trans (X9.out.mono Bv5_5.out.size))
   have Gv5_1_10 := Lib.hid (Gv5_1_5.out.past X9.out)
   have Gv5_2_10 := Lib.hid (Gv5_2_4.out.past X9.out)
   refine hK.out _ _ ?_ (fun hHeld => ?_)
   · exact Bv5_10.out
   clear Bv5_5 Gv5_1_5 Gv5_2_4 X9 hw hb
   clear hK K
   (try simp only [Act.put, uA, uB, uC])
   refine wpAnyH_ready (rs := [7]) (by kernel_rfl) (by simp) ?_
   refine cons_at (i := 7) rfl (fun K hK => ?_) AllReadyH.nil
   obtain ⟨f0, f1, f2, f3⟩ := sm_cells Kv5_v5_b6_90.out
   go_simp
   clear f0 f1 f2 f3
   obtain ⟨v5_w11, hw⟩ : ∃ W', W' = (v5_w9.setCell ⟨v5_b6_9, 0, none⟩ (.int .i64 s8)).setCell ⟨v5_b6_9, 1, none⟩ (.slice A8 n8 c8) := ⟨_, rfl⟩
   rw [← hw]
   have Bv5_11 := Lib.hid (below_2 Bv5_10.out lov5_b6_9 (u := .int .i64 s8) (v := .slice A8 n8 c8))
   rw [← hw] at Bv5_11
   have Kv5_v5_b6_9_11 := Lib.hid (Kv5_v5_b6_90.out.set2 (a := .int .i64 s8) (b := .slice A8 n8 c8))
   rw [← hw] at Kv5_v5_b6_9_11
   have Gv5_1_11 := Lib.hid (Gv5_1_10.out.far2 ap1v5_b6_9.out (a := .int .i64 s8) (b := .slice A8 n8 c8))
   rw [← hw] at Gv5_1_11
   have Gv5_2_11 := Lib.hid (Gv5_2_10.out.far2 ap2v5_b6_9.out (a := .int .i64 s8) (b := .slice A8 n8 c8))
   rw [← hw] at Gv5_2_11
   refine hK.out _ _ ?_ (fun hHeld => ?_)
   · exact Bv5_11.out
   clear Bv5_10 Kv5_v5_b6_90 Gv5_1_10 Gv5_2_10 hw
   clear hK K
   (try simp only [Act.put, uA, uB, uC])
   refine take_at (i := 8) (v := ?v5_v12) rfl (by kernel_rfl) (by kernel_rfl) (by kernel_rfl) (fun _ _ _ h => h) (Or.inl ⟨by rfl, ?v5_y12⟩) (by assumption) ?v5_r12
   case v5_y12 => (intro w hSw; (try dsimp only at hSw); go_simp; (try with_reducible rfl))
   simp only [Act.put, List.setIfInBounds_toArray, List.set_cons_zero, List.set_cons_succ]
   refine wpAnyH_done (by kernel_rfl) ?_ _
   go_wp2_with fail
   go_meet
   exact ⟨rfl, v5_b6_9, rfl, (show OneB _ _ _ _ _ from ⟨_, _, _, _, ⟨Kv5_v5_b6_9_11.out, lov5_b6_9, Gv5_2_11.out, HCv5_2.out, FRv5_2.out⟩, Bv5_11.out⟩)⟩
   refine cons_at (i := 6) rfl (fun K hK => ?_) AllReadyH.nil
   go_simp
   obtain ⟨v5_w13, hw⟩ : ∃ W', W' = v5_w2.alloc (.cells #[.int .i64 0, .slice none 0 0] 24) := ⟨_, rfl⟩
   obtain ⟨v5_b6_13, hb⟩ : ∃ b, b = v5_w2.heap.size := ⟨_, rfl⟩
   have X13 := Lib.hid (bal (Below.refl v5_w2.heap.size v5_w2) (o := .cells #[.int .i64 0, .slice none 0 0] 24))
   have Kv5_v5_b6_130 := Lib.hid (Blk.new v5_w2 24 #[.int .i64 0, .slice none 0 0])
   rw [← hw] at X13 Kv5_v5_b6_130
   rw [← hb] at Kv5_v5_b6_130
   rw [← hw, ← hb]
   have lov5_b6_13 : w103.heap.size ≤ v5_b6_13 := by rw [hb]; exact Bv5_3.out.size
   have ap1v5_b6_13 := Lib.hid (show 0 < n7 → ∀ ad, A7 = some ad → ad.block ≠ v5_b6_13 from fun hp ad e => by rw [hb]; exact Nat.ne_of_lt (Gv5_1_2.out.lt hp e))
   have Bv5_14 := Lib.hid (Bv5_3.out.trans (X13.out.mono Bv5_3.out.size))
   have Gv5_1_14 := Lib.hid (Gv5_1_2.out.past X13.out)
   refine hK.out _ _ ?_ (fun hHeld => ?_)
   · exact Bv5_14.out
   clear Bv5_3 Gv5_1_2 X13 hw hb
   clear hK K
   (try simp only [Act.put, uA, uB, uC])
   refine wpAnyH_ready (rs := [2]) (by kernel_rfl) (by simp) ?_
   refine cons_at (i := 2) rfl (fun K hK => ?_) AllReadyH.nil
   go_simp
   refine (add_F (Ga104.out.past Bv5_14.out) Gv5_1_14.out (by decide) (by decide) ca c7).mono ?_
   rintro e v5_w15 ⟨s8, A8, n8, c8, rfl, hc, hg, hf, hb⟩
   try dsimp only
   have X15 := Lib.hid hb
   have Gv5_2_15 := Lib.hid hg
   have HCv5_2 := Lib.hid hc
   have FRv5_2 : Hid (Fresh w103 A8 n8) := fun hp ad e => Nat.le_trans Bv5_14.out.size (hf hp ad e)
   have ap2v5_b6_13 := Lib.hid (show 0 < n8 → ∀ ad, A8 = some ad → ad.block ≠ v5_b6_13 from fun hp ad e => by have := hf hp ad e; have := Kv5_v5_b6_130.out.lt; omega)
   have Bv5_16 := Lib.hid (Bv5_14.out.trans (X15.out.mono Bv5_14.out.size))
   have Kv5_v5_b6_1316 := Lib.hid (Kv5_v5_b6_130.out.below X15.out Kv5_v5_b6_130.out.lt)
   have Gv5_1_16 := Lib.hid (Gv5_1_14.out.past X15.out)
   refine hK.out _ _ ?_ (fun hHeld => ?_)
   · exact Bv5_16.out
   clear Bv5_14 Kv5_v5_b6_130 Gv5_1_14 X15 hc hg hf hb
   clear hK K
   (try simp only [Act.put, uA, uB, uC])
   refine take_at (i := 3) (v := ?v5_v17) rfl (by kernel_rfl) (by kernel_rfl) (by kernel_rfl) (fun _ _ _ h => h) (Or.inl ⟨by rfl, ?v5_y17⟩) (by assumption) ?v5_r17
   case v5_y17 => (intro w hSw; (try dsimp only at hSw); go_simp; (try with_reducible rfl))
   simp only [Act.put, List.setIfInBounds_toArray, List.set_cons_zero, List.set_cons_succ]
   refine take_at (i := 4) (v := ?v5_v18) rfl (by kernel_rfl) (by kernel_rfl) (by kernel_rfl) (fun _ _ _ h => h) (Or.inl ⟨by rfl, ?v5_y18⟩) (by assumption) ?v5_r18
   case v5_y18 => (intro w hSw; (try dsimp only at hSw); go_simp; (try with_reducible rfl))
   simp only [Act.put, List.setIfInBounds_toArray, List.set_cons_zero, List.set_cons_succ]
   refine take_at (i := 5) (v := ?v5_v19) rfl (by kernel_rfl) (by kernel_rfl) (by kernel_rfl) (fun _ _ _ h => h) (Or.inl ⟨by rfl, ?v5_y19⟩) (by assumption) ?v5_r19
   case v5_y19 => (intro w hSw; (try dsimp only at hSw); go_simp; (try with_reducible rfl))
   simp only [Act.put, List.setIfInBounds_toArray, List.set_cons_zero, List.set_cons_succ]
   refine wpAnyH_ready (rs := [7]) (by kernel_rfl) (by simp) ?_
   refine cons_at (i := 7) rfl (fun K hK => ?_) AllReadyH.nil
   obtain ⟨f0, f1, f2, f3⟩ := sm_cells Kv5_v5_b6_1316.out
   go_simp
   clear f0 f1 f2 f3
   obtain ⟨v5_w20, hw⟩ : ∃ W', W' = (v5_w15.setCell ⟨v5_b6_13, 0, none⟩ (.int .i64 s8)).setCell ⟨v5_b6_13, 1, none⟩ (.slice A8 n8 c8) := ⟨_, rfl⟩
   rw [← hw]
   have Bv5_20 := Lib.hid (below_2 Bv5_16.out lov5_b6_13 (u := .int .i64 s8) (v := .slice A8 n8 c8))
   rw [← hw] at Bv5_20
   have Kv5_v5_b6_13_20 := Lib.hid (Kv5_v5_b6_1316.out.set2 (a := .int .i64 s8) (b := .slice A8 n8 c8))
   rw [← hw] at Kv5_v5_b6_13_20
   have Gv5_1_20 := Lib.hid (Gv5_1_16.out.far2 ap1v5_b6_13.out (a := .int .i64 s8) (b := .slice A8 n8 c8))
   rw [← hw] at Gv5_1_20
   have Gv5_2_20 := Lib.hid (Gv5_2_15.out.far2 ap2v5_b6_13.out (a := .int .i64 s8) (b := .slice A8 n8 c8))
   rw [← hw] at Gv5_2_20
   refine hK.out _ _ ?_ (fun hHeld => ?_)
   · exact Bv5_20.out
   clear Bv5_16 Kv5_v5_b6_1316 Gv5_1_16 Gv5_2_15 hw
   clear hK K
   (try simp only [Act.put, uA, uB, uC])
   refine take_at (i := 8) (v := ?v5_v21) rfl (by kernel_rfl) (by kernel_rfl) (by kernel_rfl) (fun _ _ _ h => h) (Or.inl ⟨by rfl, ?v5_y21⟩) (by assumption) ?v5_r21
   case v5_y21 => (intro w hSw; (try dsimp only at hSw); go_simp; (try with_reducible rfl))
   simp only [Act.put, List.setIfInBounds_toArray, List.set_cons_zero, List.set_cons_succ]
   refine wpAnyH_done (by kernel_rfl) ?_ _
   go_wp2_with fail
   go_meet
   exact ⟨rfl, v5_b6_13, rfl, (show OneB _ _ _ _ _ from ⟨_, _, _, _, ⟨Kv5_v5_b6_13_20.out, lov5_b6_13, Gv5_2_20.out, HCv5_2.out, FRv5_2.out⟩, Bv5_20.out⟩)⟩
   refine cons_at (i := 6) rfl (fun K hK => ?_) AllReadyH.nil
   go_simp
   obtain ⟨v5_w22, hw⟩ : ∃ W', W' = v5_w0.alloc (.cells #[.int .i64 0, .slice none 0 0] 24) := ⟨_, rfl⟩
   obtain ⟨v5_b6_22, hb⟩ : ∃ b, b = v5_w0.heap.size := ⟨_, rfl⟩
   have X22 := Lib.hid (bal (Below.refl v5_w0.heap.size v5_w0) (o := .cells #[.int .i64 0, .slice none 0 0] 24))
   have Kv5_v5_b6_220 := Lib.hid (Blk.new v5_w0 24 #[.int .i64 0, .slice none 0 0])
   rw [← hw] at X22 Kv5_v5_b6_220
   rw [← hb] at Kv5_v5_b6_220
   rw [← hw, ← hb]
   have lov5_b6_22 : w103.heap.size ≤ v5_b6_22 := by rw [hb]; exact Bv5_0.out.size
   have Bv5_23 := Lib.hid (Bv5_0.out.trans (X22.out.mono Bv5_0.out.size))
   refine hK.out _ _ ?_ (fun hHeld => ?_)
   · exact Bv5_23.out
   clear Bv5_0 X22 hw hb
   clear hK K
   (try simp only [Act.put, uA, uB, uC])
   refine wpAnyH_ready (rs := [1]) (by kernel_rfl) (by simp) ?_
   refine cons_at (i := 1) rfl (fun K hK => ?_) AllReadyH.nil
   go_simp
   refine (of_F 1 v5_w22 (by decide) (by decide)).mono ?_
   rintro e v5_w24 ⟨s7, A7, n7, c7, rfl, hc, hg, hf, hb⟩
   try dsimp only
   have X24 := Lib.hid hb
   have Gv5_1_24 := Lib.hid hg
   have HCv5_1 := Lib.hid hc
   have FRv5_1 : Hid (Fresh w103 A7 n7) := fun hp ad e => Nat.le_trans Bv5_23.out.size (hf hp ad e)
   have ap1v5_b6_22 := Lib.hid (show 0 < n7 → ∀ ad, A7 = some ad → ad.block ≠ v5_b6_22 from fun hp ad e => by have := hf hp ad e; have := Kv5_v5_b6_220.out.lt; omega)
   have Bv5_25 := Lib.hid (Bv5_23.out.trans (X24.out.mono Bv5_23.out.size))
   have Kv5_v5_b6_2225 := Lib.hid (Kv5_v5_b6_220.out.below X24.out Kv5_v5_b6_220.out.lt)
   refine hK.out _ _ ?_ (fun hHeld => ?_)
   · exact Bv5_25.out
   clear Bv5_23 Kv5_v5_b6_220 X24 hc hg hf hb
   clear hK K
   (try simp only [Act.put, uA, uB, uC])
   refine wpAnyH_ready (rs := [2]) (by kernel_rfl) (by simp) ?_
   refine cons_at (i := 2) rfl (fun K hK => ?_) AllReadyH.nil
   go_simp
   refine (add_F (Ga104.out.past Bv5_25.out) Gv5_1_24.out (by decide) (by decide) ca c7).mono ?_
   rintro e v5_w26 ⟨s8, A8, n8, c8, rfl, hc, hg, hf, hb⟩
   try dsimp only
   have X26 := Lib.hid hb
   have Gv5_2_26 := Lib.hid hg
   have HCv5_2 := Lib.hid hc
   have FRv5_2 : Hid (Fresh w103 A8 n8) := fun hp ad e => Nat.le_trans Bv5_25.out.size (hf hp ad e)
   have ap2v5_b6_22 := Lib.hid (show 0 < n8 → ∀ ad, A8 = some ad → ad.block ≠ v5_b6_22 from fun hp ad e => by have := hf hp ad e; have := Kv5_v5_b6_2225.out.lt; omega)
   have Bv5_27 := Lib.hid (Bv5_25.out.trans (X26.out.mono Bv5_25.out.size))
   have Kv5_v5_b6_2227 := Lib.hid (Kv5_v5_b6_2225.out.below X26.out Kv5_v5_b6_2225.out.lt)
   have Gv5_1_27 := Lib.hid (Gv5_1_24.out.past X26.out)
   refine hK.out _ _ ?_ (fun hHeld => ?_)
   · exact Bv5_27.out
   clear Bv5_25 Kv5_v5_b6_2225 Gv5_1_24 X26 hc hg hf hb
   clear hK K
   (try simp only [Act.put, uA, uB, uC])
   refine take_at (i := 3) (v := ?v5_v28) rfl (by kernel_rfl) (by kernel_rfl) (by kernel_rfl) (fun _ _ _ h => h) (Or.inl ⟨by rfl, ?v5_y28⟩) (by assumption) ?v5_r28
   case v5_y28 => (intro w hSw; (try dsimp only at hSw); go_simp; (try with_reducible rfl))
   simp only [Act.put, List.setIfInBounds_toArray, List.set_cons_zero, List.set_cons_succ]
   refine take_at (i := 4) (v := ?v5_v29) rfl (by kernel_rfl) (by kernel_rfl) (by kernel_rfl) (fun _ _ _ h => h) (Or.inl ⟨by rfl, ?v5_y29⟩) (by assumption) ?v5_r29
   case v5_y29 => (intro w hSw; (try dsimp only at hSw); go_simp; (try with_reducible rfl))
   simp only [Act.put, List.setIfInBounds_toArray, List.set_cons_zero, List.set_cons_succ]
   refine take_at (i := 5) (v := ?v5_v30) rfl (by kernel_rfl) (by kernel_rfl) (by kernel_rfl) (fun _ _ _ h => h) (Or.inl ⟨by rfl, ?v5_y30⟩) (by assumption) ?v5_r30
   case v5_y30 => (intro w hSw; (try dsimp only at hSw); go_simp; (try with_reducible rfl))
   simp only [Act.put, List.setIfInBounds_toArray, List.set_cons_zero, List.set_cons_succ]
   refine wpAnyH_ready (rs := [7]) (by kernel_rfl) (by simp) ?_
   refine cons_at (i := 7) rfl (fun K hK => ?_) AllReadyH.nil
   obtain ⟨f0, f1, f2, f3⟩ := sm_cells Kv5_v5_b6_2227.out
   go_simp
   clear f0 f1 f2 f3
   obtain ⟨v5_w31, hw⟩ : ∃ W', W' = (v5_w26.setCell ⟨v5_b6_22, 0, none⟩ (.int .i64 s8)).setCell ⟨v5_b6_22, 1, none⟩ (.slice A8 n8 c8) := ⟨_, rfl⟩
   rw [← hw]
   have Bv5_31 := Lib.hid (below_2 Bv5_27.out lov5_b6_22 (u := .int .i64 s8) (v := .slice A8 n8 c8))
   rw [← hw] at Bv5_31
   have Kv5_v5_b6_22_31 := Lib.hid (Kv5_v5_b6_2227.out.set2 (a := .int .i64 s8) (b := .slice A8 n8 c8))
   rw [← hw] at Kv5_v5_b6_22_31
   have Gv5_1_31 := Lib.hid (Gv5_1_27.out.far2 ap1v5_b6_22.out (a := .int .i64 s8) (b := .slice A8 n8 c8))
   rw [← hw] at Gv5_1_31
   have Gv5_2_31 := Lib.hid (Gv5_2_26.out.far2 ap2v5_b6_22.out (a := .int .i64 s8) (b := .slice A8 n8 c8))
   rw [← hw] at Gv5_2_31
   refine hK.out _ _ ?_ (fun hHeld => ?_)
   · exact Bv5_31.out
   clear Bv5_27 Kv5_v5_b6_2227 Gv5_1_27 Gv5_2_26 hw
   clear hK K
   (try simp only [Act.put, uA, uB, uC])
   refine take_at (i := 8) (v := ?v5_v32) rfl (by kernel_rfl) (by kernel_rfl) (by kernel_rfl) (fun _ _ _ h => h) (Or.inl ⟨by rfl, ?v5_y32⟩) (by assumption) ?v5_r32
   case v5_y32 => (intro w hSw; (try dsimp only at hSw); go_simp; (try with_reducible rfl))
   simp only [Act.put, List.setIfInBounds_toArray, List.set_cons_zero, List.set_cons_succ]
   refine wpAnyH_done (by kernel_rfl) ?_ _
   go_wp2_with fail
   go_meet
   exact ⟨rfl, v5_b6_22, rfl, (show OneB _ _ _ _ _ from ⟨_, _, _, _, ⟨Kv5_v5_b6_22_31.out, lov5_b6_22, Gv5_2_31.out, HCv5_2.out, FRv5_2.out⟩, Bv5_31.out⟩)⟩
  case rest => as_aux_lemma =>
   obtain ⟨rfl, bb, rfl, HX⟩ := hcut
   obtain ⟨w105, rfl⟩ : ∃ W : World, W = wc := ⟨_, rfl⟩
   obtain ⟨sb, Ab, nb, cb, ⟨hk, hlo, hg, f1, f2⟩, hb⟩ := HX.out
   have X := Lib.hid hb
   have Kb := Lib.hid hk
   have Gb := Lib.hid hg
   (try dsimp only [frC] at Kb)
   clear HX hk hlo hg f1 f2 hb
   clear za0 za1
   have B106 := Lib.hid (B104.out.trans (X.out.mono B104.out.size))
   have Kf106 := Lib.hid (Kf104.out.below X.out Kf104.out.lt)
   have Ka106 := Lib.hid (Ka.out.below X.out Ka.out.lt)
   have Gf106 := Lib.hid (Gf104.out.past X.out)
   have Ga106 := Lib.hid (Ga104.out.past X.out)
   clear X B104 Kf104 Ka Gf104 Ga104
   go_upto_region 6 with (fail)
   obtain ⟨za0, za1, -, -⟩ := sm_cells Ka106.out
   go_cut [9, 10] (fun p1 p2 wc => p2 = .int .i64 0 ∧ ∃ b, p1 = .pointer (some ⟨b, 0, none⟩) ∧ Hid (OneF w105 wc b 30 (ratio xa.floor 1)))
   case first => as_aux_lemma =>
    have HC := Lib.hid (fun (w' : World) (h : Below w105.heap.size w105 w') => (⟨(h.cell (p := ⟨ba, 0, none⟩) (World.block_lt_of_cell? _ _ za0)).trans za0, (h.cell (p := ⟨ba, 1, none⟩) (World.block_lt_of_cell? _ _ za1)).trans za1⟩ : w'.cell? ⟨ba, 0, none⟩ = some (.int .i64 sa) ∧ w'.cell? ⟨ba, 1, none⟩ = some (.slice Aa na ca)))
    clear za0 za1
    have Bv6_0 := Lib.hid (Below.refl w105.heap.size w105).drew
    refine wp_region_held_drew (S := fun w' => Below w105.heap.size w105 w') (by kernel_rfl) Bv6_0.out (fun hHeld => ?_)
    obtain ⟨v6_w0, hw⟩ : ∃ W, W = w105.drew := ⟨_, rfl⟩
    rw [← hw] at hHeld Bv6_0 ⊢
    clear hw
    refine take_at (i := 0) (v := ?v6_v1) rfl (by kernel_rfl) (by kernel_rfl) (by kernel_rfl) (fun _ _ _ h => h) (Or.inl ⟨by rfl, ?v6_y1⟩) (by assumption) ?v6_r1
    case v6_y1 => (intro w hSw; (try dsimp only at hSw); obtain ⟨cc0, cc1⟩ := HC.out _ hSw; go_simp; (try with_reducible rfl))
    simp only [Act.put, List.setIfInBounds_toArray, List.set_cons_zero, List.set_cons_succ]
    refine wpAnyH_ready (rs := [1, 6]) (by kernel_rfl) (by simp) ?_
    refine cons_at (i := 1) rfl (fun K hK => ?_) ?_
    go_simp
    refine (of_F 1 v6_w0 (by decide) (by decide)).mono ?_
    rintro e v6_w2 ⟨s7, A7, n7, c7, rfl, hc, hg, hf, hb⟩
    try dsimp only
    have X2 := Lib.hid hb
    have Gv6_1_2 := Lib.hid hg
    have HCv6_1 := Lib.hid hc
    have FRv6_1 : Hid (Fresh w105 A7 n7) := fun hp ad e => Nat.le_trans Bv6_0.out.size (hf hp ad e)
    have Bv6_3 := Lib.hid (Bv6_0.out.trans (X2.out.mono Bv6_0.out.size))
    refine hK.out _ _ ?_ (fun hHeld => ?_)
    · exact Bv6_3.out
    clear Bv6_0 X2 hc hg hf hb
    clear hK K
    (try simp only [Act.put, uA, uB, uC])
    refine wpAnyH_ready (rs := [2, 6]) (by kernel_rfl) (by simp) ?_
    refine cons_at (i := 2) rfl (fun K hK => ?_) ?_
    go_simp
    refine (new_R (k := 30) ⟨sa, Aa, na, ca, s7, A7, n7, c7⟩ (Ga106.out.past Bv6_3.out) (Gv6_1_2.out.more (by decide)) (by decide) (HT.out.on (B106.out.trans (Bv6_3.out.mono B106.out.size))) (by decide)).mono ?_
    rintro e v6_w4 ⟨⟨spv6_2, Apv6_2, npv6_2, cpv6_2, sqv6_2, Aqv6_2, nqv6_2, cqv6_2⟩, rfl, hc1, hc2, hf, f1, f2, hb⟩
    try dsimp only [frV]
    try dsimp only
    have X4 := Lib.hid hb
    have FGv6_2_4 := Lib.hid hf
    have FAv6_2 : Hid (Fresh w105 Apv6_2 npv6_2) := fun hp ad e => Nat.le_trans Bv6_3.out.size (f1 hp ad e)
    have FBv6_2 : Hid (Fresh w105 Aqv6_2 nqv6_2) := fun hp ad e => Nat.le_trans Bv6_3.out.size (f2 hp ad e)
    have HCAv6_2 := Lib.hid hc1
    have HCBv6_2 := Lib.hid hc2
    have Bv6_5 := Lib.hid (Bv6_3.out.trans (X4.out.mono Bv6_3.out.size))
    have Gv6_1_5 := Lib.hid (Gv6_1_2.out.past X4.out)
    refine hK.out _ _ ?_ (fun hHeld => ?_)
    · exact Bv6_5.out
    clear Bv6_3 Gv6_1_2 X4 hc1 hc2 hf f1 f2 hb
    clear hK K
    (try simp only [Act.put, uA, uB, uC])
    refine take_at (i := 3) (v := ?v6_v6) rfl (by kernel_rfl) (by kernel_rfl) (by kernel_rfl) (fun _ _ _ h => h) (Or.inl ⟨by rfl, ?v6_y6⟩) (by assumption) ?v6_r6
    case v6_y6 => (intro w hSw; (try dsimp only at hSw); go_simp; (try with_reducible rfl))
    simp only [Act.put, List.setIfInBounds_toArray, List.set_cons_zero, List.set_cons_succ]
    refine take_at (i := 4) (v := ?v6_v7) rfl (by kernel_rfl) (by kernel_rfl) (by kernel_rfl) (fun _ _ _ h => h) (Or.inl ⟨by rfl, ?v6_y7⟩) (by assumption) ?v6_r7
    case v6_y7 => (intro w hSw; (try dsimp only at hSw); go_simp; (try with_reducible rfl))
    simp only [Act.put, List.setIfInBounds_toArray, List.set_cons_zero, List.set_cons_succ]
    refine take_at (i := 5) (v := ?v6_v8) rfl (by kernel_rfl) (by kernel_rfl) (by kernel_rfl) (fun _ _ _ h => h) (Or.inl ⟨by rfl, ?v6_y8⟩) (by assumption) ?v6_r8
    case v6_y8 => (intro w hSw; (try dsimp only at hSw); go_simp; (try with_reducible rfl))
    simp only [Act.put, List.setIfInBounds_toArray, List.set_cons_zero, List.set_cons_succ]
    refine wpAnyH_ready (rs := [6]) (by kernel_rfl) (by simp) ?_
    refine cons_at (i := 6) rfl (fun K hK => ?_) AllReadyH.nil
    go_simp
    obtain ⟨v6_w9, hw⟩ : ∃ W', W' = v6_w4.alloc (.cells #[.int .i64 0, .slice none 0 0, .int .i64 0, .slice none 0 0] 26) := ⟨_, rfl⟩
    obtain ⟨v6_b6_9, hb⟩ : ∃ b, b = v6_w4.heap.size := ⟨_, rfl⟩
    have X9 := Lib.hid (bal (Below.refl v6_w4.heap.size v6_w4) (o := .cells #[.int .i64 0, .slice none 0 0, .int .i64 0, .slice none 0 0] 26))
    have Kv6_v6_b6_90 := Lib.hid (Blk.new v6_w4 26 #[.int .i64 0, .slice none 0 0, .int .i64 0, .slice none 0 0])
    rw [← hw] at X9 Kv6_v6_b6_90
    rw [← hb] at Kv6_v6_b6_90
    rw [← hw, ← hb]
    have lov6_b6_9 : w105.heap.size ≤ v6_b6_9 := by rw [hb]; exact Bv6_5.out.size
    have ap1v6_b6_9 := Lib.hid (show 0 < n7 → ∀ ad, A7 = some ad → ad.block ≠ v6_b6_9 from fun hp ad e => by rw [hb]; exact Nat.ne_of_lt (Gv6_1_5.out.lt hp e))
    have of2v6_b6_9 := Lib.hid (FGv6_2_4.out.off_new (g := v6_b6_9) (by rw [hb]; exact Nat.le_refl _))
    have Bv6_10 := Lib.hid (Bv6_5.out.trans (X9.out.mono Bv6_5.out.size))
    have Gv6_1_10 := Lib.hid (Gv6_1_5.out.past X9.out)
    have FGv6_2_10 := Lib.hid (FGv6_2_4.out.past X9.out)
    refine hK.out _ _ ?_ (fun hHeld => ?_)
    · exact Bv6_10.out
    clear Bv6_5 Gv6_1_5 FGv6_2_4 X9 hw hb
    clear hK K
    (try simp only [Act.put, uA, uB, uC])
    refine wpAnyH_ready (rs := [7]) (by kernel_rfl) (by simp) ?_
    refine cons_at (i := 7) rfl (fun K hK => ?_) AllReadyH.nil
    obtain ⟨f0, f1, f2, f3, f4, f5, f6, f7⟩ := fr_cells Kv6_v6_b6_90.out
    go_simp
    clear f0 f1 f2 f3 f4 f5 f6 f7
    obtain ⟨v6_w11, hw⟩ : ∃ W', W' = (((v6_w9.setCell ⟨v6_b6_9, 0, none⟩ (.int .i64 spv6_2)).setCell ⟨v6_b6_9, 1, none⟩ (.slice Apv6_2 npv6_2 cpv6_2)).setCell ⟨v6_b6_9, 2, none⟩ (.int .i64 sqv6_2)).setCell ⟨v6_b6_9, 3, none⟩ (.slice Aqv6_2 nqv6_2 cqv6_2) := ⟨_, rfl⟩
    rw [← hw]
    have Bv6_11 := Lib.hid (below_4 Bv6_10.out lov6_b6_9 (u := .int .i64 spv6_2) (v := .slice Apv6_2 npv6_2 cpv6_2) (x := .int .i64 sqv6_2) (y := .slice Aqv6_2 nqv6_2 cqv6_2))
    rw [← hw] at Bv6_11
    have Kv6_v6_b6_9_11 := Lib.hid (Kv6_v6_b6_90.out.set4 (a := .int .i64 spv6_2) (b := .slice Apv6_2 npv6_2 cpv6_2) (c := .int .i64 sqv6_2) (d := .slice Aqv6_2 nqv6_2 cqv6_2))
    rw [← hw] at Kv6_v6_b6_9_11
    have FGv6_2_11 := Lib.hid (FGv6_2_10.out.far4 of2v6_b6_9.out (a := .int .i64 spv6_2) (b := .slice Apv6_2 npv6_2 cpv6_2) (c := .int .i64 sqv6_2) (d := .slice Aqv6_2 nqv6_2 cqv6_2))
    rw [← hw] at FGv6_2_11
    refine hK.out _ _ ?_ (fun hHeld => ?_)
    · exact Bv6_11.out
    clear Bv6_10 Kv6_v6_b6_90 FGv6_2_10 hw
    clear hK K
    (try simp only [Act.put, uA, uB, uC])
    refine take_at (i := 8) (v := ?v6_v12) rfl (by kernel_rfl) (by kernel_rfl) (by kernel_rfl) (fun _ _ _ h => h) (Or.inl ⟨by rfl, ?v6_y12⟩) (by assumption) ?v6_r12
    case v6_y12 => (intro w hSw; (try dsimp only at hSw); go_simp; (try with_reducible rfl))
    simp only [Act.put, List.setIfInBounds_toArray, List.set_cons_zero, List.set_cons_succ]
    refine wpAnyH_done (by kernel_rfl) ?_ _
    go_wp2_with fail
    go_meet
    exact ⟨rfl, v6_b6_9, rfl, (show OneF _ _ _ _ _ from ⟨⟨spv6_2, Apv6_2, npv6_2, cpv6_2, sqv6_2, Aqv6_2, nqv6_2, cqv6_2⟩, Kv6_v6_b6_9_11.out, lov6_b6_9, FGv6_2_11.out, FAv6_2.out, FBv6_2.out, of2v6_b6_9.out, Bv6_11.out⟩)⟩
    refine cons_at (i := 6) rfl (fun K hK => ?_) AllReadyH.nil
    go_simp
    obtain ⟨v6_w13, hw⟩ : ∃ W', W' = v6_w2.alloc (.cells #[.int .i64 0, .slice none 0 0, .int .i64 0, .slice none 0 0] 26) := ⟨_, rfl⟩
    obtain ⟨v6_b6_13, hb⟩ : ∃ b, b = v6_w2.heap.size := ⟨_, rfl⟩
    have X13 := Lib.hid (bal (Below.refl v6_w2.heap.size v6_w2) (o := .cells #[.int .i64 0, .slice none 0 0, .int .i64 0, .slice none 0 0] 26))
    have Kv6_v6_b6_130 := Lib.hid (Blk.new v6_w2 26 #[.int .i64 0, .slice none 0 0, .int .i64 0, .slice none 0 0])
    rw [← hw] at X13 Kv6_v6_b6_130
    rw [← hb] at Kv6_v6_b6_130
    rw [← hw, ← hb]
    have lov6_b6_13 : w105.heap.size ≤ v6_b6_13 := by rw [hb]; exact Bv6_3.out.size
    have ap1v6_b6_13 := Lib.hid (show 0 < n7 → ∀ ad, A7 = some ad → ad.block ≠ v6_b6_13 from fun hp ad e => by rw [hb]; exact Nat.ne_of_lt (Gv6_1_2.out.lt hp e))
    have Bv6_14 := Lib.hid (Bv6_3.out.trans (X13.out.mono Bv6_3.out.size))
    have Gv6_1_14 := Lib.hid (Gv6_1_2.out.past X13.out)
    refine hK.out _ _ ?_ (fun hHeld => ?_)
    · exact Bv6_14.out
    clear Bv6_3 Gv6_1_2 X13 hw hb
    clear hK K
    (try simp only [Act.put, uA, uB, uC])
    refine wpAnyH_ready (rs := [2]) (by kernel_rfl) (by simp) ?_
    refine cons_at (i := 2) rfl (fun K hK => ?_) AllReadyH.nil
    go_simp
    refine (new_R (k := 30) ⟨sa, Aa, na, ca, s7, A7, n7, c7⟩ (Ga106.out.past Bv6_14.out) (Gv6_1_14.out.more (by decide)) (by decide) (HT.out.on (B106.out.trans (Bv6_14.out.mono B106.out.size))) (by decide)).mono ?_
    rintro e v6_w15 ⟨⟨spv6_2, Apv6_2, npv6_2, cpv6_2, sqv6_2, Aqv6_2, nqv6_2, cqv6_2⟩, rfl, hc1, hc2, hf, f1, f2, hb⟩
    try dsimp only [frV]
    try dsimp only
    have X15 := Lib.hid hb
    have FGv6_2_15 := Lib.hid hf
    have FAv6_2 : Hid (Fresh w105 Apv6_2 npv6_2) := fun hp ad e => Nat.le_trans Bv6_14.out.size (f1 hp ad e)
    have FBv6_2 : Hid (Fresh w105 Aqv6_2 nqv6_2) := fun hp ad e => Nat.le_trans Bv6_14.out.size (f2 hp ad e)
    have HCAv6_2 := Lib.hid hc1
    have HCBv6_2 := Lib.hid hc2
    have of2v6_b6_13 := Lib.hid (off_old f1 f2 Kv6_v6_b6_130.out.lt)
    have Bv6_16 := Lib.hid (Bv6_14.out.trans (X15.out.mono Bv6_14.out.size))
    have Kv6_v6_b6_1316 := Lib.hid (Kv6_v6_b6_130.out.below X15.out Kv6_v6_b6_130.out.lt)
    have Gv6_1_16 := Lib.hid (Gv6_1_14.out.past X15.out)
    refine hK.out _ _ ?_ (fun hHeld => ?_)
    · exact Bv6_16.out
    clear Bv6_14 Kv6_v6_b6_130 Gv6_1_14 X15 hc1 hc2 hf f1 f2 hb
    clear hK K
    (try simp only [Act.put, uA, uB, uC])
    refine take_at (i := 3) (v := ?v6_v17) rfl (by kernel_rfl) (by kernel_rfl) (by kernel_rfl) (fun _ _ _ h => h) (Or.inl ⟨by rfl, ?v6_y17⟩) (by assumption) ?v6_r17
    case v6_y17 => (intro w hSw; (try dsimp only at hSw); go_simp; (try with_reducible rfl))
    simp only [Act.put, List.setIfInBounds_toArray, List.set_cons_zero, List.set_cons_succ]
    refine take_at (i := 4) (v := ?v6_v18) rfl (by kernel_rfl) (by kernel_rfl) (by kernel_rfl) (fun _ _ _ h => h) (Or.inl ⟨by rfl, ?v6_y18⟩) (by assumption) ?v6_r18
    case v6_y18 => (intro w hSw; (try dsimp only at hSw); go_simp; (try with_reducible rfl))
    simp only [Act.put, List.setIfInBounds_toArray, List.set_cons_zero, List.set_cons_succ]
    refine take_at (i := 5) (v := ?v6_v19) rfl (by kernel_rfl) (by kernel_rfl) (by kernel_rfl) (fun _ _ _ h => h) (Or.inl ⟨by rfl, ?v6_y19⟩) (by assumption) ?v6_r19
    case v6_y19 => (intro w hSw; (try dsimp only at hSw); go_simp; (try with_reducible rfl))
    simp only [Act.put, List.setIfInBounds_toArray, List.set_cons_zero, List.set_cons_succ]
    refine wpAnyH_ready (rs := [7]) (by kernel_rfl) (by simp) ?_
    refine cons_at (i := 7) rfl (fun K hK => ?_) AllReadyH.nil
    obtain ⟨f0, f1, f2, f3, f4, f5, f6, f7⟩ := fr_cells Kv6_v6_b6_1316.out
    go_simp
    clear f0 f1 f2 f3 f4 f5 f6 f7
    obtain ⟨v6_w20, hw⟩ : ∃ W', W' = (((v6_w15.setCell ⟨v6_b6_13, 0, none⟩ (.int .i64 spv6_2)).setCell ⟨v6_b6_13, 1, none⟩ (.slice Apv6_2 npv6_2 cpv6_2)).setCell ⟨v6_b6_13, 2, none⟩ (.int .i64 sqv6_2)).setCell ⟨v6_b6_13, 3, none⟩ (.slice Aqv6_2 nqv6_2 cqv6_2) := ⟨_, rfl⟩
    rw [← hw]
    have Bv6_20 := Lib.hid (below_4 Bv6_16.out lov6_b6_13 (u := .int .i64 spv6_2) (v := .slice Apv6_2 npv6_2 cpv6_2) (x := .int .i64 sqv6_2) (y := .slice Aqv6_2 nqv6_2 cqv6_2))
    rw [← hw] at Bv6_20
    have Kv6_v6_b6_13_20 := Lib.hid (Kv6_v6_b6_1316.out.set4 (a := .int .i64 spv6_2) (b := .slice Apv6_2 npv6_2 cpv6_2) (c := .int .i64 sqv6_2) (d := .slice Aqv6_2 nqv6_2 cqv6_2))
    rw [← hw] at Kv6_v6_b6_13_20
    have FGv6_2_20 := Lib.hid (FGv6_2_15.out.far4 of2v6_b6_13.out (a := .int .i64 spv6_2) (b := .slice Apv6_2 npv6_2 cpv6_2) (c := .int .i64 sqv6_2) (d := .slice Aqv6_2 nqv6_2 cqv6_2))
    rw [← hw] at FGv6_2_20
    refine hK.out _ _ ?_ (fun hHeld => ?_)
    · exact Bv6_20.out
    clear Bv6_16 Kv6_v6_b6_1316 FGv6_2_15 hw
    clear hK K
    (try simp only [Act.put, uA, uB, uC])
    refine take_at (i := 8) (v := ?v6_v21) rfl (by kernel_rfl) (by kernel_rfl) (by kernel_rfl) (fun _ _ _ h => h) (Or.inl ⟨by rfl, ?v6_y21⟩) (by assumption) ?v6_r21
    case v6_y21 => (intro w hSw; (try dsimp only at hSw); go_simp; (try with_reducible rfl))
    simp only [Act.put, List.setIfInBounds_toArray, List.set_cons_zero, List.set_cons_succ]
    refine wpAnyH_done (by kernel_rfl) ?_ _
    go_wp2_with fail
    go_meet
    exact ⟨rfl, v6_b6_13, rfl, (show OneF _ _ _ _ _ from ⟨⟨spv6_2, Apv6_2, npv6_2, cpv6_2, sqv6_2, Aqv6_2, nqv6_2, cqv6_2⟩, Kv6_v6_b6_13_20.out, lov6_b6_13, FGv6_2_20.out, FAv6_2.out, FBv6_2.out, of2v6_b6_13.out, Bv6_20.out⟩)⟩
    refine cons_at (i := 6) rfl (fun K hK => ?_) AllReadyH.nil
    go_simp
    obtain ⟨v6_w22, hw⟩ : ∃ W', W' = v6_w0.alloc (.cells #[.int .i64 0, .slice none 0 0, .int .i64 0, .slice none 0 0] 26) := ⟨_, rfl⟩
    obtain ⟨v6_b6_22, hb⟩ : ∃ b, b = v6_w0.heap.size := ⟨_, rfl⟩
    have X22 := Lib.hid (bal (Below.refl v6_w0.heap.size v6_w0) (o := .cells #[.int .i64 0, .slice none 0 0, .int .i64 0, .slice none 0 0] 26))
    have Kv6_v6_b6_220 := Lib.hid (Blk.new v6_w0 26 #[.int .i64 0, .slice none 0 0, .int .i64 0, .slice none 0 0])
    rw [← hw] at X22 Kv6_v6_b6_220
    rw [← hb] at Kv6_v6_b6_220
    rw [← hw, ← hb]
    have lov6_b6_22 : w105.heap.size ≤ v6_b6_22 := by rw [hb]; exact Bv6_0.out.size
    have Bv6_23 := Lib.hid (Bv6_0.out.trans (X22.out.mono Bv6_0.out.size))
    refine hK.out _ _ ?_ (fun hHeld => ?_)
    · exact Bv6_23.out
    clear Bv6_0 X22 hw hb
    clear hK K
    (try simp only [Act.put, uA, uB, uC])
    refine wpAnyH_ready (rs := [1]) (by kernel_rfl) (by simp) ?_
    refine cons_at (i := 1) rfl (fun K hK => ?_) AllReadyH.nil
    go_simp
    refine (of_F 1 v6_w22 (by decide) (by decide)).mono ?_
    rintro e v6_w24 ⟨s7, A7, n7, c7, rfl, hc, hg, hf, hb⟩
    try dsimp only
    have X24 := Lib.hid hb
    have Gv6_1_24 := Lib.hid hg
    have HCv6_1 := Lib.hid hc
    have FRv6_1 : Hid (Fresh w105 A7 n7) := fun hp ad e => Nat.le_trans Bv6_23.out.size (hf hp ad e)
    have ap1v6_b6_22 := Lib.hid (show 0 < n7 → ∀ ad, A7 = some ad → ad.block ≠ v6_b6_22 from fun hp ad e => by have := hf hp ad e; have := Kv6_v6_b6_220.out.lt; omega)
    have Bv6_25 := Lib.hid (Bv6_23.out.trans (X24.out.mono Bv6_23.out.size))
    have Kv6_v6_b6_2225 := Lib.hid (Kv6_v6_b6_220.out.below X24.out Kv6_v6_b6_220.out.lt)
    refine hK.out _ _ ?_ (fun hHeld => ?_)
    · exact Bv6_25.out
    clear Bv6_23 Kv6_v6_b6_220 X24 hc hg hf hb
    clear hK K
    (try simp only [Act.put, uA, uB, uC])
    refine wpAnyH_ready (rs := [2]) (by kernel_rfl) (by simp) ?_
    refine cons_at (i := 2) rfl (fun K hK => ?_) AllReadyH.nil
    go_simp
    refine (new_R (k := 30) ⟨sa, Aa, na, ca, s7, A7, n7, c7⟩ (Ga106.out.past Bv6_25.out) (Gv6_1_24.out.more (by decide)) (by decide) (HT.out.on (B106.out.trans (Bv6_25.out.mono B106.out.size))) (by decide)).mono ?_
    rintro e v6_w26 ⟨⟨spv6_2, Apv6_2, npv6_2, cpv6_2, sqv6_2, Aqv6_2, nqv6_2, cqv6_2⟩, rfl, hc1, hc2, hf, f1, f2, hb⟩
    try dsimp only [frV]
    try dsimp only
    have X26 := Lib.hid hb
    have FGv6_2_26 := Lib.hid hf
    have FAv6_2 : Hid (Fresh w105 Apv6_2 npv6_2) := fun hp ad e => Nat.le_trans Bv6_25.out.size (f1 hp ad e)
    have FBv6_2 : Hid (Fresh w105 Aqv6_2 nqv6_2) := fun hp ad e => Nat.le_trans Bv6_25.out.size (f2 hp ad e)
    have HCAv6_2 := Lib.hid hc1
    have HCBv6_2 := Lib.hid hc2
    have of2v6_b6_22 := Lib.hid (off_old f1 f2 Kv6_v6_b6_2225.out.lt)
    have Bv6_27 := Lib.hid (Bv6_25.out.trans (X26.out.mono Bv6_25.out.size))
    have Kv6_v6_b6_2227 := Lib.hid (Kv6_v6_b6_2225.out.below X26.out Kv6_v6_b6_2225.out.lt)
    have Gv6_1_27 := Lib.hid (Gv6_1_24.out.past X26.out)
    refine hK.out _ _ ?_ (fun hHeld => ?_)
    · exact Bv6_27.out
    clear Bv6_25 Kv6_v6_b6_2225 Gv6_1_24 X26 hc1 hc2 hf f1 f2 hb
    clear hK K
    (try simp only [Act.put, uA, uB, uC])
    refine take_at (i := 3) (v := ?v6_v28) rfl (by kernel_rfl) (by kernel_rfl) (by kernel_rfl) (fun _ _ _ h => h) (Or.inl ⟨by rfl, ?v6_y28⟩) (by assumption) ?v6_r28
    case v6_y28 => (intro w hSw; (try dsimp only at hSw); go_simp; (try with_reducible rfl))
    simp only [Act.put, List.setIfInBounds_toArray, List.set_cons_zero, List.set_cons_succ]
    refine take_at (i := 4) (v := ?v6_v29) rfl (by kernel_rfl) (by kernel_rfl) (by kernel_rfl) (fun _ _ _ h => h) (Or.inl ⟨by rfl, ?v6_y29⟩) (by assumption) ?v6_r29
    case v6_y29 => (intro w hSw; (try dsimp only at hSw); go_simp; (try with_reducible rfl))
    simp only [Act.put, List.setIfInBounds_toArray, List.set_cons_zero, List.set_cons_succ]
    refine take_at (i := 5) (v := ?v6_v30) rfl (by kernel_rfl) (by kernel_rfl) (by kernel_rfl) (fun _ _ _ h => h) (Or.inl ⟨by rfl, ?v6_y30⟩) (by assumption) ?v6_r30
    case v6_y30 => (intro w hSw; (try dsimp only at hSw); go_simp; (try with_reducible rfl))
    simp only [Act.put, List.setIfInBounds_toArray, List.set_cons_zero, List.set_cons_succ]
    refine wpAnyH_ready (rs := [7]) (by kernel_rfl) (by simp) ?_
    refine cons_at (i := 7) rfl (fun K hK => ?_) AllReadyH.nil
    obtain ⟨f0, f1, f2, f3, f4, f5, f6, f7⟩ := fr_cells Kv6_v6_b6_2227.out
    go_simp
    clear f0 f1 f2 f3 f4 f5 f6 f7
    obtain ⟨v6_w31, hw⟩ : ∃ W', W' = (((v6_w26.setCell ⟨v6_b6_22, 0, none⟩ (.int .i64 spv6_2)).setCell ⟨v6_b6_22, 1, none⟩ (.slice Apv6_2 npv6_2 cpv6_2)).setCell ⟨v6_b6_22, 2, none⟩ (.int .i64 sqv6_2)).setCell ⟨v6_b6_22, 3, none⟩ (.slice Aqv6_2 nqv6_2 cqv6_2) := ⟨_, rfl⟩
    rw [← hw]
    have Bv6_31 := Lib.hid (below_4 Bv6_27.out lov6_b6_22 (u := .int .i64 spv6_2) (v := .slice Apv6_2 npv6_2 cpv6_2) (x := .int .i64 sqv6_2) (y := .slice Aqv6_2 nqv6_2 cqv6_2))
    rw [← hw] at Bv6_31
    have Kv6_v6_b6_22_31 := Lib.hid (Kv6_v6_b6_2227.out.set4 (a := .int .i64 spv6_2) (b := .slice Apv6_2 npv6_2 cpv6_2) (c := .int .i64 sqv6_2) (d := .slice Aqv6_2 nqv6_2 cqv6_2))
    rw [← hw] at Kv6_v6_b6_22_31
    have FGv6_2_31 := Lib.hid (FGv6_2_26.out.far4 of2v6_b6_22.out (a := .int .i64 spv6_2) (b := .slice Apv6_2 npv6_2 cpv6_2) (c := .int .i64 sqv6_2) (d := .slice Aqv6_2 nqv6_2 cqv6_2))
    rw [← hw] at FGv6_2_31
    refine hK.out _ _ ?_ (fun hHeld => ?_)
    · exact Bv6_31.out
    clear Bv6_27 Kv6_v6_b6_2227 FGv6_2_26 hw
    clear hK K
    (try simp only [Act.put, uA, uB, uC])
    refine take_at (i := 8) (v := ?v6_v32) rfl (by kernel_rfl) (by kernel_rfl) (by kernel_rfl) (fun _ _ _ h => h) (Or.inl ⟨by rfl, ?v6_y32⟩) (by assumption) ?v6_r32
    case v6_y32 => (intro w hSw; (try dsimp only at hSw); go_simp; (try with_reducible rfl))
    simp only [Act.put, List.setIfInBounds_toArray, List.set_cons_zero, List.set_cons_succ]
    refine wpAnyH_done (by kernel_rfl) ?_ _
    go_wp2_with fail
    go_meet
    exact ⟨rfl, v6_b6_22, rfl, (show OneF _ _ _ _ _ from ⟨⟨spv6_2, Apv6_2, npv6_2, cpv6_2, sqv6_2, Aqv6_2, nqv6_2, cqv6_2⟩, Kv6_v6_b6_22_31.out, lov6_b6_22, FGv6_2_31.out, FAv6_2.out, FBv6_2.out, of2v6_b6_22.out, Bv6_31.out⟩)⟩
   case rest => as_aux_lemma =>
    obtain ⟨rfl, bx, rfl, HX⟩ := hcut
    obtain ⟨w107, rfl⟩ : ∃ W : World, W = wc := ⟨_, rfl⟩
    obtain ⟨⟨s1x, A1x, n1x, c1x, s2x, A2x, n2x, c2x⟩, hk, hlo, hg, f1, f2, ho, hb⟩ := HX.out
    have X := Lib.hid hb
    have Kx := Lib.hid hk
    have Gx := Lib.hid hg
    (try dsimp only [frC] at Kx)
    clear HX hk hlo hg f1 f2 ho hb
    clear za0 za1
    have B108 := Lib.hid (B106.out.trans (X.out.mono B106.out.size))
    have Kf108 := Lib.hid (Kf106.out.below X.out Kf106.out.lt)
    have Ka108 := Lib.hid (Ka106.out.below X.out Ka106.out.lt)
    have Kb108 := Lib.hid (Kb.out.below X.out Kb.out.lt)
    have Gf108 := Lib.hid (Gf106.out.past X.out)
    have Ga108 := Lib.hid (Ga106.out.past X.out)
    have Gb108 := Lib.hid (Gb.out.past X.out)
    clear X B106 Kf106 Ka106 Kb Gf106 Ga106 Gb
    go_upto_region 7 with (fail)
    obtain ⟨zb0, zb1, -, -⟩ := sm_cells Kb108.out
    go_cut [11, 12] (fun p1 p2 wc => p2 = .int .i64 0 ∧ ∃ b, p1 = .pointer (some ⟨b, 0, none⟩) ∧ Hid (OneF w107 wc b 35 (ratio (xa.floor + 1) 1)))
    case first => as_aux_lemma =>
     have HC := Lib.hid (fun (w' : World) (h : Below w107.heap.size w107 w') => (⟨(h.cell (p := ⟨bb, 0, none⟩) (World.block_lt_of_cell? _ _ zb0)).trans zb0, (h.cell (p := ⟨bb, 1, none⟩) (World.block_lt_of_cell? _ _ zb1)).trans zb1⟩ : w'.cell? ⟨bb, 0, none⟩ = some (.int .i64 sb) ∧ w'.cell? ⟨bb, 1, none⟩ = some (.slice Ab nb cb)))
     clear zb0 zb1
     have Bv7_0 := Lib.hid (Below.refl w107.heap.size w107).drew
     refine wp_region_held_drew (S := fun w' => Below w107.heap.size w107 w') (by kernel_rfl) Bv7_0.out (fun hHeld => ?_)
     obtain ⟨v7_w0, hw⟩ : ∃ W, W = w107.drew := ⟨_, rfl⟩
     rw [← hw] at hHeld Bv7_0 ⊢
     clear hw
     refine take_at (i := 0) (v := ?v7_v1) rfl (by kernel_rfl) (by kernel_rfl) (by kernel_rfl) (fun _ _ _ h => h) (Or.inl ⟨by rfl, ?v7_y1⟩) (by assumption) ?v7_r1
     case v7_y1 => (intro w hSw; (try dsimp only at hSw); obtain ⟨cc0, cc1⟩ := HC.out _ hSw; go_simp; (try with_reducible rfl))
     simp only [Act.put, List.setIfInBounds_toArray, List.set_cons_zero, List.set_cons_succ]
     refine wpAnyH_ready (rs := [1, 6]) (by kernel_rfl) (by simp) ?_
     refine cons_at (i := 1) rfl (fun K hK => ?_) ?_
     go_simp
     refine (of_F 1 v7_w0 (by decide) (by decide)).mono ?_
     rintro e v7_w2 ⟨s7, A7, n7, c7, rfl, hc, hg, hf, hb⟩
     try dsimp only
     have X2 := Lib.hid hb
     have Gv7_1_2 := Lib.hid hg
     have HCv7_1 := Lib.hid hc
     have FRv7_1 : Hid (Fresh w107 A7 n7) := fun hp ad e => Nat.le_trans Bv7_0.out.size (hf hp ad e)
     have Bv7_3 := Lib.hid (Bv7_0.out.trans (X2.out.mono Bv7_0.out.size))
     refine hK.out _ _ ?_ (fun hHeld => ?_)
     · exact Bv7_3.out
     clear Bv7_0 X2 hc hg hf hb
     clear hK K
     (try simp only [Act.put, uA, uB, uC])
     refine wpAnyH_ready (rs := [2, 6]) (by kernel_rfl) (by simp) ?_
     refine cons_at (i := 2) rfl (fun K hK => ?_) ?_
     go_simp
     refine (new_R (k := 35) ⟨sb, Ab, nb, cb, s7, A7, n7, c7⟩ (Gb108.out.past Bv7_3.out) (Gv7_1_2.out.more (by decide)) (by decide) (HT.out.on (B108.out.trans (Bv7_3.out.mono B108.out.size))) (by decide)).mono ?_
     rintro e v7_w4 ⟨⟨spv7_2, Apv7_2, npv7_2, cpv7_2, sqv7_2, Aqv7_2, nqv7_2, cqv7_2⟩, rfl, hc1, hc2, hf, f1, f2, hb⟩
     try dsimp only [frV]
     try dsimp only
     have X4 := Lib.hid hb
     have FGv7_2_4 := Lib.hid hf
     have FAv7_2 : Hid (Fresh w107 Apv7_2 npv7_2) := fun hp ad e => Nat.le_trans Bv7_3.out.size (f1 hp ad e)
     have FBv7_2 : Hid (Fresh w107 Aqv7_2 nqv7_2) := fun hp ad e => Nat.le_trans Bv7_3.out.size (f2 hp ad e)
     have HCAv7_2 := Lib.hid hc1
     have HCBv7_2 := Lib.hid hc2
     have Bv7_5 := Lib.hid (Bv7_3.out.trans (X4.out.mono Bv7_3.out.size))
     have Gv7_1_5 := Lib.hid (Gv7_1_2.out.past X4.out)
     refine hK.out _ _ ?_ (fun hHeld => ?_)
     · exact Bv7_5.out
     clear Bv7_3 Gv7_1_2 X4 hc1 hc2 hf f1 f2 hb
     clear hK K
     (try simp only [Act.put, uA, uB, uC])
     refine take_at (i := 3) (v := ?v7_v6) rfl (by kernel_rfl) (by kernel_rfl) (by kernel_rfl) (fun _ _ _ h => h) (Or.inl ⟨by rfl, ?v7_y6⟩) (by assumption) ?v7_r6
     case v7_y6 => (intro w hSw; (try dsimp only at hSw); go_simp; (try with_reducible rfl))
     simp only [Act.put, List.setIfInBounds_toArray, List.set_cons_zero, List.set_cons_succ]
     refine take_at (i := 4) (v := ?v7_v7) rfl (by kernel_rfl) (by kernel_rfl) (by kernel_rfl) (fun _ _ _ h => h) (Or.inl ⟨by rfl, ?v7_y7⟩) (by assumption) ?v7_r7
     case v7_y7 => (intro w hSw; (try dsimp only at hSw); go_simp; (try with_reducible rfl))
     simp only [Act.put, List.setIfInBounds_toArray, List.set_cons_zero, List.set_cons_succ]
     refine take_at (i := 5) (v := ?v7_v8) rfl (by kernel_rfl) (by kernel_rfl) (by kernel_rfl) (fun _ _ _ h => h) (Or.inl ⟨by rfl, ?v7_y8⟩) (by assumption) ?v7_r8
     case v7_y8 => (intro w hSw; (try dsimp only at hSw); go_simp; (try with_reducible rfl))
     simp only [Act.put, List.setIfInBounds_toArray, List.set_cons_zero, List.set_cons_succ]
     refine wpAnyH_ready (rs := [6]) (by kernel_rfl) (by simp) ?_
     refine cons_at (i := 6) rfl (fun K hK => ?_) AllReadyH.nil
     go_simp
     obtain ⟨v7_w9, hw⟩ : ∃ W', W' = v7_w4.alloc (.cells #[.int .i64 0, .slice none 0 0, .int .i64 0, .slice none 0 0] 26) := ⟨_, rfl⟩
     obtain ⟨v7_b6_9, hb⟩ : ∃ b, b = v7_w4.heap.size := ⟨_, rfl⟩
     have X9 := Lib.hid (bal (Below.refl v7_w4.heap.size v7_w4) (o := .cells #[.int .i64 0, .slice none 0 0, .int .i64 0, .slice none 0 0] 26))
     have Kv7_v7_b6_90 := Lib.hid (Blk.new v7_w4 26 #[.int .i64 0, .slice none 0 0, .int .i64 0, .slice none 0 0])
     rw [← hw] at X9 Kv7_v7_b6_90
     rw [← hb] at Kv7_v7_b6_90
     rw [← hw, ← hb]
     have lov7_b6_9 : w107.heap.size ≤ v7_b6_9 := by rw [hb]; exact Bv7_5.out.size
     have ap1v7_b6_9 := Lib.hid (show 0 < n7 → ∀ ad, A7 = some ad → ad.block ≠ v7_b6_9 from fun hp ad e => by rw [hb]; exact Nat.ne_of_lt (Gv7_1_5.out.lt hp e))
     have of2v7_b6_9 := Lib.hid (FGv7_2_4.out.off_new (g := v7_b6_9) (by rw [hb]; exact Nat.le_refl _))
     have Bv7_10 := Lib.hid (Bv7_5.out.trans (X9.out.mono Bv7_5.out.size))
     have Gv7_1_10 := Lib.hid (Gv7_1_5.out.past X9.out)
     have FGv7_2_10 := Lib.hid (FGv7_2_4.out.past X9.out)
     refine hK.out _ _ ?_ (fun hHeld => ?_)
     · exact Bv7_10.out
     clear Bv7_5 Gv7_1_5 FGv7_2_4 X9 hw hb
     clear hK K
     (try simp only [Act.put, uA, uB, uC])
     refine wpAnyH_ready (rs := [7]) (by kernel_rfl) (by simp) ?_
     refine cons_at (i := 7) rfl (fun K hK => ?_) AllReadyH.nil
     obtain ⟨f0, f1, f2, f3, f4, f5, f6, f7⟩ := fr_cells Kv7_v7_b6_90.out
     go_simp
     clear f0 f1 f2 f3 f4 f5 f6 f7
     obtain ⟨v7_w11, hw⟩ : ∃ W', W' = (((v7_w9.setCell ⟨v7_b6_9, 0, none⟩ (.int .i64 spv7_2)).setCell ⟨v7_b6_9, 1, none⟩ (.slice Apv7_2 npv7_2 cpv7_2)).setCell ⟨v7_b6_9, 2, none⟩ (.int .i64 sqv7_2)).setCell ⟨v7_b6_9, 3, none⟩ (.slice Aqv7_2 nqv7_2 cqv7_2) := ⟨_, rfl⟩
     rw [← hw]
     have Bv7_11 := Lib.hid (below_4 Bv7_10.out lov7_b6_9 (u := .int .i64 spv7_2) (v := .slice Apv7_2 npv7_2 cpv7_2) (x := .int .i64 sqv7_2) (y := .slice Aqv7_2 nqv7_2 cqv7_2))
     rw [← hw] at Bv7_11
     have Kv7_v7_b6_9_11 := Lib.hid (Kv7_v7_b6_90.out.set4 (a := .int .i64 spv7_2) (b := .slice Apv7_2 npv7_2 cpv7_2) (c := .int .i64 sqv7_2) (d := .slice Aqv7_2 nqv7_2 cqv7_2))
     rw [← hw] at Kv7_v7_b6_9_11
     have FGv7_2_11 := Lib.hid (FGv7_2_10.out.far4 of2v7_b6_9.out (a := .int .i64 spv7_2) (b := .slice Apv7_2 npv7_2 cpv7_2) (c := .int .i64 sqv7_2) (d := .slice Aqv7_2 nqv7_2 cqv7_2))
     rw [← hw] at FGv7_2_11
     refine hK.out _ _ ?_ (fun hHeld => ?_)
     · exact Bv7_11.out
     clear Bv7_10 Kv7_v7_b6_90 FGv7_2_10 hw
     clear hK K
     (try simp only [Act.put, uA, uB, uC])
     refine take_at (i := 8) (v := ?v7_v12) rfl (by kernel_rfl) (by kernel_rfl) (by kernel_rfl) (fun _ _ _ h => h) (Or.inl ⟨by rfl, ?v7_y12⟩) (by assumption) ?v7_r12
     case v7_y12 => (intro w hSw; (try dsimp only at hSw); go_simp; (try with_reducible rfl))
     simp only [Act.put, List.setIfInBounds_toArray, List.set_cons_zero, List.set_cons_succ]
     refine wpAnyH_done (by kernel_rfl) ?_ _
     go_wp2_with fail
     go_meet
     exact ⟨rfl, v7_b6_9, rfl, (show OneF _ _ _ _ _ from ⟨⟨spv7_2, Apv7_2, npv7_2, cpv7_2, sqv7_2, Aqv7_2, nqv7_2, cqv7_2⟩, Kv7_v7_b6_9_11.out, lov7_b6_9, FGv7_2_11.out, FAv7_2.out, FBv7_2.out, of2v7_b6_9.out, Bv7_11.out⟩)⟩
     refine cons_at (i := 6) rfl (fun K hK => ?_) AllReadyH.nil
     go_simp
     obtain ⟨v7_w13, hw⟩ : ∃ W', W' = v7_w2.alloc (.cells #[.int .i64 0, .slice none 0 0, .int .i64 0, .slice none 0 0] 26) := ⟨_, rfl⟩
     obtain ⟨v7_b6_13, hb⟩ : ∃ b, b = v7_w2.heap.size := ⟨_, rfl⟩
     have X13 := Lib.hid (bal (Below.refl v7_w2.heap.size v7_w2) (o := .cells #[.int .i64 0, .slice none 0 0, .int .i64 0, .slice none 0 0] 26))
     have Kv7_v7_b6_130 := Lib.hid (Blk.new v7_w2 26 #[.int .i64 0, .slice none 0 0, .int .i64 0, .slice none 0 0])
     rw [← hw] at X13 Kv7_v7_b6_130
     rw [← hb] at Kv7_v7_b6_130
     rw [← hw, ← hb]
     have lov7_b6_13 : w107.heap.size ≤ v7_b6_13 := by rw [hb]; exact Bv7_3.out.size
     have ap1v7_b6_13 := Lib.hid (show 0 < n7 → ∀ ad, A7 = some ad → ad.block ≠ v7_b6_13 from fun hp ad e => by rw [hb]; exact Nat.ne_of_lt (Gv7_1_2.out.lt hp e))
     have Bv7_14 := Lib.hid (Bv7_3.out.trans (X13.out.mono Bv7_3.out.size))
     have Gv7_1_14 := Lib.hid (Gv7_1_2.out.past X13.out)
     refine hK.out _ _ ?_ (fun hHeld => ?_)
     · exact Bv7_14.out
     clear Bv7_3 Gv7_1_2 X13 hw hb
     clear hK K
     (try simp only [Act.put, uA, uB, uC])
     refine wpAnyH_ready (rs := [2]) (by kernel_rfl) (by simp) ?_
     refine cons_at (i := 2) rfl (fun K hK => ?_) AllReadyH.nil
     go_simp
     refine (new_R (k := 35) ⟨sb, Ab, nb, cb, s7, A7, n7, c7⟩ (Gb108.out.past Bv7_14.out) (Gv7_1_14.out.more (by decide)) (by decide) (HT.out.on (B108.out.trans (Bv7_14.out.mono B108.out.size))) (by decide)).mono ?_
     rintro e v7_w15 ⟨⟨spv7_2, Apv7_2, npv7_2, cpv7_2, sqv7_2, Aqv7_2, nqv7_2, cqv7_2⟩, rfl, hc1, hc2, hf, f1, f2, hb⟩
     try dsimp only [frV]
     try dsimp only
     have X15 := Lib.hid hb
     have FGv7_2_15 := Lib.hid hf
     have FAv7_2 : Hid (Fresh w107 Apv7_2 npv7_2) := fun hp ad e => Nat.le_trans Bv7_14.out.size (f1 hp ad e)
     have FBv7_2 : Hid (Fresh w107 Aqv7_2 nqv7_2) := fun hp ad e => Nat.le_trans Bv7_14.out.size (f2 hp ad e)
     have HCAv7_2 := Lib.hid hc1
     have HCBv7_2 := Lib.hid hc2
     have of2v7_b6_13 := Lib.hid (off_old f1 f2 Kv7_v7_b6_130.out.lt)
     have Bv7_16 := Lib.hid (Bv7_14.out.trans (X15.out.mono Bv7_14.out.size))
     have Kv7_v7_b6_1316 := Lib.hid (Kv7_v7_b6_130.out.below X15.out Kv7_v7_b6_130.out.lt)
     have Gv7_1_16 := Lib.hid (Gv7_1_14.out.past X15.out)
     refine hK.out _ _ ?_ (fun hHeld => ?_)
     · exact Bv7_16.out
     clear Bv7_14 Kv7_v7_b6_130 Gv7_1_14 X15 hc1 hc2 hf f1 f2 hb
     clear hK K
     (try simp only [Act.put, uA, uB, uC])
     refine take_at (i := 3) (v := ?v7_v17) rfl (by kernel_rfl) (by kernel_rfl) (by kernel_rfl) (fun _ _ _ h => h) (Or.inl ⟨by rfl, ?v7_y17⟩) (by assumption) ?v7_r17
     case v7_y17 => (intro w hSw; (try dsimp only at hSw); go_simp; (try with_reducible rfl))
     simp only [Act.put, List.setIfInBounds_toArray, List.set_cons_zero, List.set_cons_succ]
     refine take_at (i := 4) (v := ?v7_v18) rfl (by kernel_rfl) (by kernel_rfl) (by kernel_rfl) (fun _ _ _ h => h) (Or.inl ⟨by rfl, ?v7_y18⟩) (by assumption) ?v7_r18
     case v7_y18 => (intro w hSw; (try dsimp only at hSw); go_simp; (try with_reducible rfl))
     simp only [Act.put, List.setIfInBounds_toArray, List.set_cons_zero, List.set_cons_succ]
     refine take_at (i := 5) (v := ?v7_v19) rfl (by kernel_rfl) (by kernel_rfl) (by kernel_rfl) (fun _ _ _ h => h) (Or.inl ⟨by rfl, ?v7_y19⟩) (by assumption) ?v7_r19
     case v7_y19 => (intro w hSw; (try dsimp only at hSw); go_simp; (try with_reducible rfl))
     simp only [Act.put, List.setIfInBounds_toArray, List.set_cons_zero, List.set_cons_succ]
     refine wpAnyH_ready (rs := [7]) (by kernel_rfl) (by simp) ?_
     refine cons_at (i := 7) rfl (fun K hK => ?_) AllReadyH.nil
     obtain ⟨f0, f1, f2, f3, f4, f5, f6, f7⟩ := fr_cells Kv7_v7_b6_1316.out
     go_simp
     clear f0 f1 f2 f3 f4 f5 f6 f7
     obtain ⟨v7_w20, hw⟩ : ∃ W', W' = (((v7_w15.setCell ⟨v7_b6_13, 0, none⟩ (.int .i64 spv7_2)).setCell ⟨v7_b6_13, 1, none⟩ (.slice Apv7_2 npv7_2 cpv7_2)).setCell ⟨v7_b6_13, 2, none⟩ (.int .i64 sqv7_2)).setCell ⟨v7_b6_13, 3, none⟩ (.slice Aqv7_2 nqv7_2 cqv7_2) := ⟨_, rfl⟩
     rw [← hw]
     have Bv7_20 := Lib.hid (below_4 Bv7_16.out lov7_b6_13 (u := .int .i64 spv7_2) (v := .slice Apv7_2 npv7_2 cpv7_2) (x := .int .i64 sqv7_2) (y := .slice Aqv7_2 nqv7_2 cqv7_2))
     rw [← hw] at Bv7_20
     have Kv7_v7_b6_13_20 := Lib.hid (Kv7_v7_b6_1316.out.set4 (a := .int .i64 spv7_2) (b := .slice Apv7_2 npv7_2 cpv7_2) (c := .int .i64 sqv7_2) (d := .slice Aqv7_2 nqv7_2 cqv7_2))
     rw [← hw] at Kv7_v7_b6_13_20
     have FGv7_2_20 := Lib.hid (FGv7_2_15.out.far4 of2v7_b6_13.out (a := .int .i64 spv7_2) (b := .slice Apv7_2 npv7_2 cpv7_2) (c := .int .i64 sqv7_2) (d := .slice Aqv7_2 nqv7_2 cqv7_2))
     rw [← hw] at FGv7_2_20
     refine hK.out _ _ ?_ (fun hHeld => ?_)
     · exact Bv7_20.out
     clear Bv7_16 Kv7_v7_b6_1316 FGv7_2_15 hw
     clear hK K
     (try simp only [Act.put, uA, uB, uC])
     refine take_at (i := 8) (v := ?v7_v21) rfl (by kernel_rfl) (by kernel_rfl) (by kernel_rfl) (fun _ _ _ h => h) (Or.inl ⟨by rfl, ?v7_y21⟩) (by assumption) ?v7_r21
     case v7_y21 => (intro w hSw; (try dsimp only at hSw); go_simp; (try with_reducible rfl))
     simp only [Act.put, List.setIfInBounds_toArray, List.set_cons_zero, List.set_cons_succ]
     refine wpAnyH_done (by kernel_rfl) ?_ _
     go_wp2_with fail
     go_meet
     exact ⟨rfl, v7_b6_13, rfl, (show OneF _ _ _ _ _ from ⟨⟨spv7_2, Apv7_2, npv7_2, cpv7_2, sqv7_2, Aqv7_2, nqv7_2, cqv7_2⟩, Kv7_v7_b6_13_20.out, lov7_b6_13, FGv7_2_20.out, FAv7_2.out, FBv7_2.out, of2v7_b6_13.out, Bv7_20.out⟩)⟩
     refine cons_at (i := 6) rfl (fun K hK => ?_) AllReadyH.nil
     go_simp
     obtain ⟨v7_w22, hw⟩ : ∃ W', W' = v7_w0.alloc (.cells #[.int .i64 0, .slice none 0 0, .int .i64 0, .slice none 0 0] 26) := ⟨_, rfl⟩
     obtain ⟨v7_b6_22, hb⟩ : ∃ b, b = v7_w0.heap.size := ⟨_, rfl⟩
     have X22 := Lib.hid (bal (Below.refl v7_w0.heap.size v7_w0) (o := .cells #[.int .i64 0, .slice none 0 0, .int .i64 0, .slice none 0 0] 26))
     have Kv7_v7_b6_220 := Lib.hid (Blk.new v7_w0 26 #[.int .i64 0, .slice none 0 0, .int .i64 0, .slice none 0 0])
     rw [← hw] at X22 Kv7_v7_b6_220
     rw [← hb] at Kv7_v7_b6_220
     rw [← hw, ← hb]
     have lov7_b6_22 : w107.heap.size ≤ v7_b6_22 := by rw [hb]; exact Bv7_0.out.size
     have Bv7_23 := Lib.hid (Bv7_0.out.trans (X22.out.mono Bv7_0.out.size))
     refine hK.out _ _ ?_ (fun hHeld => ?_)
     · exact Bv7_23.out
     clear Bv7_0 X22 hw hb
     clear hK K
     (try simp only [Act.put, uA, uB, uC])
     refine wpAnyH_ready (rs := [1]) (by kernel_rfl) (by simp) ?_
     refine cons_at (i := 1) rfl (fun K hK => ?_) AllReadyH.nil
     go_simp
     refine (of_F 1 v7_w22 (by decide) (by decide)).mono ?_
     rintro e v7_w24 ⟨s7, A7, n7, c7, rfl, hc, hg, hf, hb⟩
     try dsimp only
     have X24 := Lib.hid hb
     have Gv7_1_24 := Lib.hid hg
     have HCv7_1 := Lib.hid hc
     have FRv7_1 : Hid (Fresh w107 A7 n7) := fun hp ad e => Nat.le_trans Bv7_23.out.size (hf hp ad e)
     have ap1v7_b6_22 := Lib.hid (show 0 < n7 → ∀ ad, A7 = some ad → ad.block ≠ v7_b6_22 from fun hp ad e => by have := hf hp ad e; have := Kv7_v7_b6_220.out.lt; omega)
     have Bv7_25 := Lib.hid (Bv7_23.out.trans (X24.out.mono Bv7_23.out.size))
     have Kv7_v7_b6_2225 := Lib.hid (Kv7_v7_b6_220.out.below X24.out Kv7_v7_b6_220.out.lt)
     refine hK.out _ _ ?_ (fun hHeld => ?_)
     · exact Bv7_25.out
     clear Bv7_23 Kv7_v7_b6_220 X24 hc hg hf hb
     clear hK K
     (try simp only [Act.put, uA, uB, uC])
     refine wpAnyH_ready (rs := [2]) (by kernel_rfl) (by simp) ?_
     refine cons_at (i := 2) rfl (fun K hK => ?_) AllReadyH.nil
     go_simp
     refine (new_R (k := 35) ⟨sb, Ab, nb, cb, s7, A7, n7, c7⟩ (Gb108.out.past Bv7_25.out) (Gv7_1_24.out.more (by decide)) (by decide) (HT.out.on (B108.out.trans (Bv7_25.out.mono B108.out.size))) (by decide)).mono ?_
     rintro e v7_w26 ⟨⟨spv7_2, Apv7_2, npv7_2, cpv7_2, sqv7_2, Aqv7_2, nqv7_2, cqv7_2⟩, rfl, hc1, hc2, hf, f1, f2, hb⟩
     try dsimp only [frV]
     try dsimp only
     have X26 := Lib.hid hb
     have FGv7_2_26 := Lib.hid hf
     have FAv7_2 : Hid (Fresh w107 Apv7_2 npv7_2) := fun hp ad e => Nat.le_trans Bv7_25.out.size (f1 hp ad e)
     have FBv7_2 : Hid (Fresh w107 Aqv7_2 nqv7_2) := fun hp ad e => Nat.le_trans Bv7_25.out.size (f2 hp ad e)
     have HCAv7_2 := Lib.hid hc1
     have HCBv7_2 := Lib.hid hc2
     have of2v7_b6_22 := Lib.hid (off_old f1 f2 Kv7_v7_b6_2225.out.lt)
     have Bv7_27 := Lib.hid (Bv7_25.out.trans (X26.out.mono Bv7_25.out.size))
     have Kv7_v7_b6_2227 := Lib.hid (Kv7_v7_b6_2225.out.below X26.out Kv7_v7_b6_2225.out.lt)
     have Gv7_1_27 := Lib.hid (Gv7_1_24.out.past X26.out)
     refine hK.out _ _ ?_ (fun hHeld => ?_)
     · exact Bv7_27.out
     clear Bv7_25 Kv7_v7_b6_2225 Gv7_1_24 X26 hc1 hc2 hf f1 f2 hb
     clear hK K
     (try simp only [Act.put, uA, uB, uC])
     refine take_at (i := 3) (v := ?v7_v28) rfl (by kernel_rfl) (by kernel_rfl) (by kernel_rfl) (fun _ _ _ h => h) (Or.inl ⟨by rfl, ?v7_y28⟩) (by assumption) ?v7_r28
     case v7_y28 => (intro w hSw; (try dsimp only at hSw); go_simp; (try with_reducible rfl))
     simp only [Act.put, List.setIfInBounds_toArray, List.set_cons_zero, List.set_cons_succ]
     refine take_at (i := 4) (v := ?v7_v29) rfl (by kernel_rfl) (by kernel_rfl) (by kernel_rfl) (fun _ _ _ h => h) (Or.inl ⟨by rfl, ?v7_y29⟩) (by assumption) ?v7_r29
     case v7_y29 => (intro w hSw; (try dsimp only at hSw); go_simp; (try with_reducible rfl))
     simp only [Act.put, List.setIfInBounds_toArray, List.set_cons_zero, List.set_cons_succ]
     refine take_at (i := 5) (v := ?v7_v30) rfl (by kernel_rfl) (by kernel_rfl) (by kernel_rfl) (fun _ _ _ h => h) (Or.inl ⟨by rfl, ?v7_y30⟩) (by assumption) ?v7_r30
     case v7_y30 => (intro w hSw; (try dsimp only at hSw); go_simp; (try with_reducible rfl))
     simp only [Act.put, List.setIfInBounds_toArray, List.set_cons_zero, List.set_cons_succ]
     refine wpAnyH_ready (rs := [7]) (by kernel_rfl) (by simp) ?_
     refine cons_at (i := 7) rfl (fun K hK => ?_) AllReadyH.nil
     obtain ⟨f0, f1, f2, f3, f4, f5, f6, f7⟩ := fr_cells Kv7_v7_b6_2227.out
     go_simp
     clear f0 f1 f2 f3 f4 f5 f6 f7
     obtain ⟨v7_w31, hw⟩ : ∃ W', W' = (((v7_w26.setCell ⟨v7_b6_22, 0, none⟩ (.int .i64 spv7_2)).setCell ⟨v7_b6_22, 1, none⟩ (.slice Apv7_2 npv7_2 cpv7_2)).setCell ⟨v7_b6_22, 2, none⟩ (.int .i64 sqv7_2)).setCell ⟨v7_b6_22, 3, none⟩ (.slice Aqv7_2 nqv7_2 cqv7_2) := ⟨_, rfl⟩
     rw [← hw]
     have Bv7_31 := Lib.hid (below_4 Bv7_27.out lov7_b6_22 (u := .int .i64 spv7_2) (v := .slice Apv7_2 npv7_2 cpv7_2) (x := .int .i64 sqv7_2) (y := .slice Aqv7_2 nqv7_2 cqv7_2))
     rw [← hw] at Bv7_31
     have Kv7_v7_b6_22_31 := Lib.hid (Kv7_v7_b6_2227.out.set4 (a := .int .i64 spv7_2) (b := .slice Apv7_2 npv7_2 cpv7_2) (c := .int .i64 sqv7_2) (d := .slice Aqv7_2 nqv7_2 cqv7_2))
     rw [← hw] at Kv7_v7_b6_22_31
     have FGv7_2_31 := Lib.hid (FGv7_2_26.out.far4 of2v7_b6_22.out (a := .int .i64 spv7_2) (b := .slice Apv7_2 npv7_2 cpv7_2) (c := .int .i64 sqv7_2) (d := .slice Aqv7_2 nqv7_2 cqv7_2))
     rw [← hw] at FGv7_2_31
     refine hK.out _ _ ?_ (fun hHeld => ?_)
     · exact Bv7_31.out
     clear Bv7_27 Kv7_v7_b6_2227 FGv7_2_26 hw
     clear hK K
     (try simp only [Act.put, uA, uB, uC])
     refine take_at (i := 8) (v := ?v7_v32) rfl (by kernel_rfl) (by kernel_rfl) (by kernel_rfl) (fun _ _ _ h => h) (Or.inl ⟨by rfl, ?v7_y32⟩) (by assumption) ?v7_r32
     case v7_y32 => (intro w hSw; (try dsimp only at hSw); go_simp; (try with_reducible rfl))
     simp only [Act.put, List.setIfInBounds_toArray, List.set_cons_zero, List.set_cons_succ]
     refine wpAnyH_done (by kernel_rfl) ?_ _
     go_wp2_with fail
     go_meet
     exact ⟨rfl, v7_b6_22, rfl, (show OneF _ _ _ _ _ from ⟨⟨spv7_2, Apv7_2, npv7_2, cpv7_2, sqv7_2, Aqv7_2, nqv7_2, cqv7_2⟩, Kv7_v7_b6_22_31.out, lov7_b6_22, FGv7_2_31.out, FAv7_2.out, FBv7_2.out, of2v7_b6_22.out, Bv7_31.out⟩)⟩
    case rest => as_aux_lemma =>
     obtain ⟨rfl, byy, rfl, HX⟩ := hcut
     obtain ⟨w109, rfl⟩ : ∃ W : World, W = wc := ⟨_, rfl⟩
     obtain ⟨⟨s1yy, A1yy, n1yy, c1yy, s2yy, A2yy, n2yy, c2yy⟩, hk, hlo, hg, f1, f2, ho, hb⟩ := HX.out
     have X := Lib.hid hb
     have Kyy := Lib.hid hk
     have Gyy := Lib.hid hg
     (try dsimp only [frC] at Kyy)
     clear HX hk hlo hg f1 f2 ho hb
     clear zb0 zb1
     have B110 := Lib.hid (B108.out.trans (X.out.mono B108.out.size))
     have Kf110 := Lib.hid (Kf108.out.below X.out Kf108.out.lt)
     have Ka110 := Lib.hid (Ka108.out.below X.out Ka108.out.lt)
     have Kb110 := Lib.hid (Kb108.out.below X.out Kb108.out.lt)
     have Kx110 := Lib.hid (Kx.out.below X.out Kx.out.lt)
     have Gf110 := Lib.hid (Gf108.out.past X.out)
     have Ga110 := Lib.hid (Ga108.out.past X.out)
     have Gb110 := Lib.hid (Gb108.out.past X.out)
     have Gx110 := Lib.hid (Gx.out.past X.out)
     clear X B108 Kf108 Ka108 Kb108 Kx Gf108 Ga108 Gb108 Gx
     go_upto_region 8 with (fail)
     go_cut [67] (fun p1 wc => p1 = .bool false ∧ Below w109.heap.size w109 wc)
     case first => as_aux_lemma =>
      have BR := Lib.hid (Below.refl w109.heap.size w109)
      have hlow := floor_low xa
      obtain ⟨o, ho⟩ : ∃ o, o = ordR (ratio xa.floor 1) xa := ⟨_, rfl⟩
      rw [← ho] at hlow
      have HO := Lib.hid ho
      clear ho
      have hr := ordR_range (ratio xa.floor 1) xa
      rw [← HO.out] at hr
      rcases (show o = -1 ∨ o = 0 by omega) with rfl | rfl
      · clear hlow hr
        obtain ⟨zx0, zx1, zx2, zx3, -, -, -, -⟩ := fr_cells Kx110.out
        obtain ⟨zf0, zf1, zf2, zf3, -, -, -, -⟩ := fr_cells Kf110.out
        have M := Lib.hid (compare_R (k := 30) ⟨s1x, A1x, n1x, c1x, s2x, A2x, n2x, c2x⟩ ⟨s1a, A1a, n1a, c1a, s2a, A2a, n2a, c2a⟩ Gx110.out Gf110.out (HT.out.on (B110.out.trans (BR.out.mono B110.out.size))) (by decide) (o := (-1)) HO.out.symm)
        (try dsimp only [frV] at M)
        go_wp2_with fail
        refine M.out.mono ?_
        rintro e w111 ⟨rfl, hb⟩
        clear M
        have X := Lib.hid hb
        clear hb
        have B112 := Lib.hid (BR.out.trans (X.out.mono BR.out.size))
        have Kf112 := Lib.hid (Kf110.out.below X.out Kf110.out.lt)
        have Ka112 := Lib.hid (Ka110.out.below X.out Ka110.out.lt)
        have Kb112 := Lib.hid (Kb110.out.below X.out Kb110.out.lt)
        have Kx112 := Lib.hid (Kx110.out.below X.out Kx110.out.lt)
        have Kyy112 := Lib.hid (Kyy.out.below X.out Kyy.out.lt)
        have Gf112 := Lib.hid (Gf110.out.past X.out)
        have Ga112 := Lib.hid (Ga110.out.past X.out)
        have Gb112 := Lib.hid (Gb110.out.past X.out)
        have Gx112 := Lib.hid (Gx110.out.past X.out)
        have Gyy112 := Lib.hid (Gyy.out.past X.out)
        clear X BR Kf110 Ka110 Kb110 Kx110 Kyy Gf110 Ga110 Gb110 Gx110 Gyy
        clear zx0 zx1 zx2 zx3 zf0 zf1 zf2 zf3
        obtain ⟨zyy0, zyy1, zyy2, zyy3, -, -, -, -⟩ := fr_cells Kyy112.out
        obtain ⟨zf0, zf1, zf2, zf3, -, -, -, -⟩ := fr_cells Kf112.out
        have M := Lib.hid (compare_R (k := 35) ⟨s1yy, A1yy, n1yy, c1yy, s2yy, A2yy, n2yy, c2yy⟩ ⟨s1a, A1a, n1a, c1a, s2a, A2a, n2a, c2a⟩ Gyy112.out (Gf112.out.more (by decide)) (HT.out.on (B110.out.trans (B112.out.mono B110.out.size))) (by decide) (o := 1) (floor_high xa))
        (try dsimp only [frV] at M)
        go_wp2_with fail
        refine M.out.mono ?_
        rintro e w113 ⟨rfl, hb⟩
        clear M
        have X := Lib.hid hb
        clear hb
        have B114 := Lib.hid (B112.out.trans (X.out.mono B112.out.size))
        have Kf114 := Lib.hid (Kf112.out.below X.out Kf112.out.lt)
        have Ka114 := Lib.hid (Ka112.out.below X.out Ka112.out.lt)
        have Kb114 := Lib.hid (Kb112.out.below X.out Kb112.out.lt)
        have Kx114 := Lib.hid (Kx112.out.below X.out Kx112.out.lt)
        have Kyy114 := Lib.hid (Kyy112.out.below X.out Kyy112.out.lt)
        have Gf114 := Lib.hid (Gf112.out.past X.out)
        have Ga114 := Lib.hid (Ga112.out.past X.out)
        have Gb114 := Lib.hid (Gb112.out.past X.out)
        have Gx114 := Lib.hid (Gx112.out.past X.out)
        have Gyy114 := Lib.hid (Gyy112.out.past X.out)
        clear X B112 Kf112 Ka112 Kb112 Kx112 Kyy112 Gf112 Ga112 Gb112 Gx112 Gyy112
        clear zyy0 zyy1 zyy2 zyy3 zf0 zf1 zf2 zf3
        go_wp2_with fail
        go_meet
        exact ⟨rfl, B114.out⟩
      · clear hlow hr
        obtain ⟨zx0, zx1, zx2, zx3, -, -, -, -⟩ := fr_cells Kx110.out
        obtain ⟨zf0, zf1, zf2, zf3, -, -, -, -⟩ := fr_cells Kf110.out
        have M := Lib.hid (compare_R (k := 30) ⟨s1x, A1x, n1x, c1x, s2x, A2x, n2x, c2x⟩ ⟨s1a, A1a, n1a, c1a, s2a, A2a, n2a, c2a⟩ Gx110.out Gf110.out (HT.out.on (B110.out.trans (BR.out.mono B110.out.size))) (by decide) (o := 0) HO.out.symm)
        (try dsimp only [frV] at M)
        go_wp2_with fail
        refine M.out.mono ?_
        rintro e w115 ⟨rfl, hb⟩
        clear M
        have X := Lib.hid hb
        clear hb
        have B116 := Lib.hid (BR.out.trans (X.out.mono BR.out.size))
        have Kf116 := Lib.hid (Kf110.out.below X.out Kf110.out.lt)
        have Ka116 := Lib.hid (Ka110.out.below X.out Ka110.out.lt)
        have Kb116 := Lib.hid (Kb110.out.below X.out Kb110.out.lt)
        have Kx116 := Lib.hid (Kx110.out.below X.out Kx110.out.lt)
        have Kyy116 := Lib.hid (Kyy.out.below X.out Kyy.out.lt)
        have Gf116 := Lib.hid (Gf110.out.past X.out)
        have Ga116 := Lib.hid (Ga110.out.past X.out)
        have Gb116 := Lib.hid (Gb110.out.past X.out)
        have Gx116 := Lib.hid (Gx110.out.past X.out)
        have Gyy116 := Lib.hid (Gyy.out.past X.out)
        clear X BR Kf110 Ka110 Kb110 Kx110 Kyy Gf110 Ga110 Gb110 Gx110 Gyy
        clear zx0 zx1 zx2 zx3 zf0 zf1 zf2 zf3
        obtain ⟨zyy0, zyy1, zyy2, zyy3, -, -, -, -⟩ := fr_cells Kyy116.out
        obtain ⟨zf0, zf1, zf2, zf3, -, -, -, -⟩ := fr_cells Kf116.out
        have M := Lib.hid (compare_R (k := 35) ⟨s1yy, A1yy, n1yy, c1yy, s2yy, A2yy, n2yy, c2yy⟩ ⟨s1a, A1a, n1a, c1a, s2a, A2a, n2a, c2a⟩ Gyy116.out (Gf116.out.more (by decide)) (HT.out.on (B110.out.trans (B116.out.mono B110.out.size))) (by decide) (o := 1) (floor_high xa))
        (try dsimp only [frV] at M)
        go_wp2_with fail
        refine M.out.mono ?_
        rintro e w117 ⟨rfl, hb⟩
        clear M
        have X := Lib.hid hb
        clear hb
        have B118 := Lib.hid (B116.out.trans (X.out.mono B116.out.size))
        have Kf118 := Lib.hid (Kf116.out.below X.out Kf116.out.lt)
        have Ka118 := Lib.hid (Ka116.out.below X.out Ka116.out.lt)
        have Kb118 := Lib.hid (Kb116.out.below X.out Kb116.out.lt)
        have Kx118 := Lib.hid (Kx116.out.below X.out Kx116.out.lt)
        have Kyy118 := Lib.hid (Kyy116.out.below X.out Kyy116.out.lt)
        have Gf118 := Lib.hid (Gf116.out.past X.out)
        have Ga118 := Lib.hid (Ga116.out.past X.out)
        have Gb118 := Lib.hid (Gb116.out.past X.out)
        have Gx118 := Lib.hid (Gx116.out.past X.out)
        have Gyy118 := Lib.hid (Gyy116.out.past X.out)
        clear X B116 Kf116 Ka116 Kb116 Kx116 Kyy116 Gf116 Ga116 Gb116 Gx116 Gyy116
        clear zyy0 zyy1 zyy2 zyy3 zf0 zf1 zf2 zf3
        go_wp2_with fail
        go_meet
        exact ⟨rfl, B118.out⟩
     case rest => as_aux_lemma =>
      obtain ⟨rfl, hb⟩ := hcut
      obtain ⟨w139, rfl⟩ : ∃ W : World, W = wc := ⟨_, rfl⟩
      have X := Lib.hid hb
      clear hb
      have B140 := Lib.hid (B110.out.trans (X.out.mono B110.out.size))
      have Kf140 := Lib.hid (Kf110.out.below X.out Kf110.out.lt)
      have Ka140 := Lib.hid (Ka110.out.below X.out Ka110.out.lt)
      have Kb140 := Lib.hid (Kb110.out.below X.out Kb110.out.lt)
      have Kx140 := Lib.hid (Kx110.out.below X.out Kx110.out.lt)
      have Kyy140 := Lib.hid (Kyy.out.below X.out Kyy.out.lt)
      have Gf140 := Lib.hid (Gf110.out.past X.out)
      have Ga140 := Lib.hid (Ga110.out.past X.out)
      have Gb140 := Lib.hid (Gb110.out.past X.out)
      have Gx140 := Lib.hid (Gx110.out.past X.out)
      have Gyy140 := Lib.hid (Gyy.out.past X.out)
      clear X B110 Kf110 Ka110 Kb110 Kx110 Kyy Gf110 Ga110 Gb110 Gx110 Gyy
      go_upto_region 10 with (fail)
      obtain ⟨zf0, zf1, zf2, zf3, -, -, -, -⟩ := fr_cells Kf140.out
      go_cut [13] (fun p1 wc => ∃ b, p1 = .pointer (some ⟨b, 0, none⟩) ∧ Hid (OneB w139 wc b 30 ((-xa).floor)))
      case first => as_aux_lemma =>
       have HC := Lib.hid (fun (w' : World) (h : Below w139.heap.size w139 w') => (⟨(h.cell (p := ⟨w.heap.size, 0, none⟩) (World.block_lt_of_cell? _ _ zf0)).trans zf0, (h.cell (p := ⟨w.heap.size, 1, none⟩) (World.block_lt_of_cell? _ _ zf1)).trans zf1, (h.cell (p := ⟨w.heap.size, 2, none⟩) (World.block_lt_of_cell? _ _ zf2)).trans zf2, (h.cell (p := ⟨w.heap.size, 3, none⟩) (World.block_lt_of_cell? _ _ zf3)).trans zf3⟩ : w'.cell? ⟨w.heap.size, 0, none⟩ = some (.int .i64 s1a) ∧ w'.cell? ⟨w.heap.size, 1, none⟩ = some (.slice A1a n1a c1a) ∧ w'.cell? ⟨w.heap.size, 2, none⟩ = some (.int .i64 s2a) ∧ w'.cell? ⟨w.heap.size, 3, none⟩ = some (.slice A2a n2a c2a)))
       clear zf0 zf1 zf2 zf3
       have Bv10_0 := Lib.hid (Below.refl w139.heap.size w139).drew
       refine wp_region_held_drew (S := fun w' => Below w139.heap.size w139 w') (by kernel_rfl) Bv10_0.out (fun hHeld => ?_)
       obtain ⟨v10_w0, hw⟩ : ∃ W, W = w139.drew := ⟨_, rfl⟩
       rw [← hw] at hHeld Bv10_0 ⊢
       clear hw
       refine take_at (i := 0) (v := ?v10_v1) rfl (by kernel_rfl) (by kernel_rfl) (by kernel_rfl) (fun _ _ _ h => h) (Or.inl ⟨by rfl, ?v10_y1⟩) (by assumption) ?v10_r1
       case v10_y1 => (intro w hSw; (try dsimp only at hSw); go_simp; (try with_reducible rfl))
       simp only [Act.put, List.setIfInBounds_toArray, List.set_cons_zero, List.set_cons_succ]
       refine take_at (i := 1) (v := ?v10_v2) rfl (by kernel_rfl) (by kernel_rfl) (by kernel_rfl) (fun _ _ _ h => h) (Or.inl ⟨by rfl, ?v10_y2⟩) (by assumption) ?v10_r2
       case v10_y2 => (intro w hSw; (try dsimp only at hSw); obtain ⟨cc0, cc1, cc2, cc3⟩ := HC.out _ hSw; go_simp; (try with_reducible rfl))
       simp only [Act.put, List.setIfInBounds_toArray, List.set_cons_zero, List.set_cons_succ]
       refine take_at (i := 3) (v := ?v10_v3) rfl (by kernel_rfl) (by kernel_rfl) (by kernel_rfl) (fun _ _ _ h => h) (Or.inl ⟨by rfl, ?v10_y3⟩) (by assumption) ?v10_r3
       case v10_y3 => (intro w hSw; (try dsimp only at hSw); go_simp; (try with_reducible rfl))
       simp only [Act.put, List.setIfInBounds_toArray, List.set_cons_zero, List.set_cons_succ]
       refine take_at (i := 4) (v := ?v10_v4) rfl (by kernel_rfl) (by kernel_rfl) (by kernel_rfl) (fun _ _ _ h => h) (Or.inl ⟨by rfl, ?v10_y4⟩) (by assumption) ?v10_r4
       case v10_y4 => (intro w hSw; (try dsimp only at hSw); obtain ⟨cc0, cc1, cc2, cc3⟩ := HC.out _ hSw; go_simp; (try with_reducible rfl))
       simp only [Act.put, List.setIfInBounds_toArray, List.set_cons_zero, List.set_cons_succ]
       refine wpAnyH_ready (rs := [2, 7]) (by kernel_rfl) (by simp) ?_
       refine cons_at (i := 2) rfl (fun K hK => ?_) ?_
       go_simp
       refine (neg_F (Gf140.out.1.past Bv10_0.out) (by decide) c1a).mono ?_
       rintro e v10_w5 ⟨s7, A7, n7, c7, rfl, hc, hg, hf, hb⟩
       try dsimp only
       have X5 := Lib.hid hb
       have Gv10_2_5 := Lib.hid hg
       have HCv10_2 := Lib.hid hc
       have FRv10_2 : Hid (Fresh w139 A7 n7) := fun hp ad e => Nat.le_trans Bv10_0.out.size (hf hp ad e)
       have Bv10_6 := Lib.hid (Bv10_0.out.trans (X5.out.mono Bv10_0.out.size))
       refine hK.out _ _ ?_ (fun hHeld => ?_)
       · exact Bv10_6.out
       clear Bv10_0 X5 hc hg hf hb
       clear hK K
       (try simp only [Act.put, uA, uB, uC])
       refine take_at (i := 5) (v := ?v10_v7) rfl (by kernel_rfl) (by kernel_rfl) (by kernel_rfl) (fun _ _ _ h => h) (Or.inl ⟨by rfl, ?v10_y7⟩) (by assumption) ?v10_r7
       case v10_y7 => (intro w hSw; (try dsimp only at hSw); go_simp; (try with_reducible rfl))
       simp only [Act.put, List.setIfInBounds_toArray, List.set_cons_zero, List.set_cons_succ]
       refine wpAnyH_ready (rs := [6, 7]) (by kernel_rfl) (by simp) ?_
       refine cons_at (i := 6) rfl (fun K hK => ?_) ?_
       go_simp
       refine (floor_R (x := -xa) ⟨s7, A7, n7, c7, s2a, A2a, n2a, c2a⟩ ⟨neg_bg Gv10_2_5.out, neg_den (Gf140.out.2.past Bv10_6.out)⟩ (HT.out.on (B140.out.trans (Bv10_6.out.mono B140.out.size))) (by decide)).mono ?_
       rintro e v10_w8 ⟨s8, A8, n8, c8, rfl, hc, hg, hf, hb⟩
       try dsimp only
       have X8 := Lib.hid hb
       have Gv10_6_8 := Lib.hid hg
       have HCv10_6 := Lib.hid hc
       have FRv10_6 : Hid (Fresh w139 A8 n8) := fun hp ad e => Nat.le_trans Bv10_6.out.size (hf hp ad e)
       have Bv10_9 := Lib.hid (Bv10_6.out.trans (X8.out.mono Bv10_6.out.size))
       have Gv10_2_9 := Lib.hid (Gv10_2_5.out.past X8.out)
       refine hK.out _ _ ?_ (fun hHeld => ?_)
       · exact Bv10_9.out
       clear Bv10_6 Gv10_2_5 X8 hc hg hf hb
       clear hK K
       (try simp only [Act.put, uA, uB, uC])
       refine wpAnyH_ready (rs := [7]) (by kernel_rfl) (by simp) ?_
       refine cons_at (i := 7) rfl (fun K hK => ?_) AllReadyH.nil
       go_simp
       obtain ⟨v10_w10, hw⟩ : ∃ W', W' = v10_w8.alloc (.cells #[.int .i64 0, .slice none 0 0] 24) := ⟨_, rfl⟩
       obtain ⟨v10_b7_10, hb⟩ : ∃ b, b = v10_w8.heap.size := ⟨_, rfl⟩
       have X10 := Lib.hid (bal (Below.refl v10_w8.heap.size v10_w8) (o := .cells #[.int .i64 0, .slice none 0 0] 24))
       have Kv10_v10_b7_100 := Lib.hid (Blk.new v10_w8 24 #[.int .i64 0, .slice none 0 0])
       rw [← hw] at X10 Kv10_v10_b7_100
       rw [← hb] at Kv10_v10_b7_100
       rw [← hw, ← hb]
       have lov10_b7_10 : w139.heap.size ≤ v10_b7_10 := by rw [hb]; exact Bv10_9.out.size
       have ap2v10_b7_10 := Lib.hid (show 0 < n7 → ∀ ad, A7 = some ad → ad.block ≠ v10_b7_10 from fun hp ad e => by rw [hb]; exact Nat.ne_of_lt (Gv10_2_9.out.lt hp e))
       have ap6v10_b7_10 := Lib.hid (show 0 < n8 → ∀ ad, A8 = some ad → ad.block ≠ v10_b7_10 from fun hp ad e => by rw [hb]; exact Nat.ne_of_lt (Gv10_6_8.out.lt hp e))
       have Bv10_11 := Lib.hid (Bv10_9.out.trans (X10.out.mono Bv10_9.out.size))
       have Gv10_2_11 := Lib.hid (Gv10_2_9.out.past X10.out)
       have Gv10_6_11 := Lib.hid (Gv10_6_8.out.past X10.out)
       refine hK.out _ _ ?_ (fun hHeld => ?_)
       · exact Bv10_11.out
       clear Bv10_9 Gv10_2_9 Gv10_6_8 X10 hw hb
       clear hK K
       (try simp only [Act.put, uA, uB, uC])
       refine wpAnyH_ready (rs := [8]) (by kernel_rfl) (by simp) ?_
       refine cons_at (i := 8) rfl (fun K hK => ?_) AllReadyH.nil
       obtain ⟨f0, f1, f2, f3⟩ := sm_cells Kv10_v10_b7_100.out
       go_simp
       clear f0 f1 f2 f3
       obtain ⟨v10_w12, hw⟩ : ∃ W', W' = (v10_w10.setCell ⟨v10_b7_10, 0, none⟩ (.int .i64 s8)).setCell ⟨v10_b7_10, 1, none⟩ (.slice A8 n8 c8) := ⟨_, rfl⟩
       rw [← hw]
       have Bv10_12 := Lib.hid (below_2 Bv10_11.out lov10_b7_10 (u := .int .i64 s8) (v := .slice A8 n8 c8))
       rw [← hw] at Bv10_12
       have Kv10_v10_b7_10_12 := Lib.hid (Kv10_v10_b7_100.out.set2 (a := .int .i64 s8) (b := .slice A8 n8 c8))
       rw [← hw] at Kv10_v10_b7_10_12
       have Gv10_2_12 := Lib.hid (Gv10_2_11.out.far2 ap2v10_b7_10.out (a := .int .i64 s8) (b := .slice A8 n8 c8))
       rw [← hw] at Gv10_2_12
       have Gv10_6_12 := Lib.hid (Gv10_6_11.out.far2 ap6v10_b7_10.out (a := .int .i64 s8) (b := .slice A8 n8 c8))
       rw [← hw] at Gv10_6_12
       refine hK.out _ _ ?_ (fun hHeld => ?_)
       · exact Bv10_12.out
       clear Bv10_11 Kv10_v10_b7_100 Gv10_2_11 Gv10_6_11 hw
       clear hK K
       (try simp only [Act.put, uA, uB, uC])
       refine wpAnyH_done (by kernel_rfl) ?_ _
       go_wp2_with fail
       go_meet
       exact ⟨v10_b7_10, rfl, (show OneB _ _ _ _ _ from ⟨_, _, _, _, ⟨Kv10_v10_b7_10_12.out, lov10_b7_10, Gv10_6_12.out, HCv10_6.out, FRv10_6.out⟩, Bv10_12.out⟩)⟩
       refine cons_at (i := 7) rfl (fun K hK => ?_) AllReadyH.nil
       go_simp
       obtain ⟨v10_w13, hw⟩ : ∃ W', W' = v10_w5.alloc (.cells #[.int .i64 0, .slice none 0 0] 24) := ⟨_, rfl⟩
       obtain ⟨v10_b7_13, hb⟩ : ∃ b, b = v10_w5.heap.size := ⟨_, rfl⟩
       have X13 := Lib.hid (bal (Below.refl v10_w5.heap.size v10_w5) (o := .cells #[.int .i64 0, .slice none 0 0] 24))
       have Kv10_v10_b7_130 := Lib.hid (Blk.new v10_w5 24 #[.int .i64 0, .slice none 0 0])
       rw [← hw] at X13 Kv10_v10_b7_130
       rw [← hb] at Kv10_v10_b7_130
       rw [← hw, ← hb]
       have lov10_b7_13 : w139.heap.size ≤ v10_b7_13 := by rw [hb]; exact Bv10_6.out.size
       have ap2v10_b7_13 := Lib.hid (show 0 < n7 → ∀ ad, A7 = some ad → ad.block ≠ v10_b7_13 from fun hp ad e => by rw [hb]; exact Nat.ne_of_lt (Gv10_2_5.out.lt hp e))
       have Bv10_14 := Lib.hid (Bv10_6.out.trans (X13.out.mono Bv10_6.out.size))
       have Gv10_2_14 := Lib.hid (Gv10_2_5.out.past X13.out)
       refine hK.out _ _ ?_ (fun hHeld => ?_)
       · exact Bv10_14.out
       clear Bv10_6 Gv10_2_5 X13 hw hb
       clear hK K
       (try simp only [Act.put, uA, uB, uC])
       refine wpAnyH_ready (rs := [6]) (by kernel_rfl) (by simp) ?_
       refine cons_at (i := 6) rfl (fun K hK => ?_) AllReadyH.nil
       go_simp
       refine (floor_R (x := -xa) ⟨s7, A7, n7, c7, s2a, A2a, n2a, c2a⟩ ⟨neg_bg Gv10_2_14.out, neg_den (Gf140.out.2.past Bv10_14.out)⟩ (HT.out.on (B140.out.trans (Bv10_14.out.mono B140.out.size))) (by decide)).mono ?_
       rintro e v10_w15 ⟨s8, A8, n8, c8, rfl, hc, hg, hf, hb⟩
       try dsimp only
       have X15 := Lib.hid hb
       have Gv10_6_15 := Lib.hid hg
       have HCv10_6 := Lib.hid hc
       have FRv10_6 : Hid (Fresh w139 A8 n8) := fun hp ad e => Nat.le_trans Bv10_14.out.size (hf hp ad e)
       have ap6v10_b7_13 := Lib.hid (show 0 < n8 → ∀ ad, A8 = some ad → ad.block ≠ v10_b7_13 from fun hp ad e => by have := hf hp ad e; have := Kv10_v10_b7_130.out.lt; omega)
       have Bv10_16 := Lib.hid (Bv10_14.out.trans (X15.out.mono Bv10_14.out.size))
       have Kv10_v10_b7_1316 := Lib.hid (Kv10_v10_b7_130.out.below X15.out Kv10_v10_b7_130.out.lt)
       have Gv10_2_16 := Lib.hid (Gv10_2_14.out.past X15.out)
       refine hK.out _ _ ?_ (fun hHeld => ?_)
       · exact Bv10_16.out
       clear Bv10_14 Kv10_v10_b7_130 Gv10_2_14 X15 hc hg hf hb
       clear hK K
       (try simp only [Act.put, uA, uB, uC])
       refine wpAnyH_ready (rs := [8]) (by kernel_rfl) (by simp) ?_
       refine cons_at (i := 8) rfl (fun K hK => ?_) AllReadyH.nil
       obtain ⟨f0, f1, f2, f3⟩ := sm_cells Kv10_v10_b7_1316.out
       go_simp
       clear f0 f1 f2 f3
       obtain ⟨v10_w17, hw⟩ : ∃ W', W' = (v10_w15.setCell ⟨v10_b7_13, 0, none⟩ (.int .i64 s8)).setCell ⟨v10_b7_13, 1, none⟩ (.slice A8 n8 c8) := ⟨_, rfl⟩
       rw [← hw]
       have Bv10_17 := Lib.hid (below_2 Bv10_16.out lov10_b7_13 (u := .int .i64 s8) (v := .slice A8 n8 c8))
       rw [← hw] at Bv10_17
       have Kv10_v10_b7_13_17 := Lib.hid (Kv10_v10_b7_1316.out.set2 (a := .int .i64 s8) (b := .slice A8 n8 c8))
       rw [← hw] at Kv10_v10_b7_13_17
       have Gv10_2_17 := Lib.hid (Gv10_2_16.out.far2 ap2v10_b7_13.out (a := .int .i64 s8) (b := .slice A8 n8 c8))
       rw [← hw] at Gv10_2_17
       have Gv10_6_17 := Lib.hid (Gv10_6_15.out.far2 ap6v10_b7_13.out (a := .int .i64 s8) (b := .slice A8 n8 c8))
       rw [← hw] at Gv10_6_17
       refine hK.out _ _ ?_ (fun hHeld => ?_)
       · exact Bv10_17.out
       clear Bv10_16 Kv10_v10_b7_1316 Gv10_2_16 Gv10_6_15 hw
       clear hK K
       (try simp only [Act.put, uA, uB, uC])
       refine wpAnyH_done (by kernel_rfl) ?_ _
       go_wp2_with fail
       go_meet
       exact ⟨v10_b7_13, rfl, (show OneB _ _ _ _ _ from ⟨_, _, _, _, ⟨Kv10_v10_b7_13_17.out, lov10_b7_13, Gv10_6_17.out, HCv10_6.out, FRv10_6.out⟩, Bv10_17.out⟩)⟩
       refine cons_at (i := 7) rfl (fun K hK => ?_) AllReadyH.nil
       go_simp
       obtain ⟨v10_w18, hw⟩ : ∃ W', W' = v10_w0.alloc (.cells #[.int .i64 0, .slice none 0 0] 24) := ⟨_, rfl⟩
       obtain ⟨v10_b7_18, hb⟩ : ∃ b, b = v10_w0.heap.size := ⟨_, rfl⟩
       have X18 := Lib.hid (bal (Below.refl v10_w0.heap.size v10_w0) (o := .cells #[.int .i64 0, .slice none 0 0] 24))
       have Kv10_v10_b7_180 := Lib.hid (Blk.new v10_w0 24 #[.int .i64 0, .slice none 0 0])
       rw [← hw] at X18 Kv10_v10_b7_180
       rw [← hb] at Kv10_v10_b7_180
       rw [← hw, ← hb]
       have lov10_b7_18 : w139.heap.size ≤ v10_b7_18 := by rw [hb]; exact Bv10_0.out.size
       have Bv10_19 := Lib.hid (Bv10_0.out.trans (X18.out.mono Bv10_0.out.size))
       refine hK.out _ _ ?_ (fun hHeld => ?_)
       · exact Bv10_19.out
       clear Bv10_0 X18 hw hb
       clear hK K
       (try simp only [Act.put, uA, uB, uC])
       refine wpAnyH_ready (rs := [2]) (by kernel_rfl) (by simp) ?_
       refine cons_at (i := 2) rfl (fun K hK => ?_) AllReadyH.nil
       go_simp
       refine (neg_F (Gf140.out.1.past Bv10_19.out) (by decide) c1a).mono ?_
       rintro e v10_w20 ⟨s7, A7, n7, c7, rfl, hc, hg, hf, hb⟩
       try dsimp only
       have X20 := Lib.hid hb
       have Gv10_2_20 := Lib.hid hg
       have HCv10_2 := Lib.hid hc
       have FRv10_2 : Hid (Fresh w139 A7 n7) := fun hp ad e => Nat.le_trans Bv10_19.out.size (hf hp ad e)
       have ap2v10_b7_18 := Lib.hid (show 0 < n7 → ∀ ad, A7 = some ad → ad.block ≠ v10_b7_18 from fun hp ad e => by have := hf hp ad e; have := Kv10_v10_b7_180.out.lt; omega)
       have Bv10_21 := Lib.hid (Bv10_19.out.trans (X20.out.mono Bv10_19.out.size))
       have Kv10_v10_b7_1821 := Lib.hid (Kv10_v10_b7_180.out.below X20.out Kv10_v10_b7_180.out.lt)
       refine hK.out _ _ ?_ (fun hHeld => ?_)
       · exact Bv10_21.out
       clear Bv10_19 Kv10_v10_b7_180 X20 hc hg hf hb
       clear hK K
       (try simp only [Act.put, uA, uB, uC])
       refine take_at (i := 5) (v := ?v10_v22) rfl (by kernel_rfl) (by kernel_rfl) (by kernel_rfl) (fun _ _ _ h => h) (Or.inl ⟨by rfl, ?v10_y22⟩) (by assumption) ?v10_r22
       case v10_y22 => (intro w hSw; (try dsimp only at hSw); go_simp; (try with_reducible rfl))
       simp only [Act.put, List.setIfInBounds_toArray, List.set_cons_zero, List.set_cons_succ]
       refine wpAnyH_ready (rs := [6]) (by kernel_rfl) (by simp) ?_
       refine cons_at (i := 6) rfl (fun K hK => ?_) AllReadyH.nil
       go_simp
       refine (floor_R (x := -xa) ⟨s7, A7, n7, c7, s2a, A2a, n2a, c2a⟩ ⟨neg_bg Gv10_2_20.out, neg_den (Gf140.out.2.past Bv10_21.out)⟩ (HT.out.on (B140.out.trans (Bv10_21.out.mono B140.out.size))) (by decide)).mono ?_
       rintro e v10_w23 ⟨s8, A8, n8, c8, rfl, hc, hg, hf, hb⟩
       try dsimp only
       have X23 := Lib.hid hb
       have Gv10_6_23 := Lib.hid hg
       have HCv10_6 := Lib.hid hc
       have FRv10_6 : Hid (Fresh w139 A8 n8) := fun hp ad e => Nat.le_trans Bv10_21.out.size (hf hp ad e)
       have ap6v10_b7_18 := Lib.hid (show 0 < n8 → ∀ ad, A8 = some ad → ad.block ≠ v10_b7_18 from fun hp ad e => by have := hf hp ad e; have := Kv10_v10_b7_1821.out.lt; omega)
       have Bv10_24 := Lib.hid (Bv10_21.out.trans (X23.out.mono Bv10_21.out.size))
       have Kv10_v10_b7_1824 := Lib.hid (Kv10_v10_b7_1821.out.below X23.out Kv10_v10_b7_1821.out.lt)
       have Gv10_2_24 := Lib.hid (Gv10_2_20.out.past X23.out)
       refine hK.out _ _ ?_ (fun hHeld => ?_)
       · exact Bv10_24.out
       clear Bv10_21 Kv10_v10_b7_1821 Gv10_2_20 X23 hc hg hf hb
       clear hK K
       (try simp only [Act.put, uA, uB, uC])
       refine wpAnyH_ready (rs := [8]) (by kernel_rfl) (by simp) ?_
       refine cons_at (i := 8) rfl (fun K hK => ?_) AllReadyH.nil
       obtain ⟨f0, f1, f2, f3⟩ := sm_cells Kv10_v10_b7_1824.out
       go_simp
       clear f0 f1 f2 f3
       obtain ⟨v10_w25, hw⟩ : ∃ W', W' = (v10_w23.setCell ⟨v10_b7_18, 0, none⟩ (.int .i64 s8)).setCell ⟨v10_b7_18, 1, none⟩ (.slice A8 n8 c8) := ⟨_, rfl⟩
       rw [← hw]
       have Bv10_25 := Lib.hid (below_2 Bv10_24.out lov10_b7_18 (u := .int .i64 s8) (v := .slice A8 n8 c8))
       rw [← hw] at Bv10_25
       have Kv10_v10_b7_18_25 := Lib.hid (Kv10_v10_b7_1824.out.set2 (a := .int .i64 s8) (b := .slice A8 n8 c8))
       rw [← hw] at Kv10_v10_b7_18_25
       have Gv10_2_25 := Lib.hid (Gv10_2_24.out.far2 ap2v10_b7_18.out (a := .int .i64 s8) (b := .slice A8 n8 c8))
       rw [← hw] at Gv10_2_25
       have Gv10_6_25 := Lib.hid (Gv10_6_23.out.far2 ap6v10_b7_18.out (a := .int .i64 s8) (b := .slice A8 n8 c8))
       rw [← hw] at Gv10_6_25
       refine hK.out _ _ ?_ (fun hHeld => ?_)
       · exact Bv10_25.out
       clear Bv10_24 Kv10_v10_b7_1824 Gv10_2_24 Gv10_6_23 hw
       clear hK K
       (try simp only [Act.put, uA, uB, uC])
       refine wpAnyH_done (by kernel_rfl) ?_ _
       go_wp2_with fail
       go_meet
       exact ⟨v10_b7_18, rfl, (show OneB _ _ _ _ _ from ⟨_, _, _, _, ⟨Kv10_v10_b7_18_25.out, lov10_b7_18, Gv10_6_25.out, HCv10_6.out, FRv10_6.out⟩, Bv10_25.out⟩)⟩
      case rest => as_aux_lemma =>
       obtain ⟨bc, rfl, HX⟩ := hcut
       obtain ⟨w141, rfl⟩ : ∃ W : World, W = wc := ⟨_, rfl⟩
       obtain ⟨sc, Ac, nc, cc, ⟨hk, hlo, hg, f1, f2⟩, hb⟩ := HX.out
       have X := Lib.hid hb
       have Kc := Lib.hid hk
       have Gc := Lib.hid hg
       (try dsimp only [frC] at Kc)
       clear HX hk hlo hg f1 f2 hb
       clear zf0 zf1 zf2 zf3
       have B142 := Lib.hid (B140.out.trans (X.out.mono B140.out.size))
       have Kf142 := Lib.hid (Kf140.out.below X.out Kf140.out.lt)
       have Ka142 := Lib.hid (Ka140.out.below X.out Ka140.out.lt)
       have Kb142 := Lib.hid (Kb140.out.below X.out Kb140.out.lt)
       have Kx142 := Lib.hid (Kx140.out.below X.out Kx140.out.lt)
       have Kyy142 := Lib.hid (Kyy140.out.below X.out Kyy140.out.lt)
       have Gf142 := Lib.hid (Gf140.out.past X.out)
       have Ga142 := Lib.hid (Ga140.out.past X.out)
       have Gb142 := Lib.hid (Gb140.out.past X.out)
       have Gx142 := Lib.hid (Gx140.out.past X.out)
       have Gyy142 := Lib.hid (Gyy140.out.past X.out)
       clear X B140 Kf140 Ka140 Kb140 Kx140 Kyy140 Gf140 Ga140 Gb140 Gx140 Gyy140
       by_cases hw0 : ratio xa.floor 1 = xa
       all_goals have HW := Lib.hid hw0
       all_goals clear hw0
       · as_aux_lemma =>
         obtain ⟨zx0, zx1, zx2, zx3, -, -, -, -⟩ := fr_cells Kx142.out
         obtain ⟨zf0, zf1, zf2, zf3, -, -, -, -⟩ := fr_cells Kf142.out
         have M := Lib.hid (same5_R (k := 30) ⟨s1x, A1x, n1x, c1x, s2x, A2x, n2x, c2x⟩ ⟨s1a, A1a, n1a, c1a, s2a, A2a, n2a, c2a⟩ Gx142.out Gf142.out (by decide) (o := true) (decide_eq_true HW.out))
         (try dsimp only [frV] at M)
         go_wp2_with fail
         refine M.out.mono ?_
         rintro e w143 ⟨rfl, hb⟩
         clear M
         have X := Lib.hid hb
         clear hb
         have B144 := Lib.hid (B142.out.trans (X.out.mono B142.out.size))
         have Kf144 := Lib.hid (Kf142.out.below X.out Kf142.out.lt)
         have Ka144 := Lib.hid (Ka142.out.below X.out Ka142.out.lt)
         have Kb144 := Lib.hid (Kb142.out.below X.out Kb142.out.lt)
         have Kx144 := Lib.hid (Kx142.out.below X.out Kx142.out.lt)
         have Kyy144 := Lib.hid (Kyy142.out.below X.out Kyy142.out.lt)
         have Kc144 := Lib.hid (Kc.out.below X.out Kc.out.lt)
         have Gf144 := Lib.hid (Gf142.out.past X.out)
         have Ga144 := Lib.hid (Ga142.out.past X.out)
         have Gb144 := Lib.hid (Gb142.out.past X.out)
         have Gx144 := Lib.hid (Gx142.out.past X.out)
         have Gyy144 := Lib.hid (Gyy142.out.past X.out)
         have Gc144 := Lib.hid (Gc.out.past X.out)
         clear X B142 Kf142 Ka142 Kb142 Kx142 Kyy142 Kc Gf142 Ga142 Gb142 Gx142 Gyy142 Gc
         clear zx0 zx1 zx2 zx3 zf0 zf1 zf2 zf3
         obtain ⟨zb0, zb1, -, -⟩ := sm_cells Kb144.out
         have M := Lib.hid (neg_F Gb144.out (by decide) cb)
         (try dsimp only [frV] at M)
         go_wp2_with fail
         refine M.out.mono ?_
         rintro e w145 ⟨so, Ao, no, co, rfl, hc, hg, hf, hb⟩
         clear M
         have X := Lib.hid hb
         have Go := Lib.hid hg
         clear hc hg hf hb
         have B146 := Lib.hid (B144.out.trans (X.out.mono B144.out.size))
         have Kf146 := Lib.hid (Kf144.out.below X.out Kf144.out.lt)
         have Ka146 := Lib.hid (Ka144.out.below X.out Ka144.out.lt)
         have Kb146 := Lib.hid (Kb144.out.below X.out Kb144.out.lt)
         have Kx146 := Lib.hid (Kx144.out.below X.out Kx144.out.lt)
         have Kyy146 := Lib.hid (Kyy144.out.below X.out Kyy144.out.lt)
         have Kc146 := Lib.hid (Kc144.out.below X.out Kc144.out.lt)
         have Gf146 := Lib.hid (Gf144.out.past X.out)
         have Ga146 := Lib.hid (Ga144.out.past X.out)
         have Gb146 := Lib.hid (Gb144.out.past X.out)
         have Gx146 := Lib.hid (Gx144.out.past X.out)
         have Gyy146 := Lib.hid (Gyy144.out.past X.out)
         have Gc146 := Lib.hid (Gc144.out.past X.out)
         clear X B144 Kf144 Ka144 Kb144 Kx144 Kyy144 Kc144 Gf144 Ga144 Gb144 Gx144 Gyy144 Gc144
         clear zb0 zb1
         have neco : bc ≠ w145.heap.size := Nat.ne_of_lt Kc146.out.lt
         have apco := Lib.hid (show 0 < nc → ∀ ad, Ac = some ad → ad.block ≠ w145.heap.size from fun hp ad e => Nat.ne_of_lt (Gc146.out.lt hp e))
         have loo : w.heap.size ≤ w145.heap.size := B146.out.size
         obtain ⟨w147, hw⟩ : ∃ W, W = w145.alloc (.cells #[.int .i64 so, .slice Ao no co] 24) := ⟨_, rfl⟩
         obtain ⟨bo, hbb⟩ : ∃ b, b = w145.heap.size := ⟨_, rfl⟩
         have X := Lib.hid (bal (Below.refl w145.heap.size w145) (o := .cells #[.int .i64 so, .slice Ao no co] 24))
         rw [← hw] at X
         have Ko := Lib.hid (Blk.new w145 24 #[.int .i64 so, .slice Ao no co])
         rw [← hw, ← hbb] at Ko
         rw [← hbb] at neco
         rw [← hbb] at apco
         rw [← hbb] at loo
         go_upto_region 14 with (fail)
         rw [← hw, ← hbb]
         clear hw hbb
         have B148 := Lib.hid (B146.out.trans (X.out.mono B146.out.size))
         have Kf148 := Lib.hid (Kf146.out.below X.out Kf146.out.lt)
         have Ka148 := Lib.hid (Ka146.out.below X.out Ka146.out.lt)
         have Kb148 := Lib.hid (Kb146.out.below X.out Kb146.out.lt)
         have Kx148 := Lib.hid (Kx146.out.below X.out Kx146.out.lt)
         have Kyy148 := Lib.hid (Kyy146.out.below X.out Kyy146.out.lt)
         have Kc148 := Lib.hid (Kc146.out.below X.out Kc146.out.lt)
         have Gf148 := Lib.hid (Gf146.out.past X.out)
         have Ga148 := Lib.hid (Ga146.out.past X.out)
         have Gb148 := Lib.hid (Gb146.out.past X.out)
         have Gx148 := Lib.hid (Gx146.out.past X.out)
         have Gyy148 := Lib.hid (Gyy146.out.past X.out)
         have Gc148 := Lib.hid (Gc146.out.past X.out)
         have Go148 := Lib.hid (Go.out.past X.out)
         clear X B146 Kf146 Ka146 Kb146 Kx146 Kyy146 Kc146 Gf146 Ga146 Gb146 Gx146 Gyy146 Gc146 Go
         obtain ⟨za0, za1, -, -⟩ := sm_cells Ka148.out
         have M := Lib.hid (neg_F Ga148.out (by decide) ca)
         (try dsimp only [frV] at M)
         go_wp2_with fail
         refine M.out.mono ?_
         rintro e w149 ⟨sp, Ap, np, cp, rfl, hc, hg, hf, hb⟩
         clear M
         have X := Lib.hid hb
         have Gp := Lib.hid hg
         have app := Lib.hid (show 0 < np → ∀ ad, Ap = some ad → ad.block ≠ bo from fun hp ad e => by have := hf hp ad e; have := Ko.out.lt; omega)
         clear hc hg hf hb
         have B150 := Lib.hid (B148.out.trans (X.out.mono B148.out.size))
         have Kf150 := Lib.hid (Kf148.out.below X.out Kf148.out.lt)
         have Ka150 := Lib.hid (Ka148.out.below X.out Ka148.out.lt)
         have Kb150 := Lib.hid (Kb148.out.below X.out Kb148.out.lt)
         have Kx150 := Lib.hid (Kx148.out.below X.out Kx148.out.lt)
         have Kyy150 := Lib.hid (Kyy148.out.below X.out Kyy148.out.lt)
         have Kc150 := Lib.hid (Kc148.out.below X.out Kc148.out.lt)
         have Ko150 := Lib.hid (Ko.out.below X.out Ko.out.lt)
         have Gf150 := Lib.hid (Gf148.out.past X.out)
         have Ga150 := Lib.hid (Ga148.out.past X.out)
         have Gb150 := Lib.hid (Gb148.out.past X.out)
         have Gx150 := Lib.hid (Gx148.out.past X.out)
         have Gyy150 := Lib.hid (Gyy148.out.past X.out)
         have Gc150 := Lib.hid (Gc148.out.past X.out)
         have Go150 := Lib.hid (Go148.out.past X.out)
         clear X B148 Kf148 Ka148 Kb148 Kx148 Kyy148 Kc148 Ko Gf148 Ga148 Gb148 Gx148 Gyy148 Gc148 Go148
         clear za0 za1
         obtain ⟨f0, f1, f2, f3⟩ := sm_cells Ko150.out
         obtain ⟨w151, hw⟩ : ∃ W', W' = (w149.setCell ⟨bo, 0, none⟩ (.int .i64 sp)).setCell ⟨bo, 1, none⟩ (.slice Ap np cp) := ⟨_, rfl⟩
         go_upto_region 15 with (fail)
         rw [← hw]
         clear f0 f1 f2 f3
         have B151 := Lib.hid (below_2 B150.out loo (u := .int .i64 sp) (v := .slice Ap np cp))
         rw [← hw] at B151
         have Kc151 := Lib.hid (Kc150.out.far2 neco (a := .int .i64 sp) (b := .slice Ap np cp))
         have Gc151 := Lib.hid (Gc150.out.far2 apco.out (a := .int .i64 sp) (b := .slice Ap np cp))
         rw [← hw] at Kc151 Gc151
         have Ko151 := Lib.hid (Ko150.out.set2 (a := .int .i64 sp) (b := .slice Ap np cp))
         have Go151 := Lib.hid (Gp.out.far2 app.out (a := .int .i64 sp) (b := .slice Ap np cp))
         rw [← hw] at Ko151 Go151
         clear hw B150 Kf150 Gf150 Ka150 Ga150 Kb150 Gb150 Kx150 Gx150 Kyy150 Gyy150 Kc150 Gc150 Ko150 Go150 Gp
         obtain ⟨zc0, zc1, -, -⟩ := sm_cells Kc151.out
         obtain ⟨zo0, zo1, -, -⟩ := sm_cells Ko151.out
         have M := Lib.hid (sameBig_B Gc151.out Go151.out (by decide) (by decide) cc cp (r := true) (decide_eq_true (floor_neg_int HW.out)))
         (try dsimp only [frV] at M)
         go_wp2_with fail
         refine M.out.mono ?_
         rintro e w152 ⟨rfl, hb⟩
         clear M
         have X := Lib.hid hb
         clear hb
         have B153 := Lib.hid (B151.out.trans (X.out.mono B151.out.size))
         have Kc153 := Lib.hid (Kc151.out.below X.out Kc151.out.lt)
         have Ko153 := Lib.hid (Ko151.out.below X.out Ko151.out.lt)
         have Gc153 := Lib.hid (Gc151.out.past X.out)
         have Go153 := Lib.hid (Go151.out.past X.out)
         clear X B151 Kc151 Ko151 Gc151 Go151
         clear zc0 zc1 zo0 zo1
         have M := Lib.hid (lof5 z 1 w152 HZ.out.1 HZ.out.2 (by decide) (by decide) (by decide) (HT.out.on B153.out))
         (try dsimp only [frV] at M)
         go_wp2_with fail
         refine M.out.mono ?_
         rintro e w154 ⟨⟨s1g, A1g, n1g, c1g, s2g, A2g, n2g, c2g⟩, rfl, hc1, hc2, hf, f1, f2, hb⟩
         clear M
         (try dsimp only [frV])
         have X := Lib.hid hb
         have Gg := Lib.hid hf
         clear hc1 hc2 hf f1 f2 hb
         have B155 := Lib.hid (B153.out.trans (X.out.mono B153.out.size))
         have Kc155 := Lib.hid (Kc153.out.below X.out Kc153.out.lt)
         have Ko155 := Lib.hid (Ko153.out.below X.out Ko153.out.lt)
         have Gc155 := Lib.hid (Gc153.out.past X.out)
         have Go155 := Lib.hid (Go153.out.past X.out)
         clear X B153 Kc153 Ko153 Gc153 Go153
         have M := Lib.hid (floor_R ⟨s1g, A1g, n1g, c1g, s2g, A2g, n2g, c2g⟩ Gg.out (HT.out.on B155.out) (by decide))
         (try dsimp only [frV] at M)
         go_wp2_with fail
         refine M.out.mono ?_
         rintro e w156 ⟨sh, Ah, nh, ch, rfl, hc, hg, hf, hb⟩
         clear M
         have X := Lib.hid hb
         have Gh := Lib.hid hg
         clear hc hg hf hb
         have B157 := Lib.hid (B155.out.trans (X.out.mono B155.out.size))
         have Kc157 := Lib.hid (Kc155.out.below X.out Kc155.out.lt)
         have Ko157 := Lib.hid (Ko155.out.below X.out Ko155.out.lt)
         have Gc157 := Lib.hid (Gc155.out.past X.out)
         have Go157 := Lib.hid (Go155.out.past X.out)
         have Gg157 := Lib.hid (Gg.out.past X.out)
         clear X B155 Kc155 Ko155 Gc155 Go155 Gg
         have M := Lib.hid (of_F z w156 HZ.out.1 HZ.out.2)
         (try dsimp only [frV] at M)
         go_wp2_with fail
         refine M.out.mono ?_
         rintro e w158 ⟨si, Ai, ni, ci, rfl, hc, hg, hf, hb⟩
         clear M
         have X := Lib.hid hb
         have Gi := Lib.hid hg
         clear hc hg hf hb
         have B159 := Lib.hid (B157.out.trans (X.out.mono B157.out.size))
         have Kc159 := Lib.hid (Kc157.out.below X.out Kc157.out.lt)
         have Ko159 := Lib.hid (Ko157.out.below X.out Ko157.out.lt)
         have Gc159 := Lib.hid (Gc157.out.past X.out)
         have Go159 := Lib.hid (Go157.out.past X.out)
         have Gg159 := Lib.hid (Gg157.out.past X.out)
         have Gh159 := Lib.hid (Gh.out.past X.out)
         clear X B157 Kc157 Ko157 Gc157 Go157 Gg157 Gh
         have M := Lib.hid (sameBig_B Gh159.out Gi.out (by decide) (by decide) ch ci (r := true) (decide_eq_true (by rw [ratio_int, Rat.floor_intCast])))
         (try dsimp only [frV] at M)
         go_wp2_with fail
         refine M.out.mono ?_
         rintro e w160 ⟨rfl, hb⟩
         clear M
         have X := Lib.hid hb
         clear hb
         have B161 := Lib.hid (B159.out.trans (X.out.mono B159.out.size))
         have Kc161 := Lib.hid (Kc159.out.below X.out Kc159.out.lt)
         have Ko161 := Lib.hid (Ko159.out.below X.out Ko159.out.lt)
         have Gc161 := Lib.hid (Gc159.out.past X.out)
         have Go161 := Lib.hid (Go159.out.past X.out)
         have Gg161 := Lib.hid (Gg159.out.past X.out)
         have Gh161 := Lib.hid (Gh159.out.past X.out)
         have Gi161 := Lib.hid (Gi.out.past X.out)
         clear X B159 Kc159 Ko159 Gc159 Go159 Gg159 Gh159 Gi
         go_wp2_with fail
         go_ret
         exact ⟨rfl, B161.out⟩
       · as_aux_lemma =>
         obtain ⟨zx0, zx1, zx2, zx3, -, -, -, -⟩ := fr_cells Kx142.out
         obtain ⟨zf0, zf1, zf2, zf3, -, -, -, -⟩ := fr_cells Kf142.out
         have M := Lib.hid (same5_R (k := 30) ⟨s1x, A1x, n1x, c1x, s2x, A2x, n2x, c2x⟩ ⟨s1a, A1a, n1a, c1a, s2a, A2a, n2a, c2a⟩ Gx142.out Gf142.out (by decide) (o := false) (decide_eq_false HW.out))
         (try dsimp only [frV] at M)
         go_wp2_with fail
         refine M.out.mono ?_
         rintro e w143 ⟨rfl, hb⟩
         clear M
         have X := Lib.hid hb
         clear hb
         have B144 := Lib.hid (B142.out.trans (X.out.mono B142.out.size))
         have Kf144 := Lib.hid (Kf142.out.below X.out Kf142.out.lt)
         have Ka144 := Lib.hid (Ka142.out.below X.out Ka142.out.lt)
         have Kb144 := Lib.hid (Kb142.out.below X.out Kb142.out.lt)
         have Kx144 := Lib.hid (Kx142.out.below X.out Kx142.out.lt)
         have Kyy144 := Lib.hid (Kyy142.out.below X.out Kyy142.out.lt)
         have Kc144 := Lib.hid (Kc.out.below X.out Kc.out.lt)
         have Gf144 := Lib.hid (Gf142.out.past X.out)
         have Ga144 := Lib.hid (Ga142.out.past X.out)
         have Gb144 := Lib.hid (Gb142.out.past X.out)
         have Gx144 := Lib.hid (Gx142.out.past X.out)
         have Gyy144 := Lib.hid (Gyy142.out.past X.out)
         have Gc144 := Lib.hid (Gc.out.past X.out)
         clear X B142 Kf142 Ka142 Kb142 Kx142 Kyy142 Kc Gf142 Ga142 Gb142 Gx142 Gyy142 Gc
         clear zx0 zx1 zx2 zx3 zf0 zf1 zf2 zf3
         obtain ⟨zb0, zb1, -, -⟩ := sm_cells Kb144.out
         have M := Lib.hid (neg_F Gb144.out (by decide) cb)
         (try dsimp only [frV] at M)
         go_wp2_with fail
         refine M.out.mono ?_
         rintro e w145 ⟨so, Ao, no, co, rfl, hc, hg, hf, hb⟩
         clear M
         have X := Lib.hid hb
         have Go := Lib.hid hg
         clear hc hg hf hb
         have B146 := Lib.hid (B144.out.trans (X.out.mono B144.out.size))
         have Kf146 := Lib.hid (Kf144.out.below X.out Kf144.out.lt)
         have Ka146 := Lib.hid (Ka144.out.below X.out Ka144.out.lt)
         have Kb146 := Lib.hid (Kb144.out.below X.out Kb144.out.lt)
         have Kx146 := Lib.hid (Kx144.out.below X.out Kx144.out.lt)
         have Kyy146 := Lib.hid (Kyy144.out.below X.out Kyy144.out.lt)
         have Kc146 := Lib.hid (Kc144.out.below X.out Kc144.out.lt)
         have Gf146 := Lib.hid (Gf144.out.past X.out)
         have Ga146 := Lib.hid (Ga144.out.past X.out)
         have Gb146 := Lib.hid (Gb144.out.past X.out)
         have Gx146 := Lib.hid (Gx144.out.past X.out)
         have Gyy146 := Lib.hid (Gyy144.out.past X.out)
         have Gc146 := Lib.hid (Gc144.out.past X.out)
         clear X B144 Kf144 Ka144 Kb144 Kx144 Kyy144 Kc144 Gf144 Ga144 Gb144 Gx144 Gyy144 Gc144
         clear zb0 zb1
         have loo : w.heap.size ≤ w145.heap.size := B146.out.size
         obtain ⟨w147, hw⟩ : ∃ W, W = w145.alloc (.cells #[.int .i64 so, .slice Ao no co] 24) := ⟨_, rfl⟩
         obtain ⟨bo, hbb⟩ : ∃ b, b = w145.heap.size := ⟨_, rfl⟩
         have X := Lib.hid (bal (Below.refl w145.heap.size w145) (o := .cells #[.int .i64 so, .slice Ao no co] 24))
         rw [← hw] at X
         have Ko := Lib.hid (Blk.new w145 24 #[.int .i64 so, .slice Ao no co])
         rw [← hw, ← hbb] at Ko
         rw [← hbb] at loo
         go_upto_region 15 with (fail)
         rw [← hw, ← hbb]
         clear hw hbb
         have B148 := Lib.hid (B146.out.trans (X.out.mono B146.out.size))
         have Kf148 := Lib.hid (Kf146.out.below X.out Kf146.out.lt)
         have Ka148 := Lib.hid (Ka146.out.below X.out Ka146.out.lt)
         have Kb148 := Lib.hid (Kb146.out.below X.out Kb146.out.lt)
         have Kx148 := Lib.hid (Kx146.out.below X.out Kx146.out.lt)
         have Kyy148 := Lib.hid (Kyy146.out.below X.out Kyy146.out.lt)
         have Kc148 := Lib.hid (Kc146.out.below X.out Kc146.out.lt)
         have Gf148 := Lib.hid (Gf146.out.past X.out)
         have Ga148 := Lib.hid (Ga146.out.past X.out)
         have Gb148 := Lib.hid (Gb146.out.past X.out)
         have Gx148 := Lib.hid (Gx146.out.past X.out)
         have Gyy148 := Lib.hid (Gyy146.out.past X.out)
         have Gc148 := Lib.hid (Gc146.out.past X.out)
         have Go148 := Lib.hid (Go.out.past X.out)
         clear X B146 Kf146 Ka146 Kb146 Kx146 Kyy146 Kc146 Gf146 Ga146 Gb146 Gx146 Gyy146 Gc146 Go
         obtain ⟨zc0, zc1, -, -⟩ := sm_cells Kc148.out
         obtain ⟨zo0, zo1, -, -⟩ := sm_cells Ko.out
         have M := Lib.hid (sameBig_B Gc148.out Go148.out (by decide) (by decide) cc co (r := true) (decide_eq_true (floor_neg_no HW.out)))
         (try dsimp only [frV] at M)
         go_wp2_with fail
         refine M.out.mono ?_
         rintro e w149 ⟨rfl, hb⟩
         clear M
         have X := Lib.hid hb
         clear hb
         have B150 := Lib.hid (B148.out.trans (X.out.mono B148.out.size))
         have Kf150 := Lib.hid (Kf148.out.below X.out Kf148.out.lt)
         have Ka150 := Lib.hid (Ka148.out.below X.out Ka148.out.lt)
         have Kb150 := Lib.hid (Kb148.out.below X.out Kb148.out.lt)
         have Kx150 := Lib.hid (Kx148.out.below X.out Kx148.out.lt)
         have Kyy150 := Lib.hid (Kyy148.out.below X.out Kyy148.out.lt)
         have Kc150 := Lib.hid (Kc148.out.below X.out Kc148.out.lt)
         have Ko150 := Lib.hid (Ko.out.below X.out Ko.out.lt)
         have Gf150 := Lib.hid (Gf148.out.past X.out)
         have Ga150 := Lib.hid (Ga148.out.past X.out)
         have Gb150 := Lib.hid (Gb148.out.past X.out)
         have Gx150 := Lib.hid (Gx148.out.past X.out)
         have Gyy150 := Lib.hid (Gyy148.out.past X.out)
         have Gc150 := Lib.hid (Gc148.out.past X.out)
         have Go150 := Lib.hid (Go148.out.past X.out)
         clear X B148 Kf148 Ka148 Kb148 Kx148 Kyy148 Kc148 Ko Gf148 Ga148 Gb148 Gx148 Gyy148 Gc148 Go148
         clear zc0 zc1 zo0 zo1
         have M := Lib.hid (lof5 z 1 w149 HZ.out.1 HZ.out.2 (by decide) (by decide) (by decide) (HT.out.on B150.out))
         (try dsimp only [frV] at M)
         go_wp2_with fail
         refine M.out.mono ?_
         rintro e w151 ⟨⟨s1g, A1g, n1g, c1g, s2g, A2g, n2g, c2g⟩, rfl, hc1, hc2, hf, f1, f2, hb⟩
         clear M
         (try dsimp only [frV])
         have X := Lib.hid hb
         have Gg := Lib.hid hf
         clear hc1 hc2 hf f1 f2 hb
         have B152 := Lib.hid (B150.out.trans (X.out.mono B150.out.size))
         have Kf152 := Lib.hid (Kf150.out.below X.out Kf150.out.lt)
         have Ka152 := Lib.hid (Ka150.out.below X.out Ka150.out.lt)
         have Kb152 := Lib.hid (Kb150.out.below X.out Kb150.out.lt)
         have Kx152 := Lib.hid (Kx150.out.below X.out Kx150.out.lt)
         have Kyy152 := Lib.hid (Kyy150.out.below X.out Kyy150.out.lt)
         have Kc152 := Lib.hid (Kc150.out.below X.out Kc150.out.lt)
         have Ko152 := Lib.hid (Ko150.out.below X.out Ko150.out.lt)
         have Gf152 := Lib.hid (Gf150.out.past X.out)
         have Ga152 := Lib.hid (Ga150.out.past X.out)
         have Gb152 := Lib.hid (Gb150.out.past X.out)
         have Gx152 := Lib.hid (Gx150.out.past X.out)
         have Gyy152 := Lib.hid (Gyy150.out.past X.out)
         have Gc152 := Lib.hid (Gc150.out.past X.out)
         have Go152 := Lib.hid (Go150.out.past X.out)
         clear X B150 Kf150 Ka150 Kb150 Kx150 Kyy150 Kc150 Ko150 Gf150 Ga150 Gb150 Gx150 Gyy150 Gc150 Go150
         have M := Lib.hid (floor_R ⟨s1g, A1g, n1g, c1g, s2g, A2g, n2g, c2g⟩ Gg.out (HT.out.on B152.out) (by decide))
         (try dsimp only [frV] at M)
         go_wp2_with fail
         refine M.out.mono ?_
         rintro e w153 ⟨sh, Ah, nh, ch, rfl, hc, hg, hf, hb⟩
         clear M
         have X := Lib.hid hb
         have Gh := Lib.hid hg
         clear hc hg hf hb
         have B154 := Lib.hid (B152.out.trans (X.out.mono B152.out.size))
         have Kf154 := Lib.hid (Kf152.out.below X.out Kf152.out.lt)
         have Ka154 := Lib.hid (Ka152.out.below X.out Ka152.out.lt)
         have Kb154 := Lib.hid (Kb152.out.below X.out Kb152.out.lt)
         have Kx154 := Lib.hid (Kx152.out.below X.out Kx152.out.lt)
         have Kyy154 := Lib.hid (Kyy152.out.below X.out Kyy152.out.lt)
         have Kc154 := Lib.hid (Kc152.out.below X.out Kc152.out.lt)
         have Ko154 := Lib.hid (Ko152.out.below X.out Ko152.out.lt)
         have Gf154 := Lib.hid (Gf152.out.past X.out)
         have Ga154 := Lib.hid (Ga152.out.past X.out)
         have Gb154 := Lib.hid (Gb152.out.past X.out)
         have Gx154 := Lib.hid (Gx152.out.past X.out)
         have Gyy154 := Lib.hid (Gyy152.out.past X.out)
         have Gc154 := Lib.hid (Gc152.out.past X.out)
         have Go154 := Lib.hid (Go152.out.past X.out)
         have Gg154 := Lib.hid (Gg.out.past X.out)
         clear X B152 Kf152 Ka152 Kb152 Kx152 Kyy152 Kc152 Ko152 Gf152 Ga152 Gb152 Gx152 Gyy152 Gc152 Go152 Gg
         have M := Lib.hid (of_F z w153 HZ.out.1 HZ.out.2)
         (try dsimp only [frV] at M)
         go_wp2_with fail
         refine M.out.mono ?_
         rintro e w155 ⟨si, Ai, ni, ci, rfl, hc, hg, hf, hb⟩
         clear M
         have X := Lib.hid hb
         have Gi := Lib.hid hg
         clear hc hg hf hb
         have B156 := Lib.hid (B154.out.trans (X.out.mono B154.out.size))
         have Kf156 := Lib.hid (Kf154.out.below X.out Kf154.out.lt)
         have Ka156 := Lib.hid (Ka154.out.below X.out Ka154.out.lt)
         have Kb156 := Lib.hid (Kb154.out.below X.out Kb154.out.lt)
         have Kx156 := Lib.hid (Kx154.out.below X.out Kx154.out.lt)
         have Kyy156 := Lib.hid (Kyy154.out.below X.out Kyy154.out.lt)
         have Kc156 := Lib.hid (Kc154.out.below X.out Kc154.out.lt)
         have Ko156 := Lib.hid (Ko154.out.below X.out Ko154.out.lt)
         have Gf156 := Lib.hid (Gf154.out.past X.out)
         have Ga156 := Lib.hid (Ga154.out.past X.out)
         have Gb156 := Lib.hid (Gb154.out.past X.out)
         have Gx156 := Lib.hid (Gx154.out.past X.out)
         have Gyy156 := Lib.hid (Gyy154.out.past X.out)
         have Gc156 := Lib.hid (Gc154.out.past X.out)
         have Go156 := Lib.hid (Go154.out.past X.out)
         have Gg156 := Lib.hid (Gg154.out.past X.out)
         have Gh156 := Lib.hid (Gh.out.past X.out)
         clear X B154 Kf154 Ka154 Kb154 Kx154 Kyy154 Kc154 Ko154 Gf154 Ga154 Gb154 Gx154 Gyy154 Gc154 Go154 Gg154 Gh
         have M := Lib.hid (sameBig_B Gh156.out Gi.out (by decide) (by decide) ch ci (r := true) (decide_eq_true (by rw [ratio_int, Rat.floor_intCast])))
         (try dsimp only [frV] at M)
         go_wp2_with fail
         refine M.out.mono ?_
         rintro e w157 ⟨rfl, hb⟩
         clear M
         have X := Lib.hid hb
         clear hb
         have B158 := Lib.hid (B156.out.trans (X.out.mono B156.out.size))
         have Kf158 := Lib.hid (Kf156.out.below X.out Kf156.out.lt)
         have Ka158 := Lib.hid (Ka156.out.below X.out Ka156.out.lt)
         have Kb158 := Lib.hid (Kb156.out.below X.out Kb156.out.lt)
         have Kx158 := Lib.hid (Kx156.out.below X.out Kx156.out.lt)
         have Kyy158 := Lib.hid (Kyy156.out.below X.out Kyy156.out.lt)
         have Kc158 := Lib.hid (Kc156.out.below X.out Kc156.out.lt)
         have Ko158 := Lib.hid (Ko156.out.below X.out Ko156.out.lt)
         have Gf158 := Lib.hid (Gf156.out.past X.out)
         have Ga158 := Lib.hid (Ga156.out.past X.out)
         have Gb158 := Lib.hid (Gb156.out.past X.out)
         have Gx158 := Lib.hid (Gx156.out.past X.out)
         have Gyy158 := Lib.hid (Gyy156.out.past X.out)
         have Gc158 := Lib.hid (Gc156.out.past X.out)
         have Go158 := Lib.hid (Go156.out.past X.out)
         have Gg158 := Lib.hid (Gg156.out.past X.out)
         have Gh158 := Lib.hid (Gh156.out.past X.out)
         have Gi158 := Lib.hid (Gi.out.past X.out)
         clear X B156 Kf156 Ka156 Kb156 Kx156 Kyy156 Kc156 Ko156 Gf156 Ga156 Gb156 Gx156 Gyy156 Gc156 Go156 Gg156 Gh156 Gi
         go_wp2_with fail
         go_ret
         exact ⟨rfl, B158.out⟩
theorem floor_walk (ra : FrR) (l1a l2a : List Int) (z : Int) (hz : -9223372036854775808 ≤ z ∧ z ≤ 9223372036854775807) (w : World) (haa : FrArg w ra l1a l2a) (hT : TabZ w) (hS : Tab w) (hM : MaxL w) :
    Calls Tryz.prog 6 #[frV ra, .int .i64 z] w fun e w' => e = .returned (.bool true) ∧ Below w.heap.size w w' := by
  by_cases t0 : (ra.n1 : Int) ≤ 30 ∧ (ra.n2 : Int) ≤ 30
  case neg => exact floor_e0 ra l1a l2a z w haa hT hS hM (by omega)
  by_cases u1 : ∃ x, IsFr w ra x
  case neg => exact floor_e1 ra l1a l2a z w haa hT hS hM t0 (fun x hx => u1 ⟨x, hx⟩)
  obtain ⟨xa, t1⟩ := u1
  exact floor_main ra l1a l2a z hz w haa hT hS hM t0 xa t1
end Go.Proofs.YtmkhoofeekollaaGreatDoor
