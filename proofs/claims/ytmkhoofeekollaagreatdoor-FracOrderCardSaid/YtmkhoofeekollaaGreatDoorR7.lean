/- The walk of the law FracOrder. Conditions: the arguments' memory; the tables of math/bits and strconv as their texts lay them; the variable MaxLen of internal/bytealg holds an int. -/
import Derived.Test.YtmkhoofeekollaaGreatDoorR6
import Derived.Deep.DeepCutAuto
namespace Go.Proofs.YtmkhoofeekollaaGreatDoor
set_option maxRecDepth 20000
open Go.RowKit

theorem zero_add_neg {x : Rat} : x + -x = ((0 : Int) : Rat) := by rw [Rat.add_neg_cancel]; rfl
theorem ord_ll {x y z : Rat} (h : x < y) (g : y < z) : ordR x z = -1 := ordR_lt (by grind)
theorem ord_le {x y z : Rat} (h : x < y) (g : y = z) : ordR x z = -1 := ordR_lt (by grind)
theorem ord_el {x y z : Rat} (h : x = y) (g : y < z) : ordR x z = -1 := ordR_lt (by grind)
theorem ord_ee {x y z : Rat} (h : x = y) (g : y = z) : ordR x z = 0 := by rw [h, g]; exact ordR_self _
set_option maxHeartbeats 16000000 in
theorem order_main (ra : FrR) (l1a l2a : List Int) (rb : FrR) (l1b l2b : List Int) (rc : FrR) (l1c l2c : List Int) (w : World) (_haa : FrArg w ra l1a l2a) (_hab : FrArg w rb l1b l2b) (_hac : FrArg w rc l1c l2c) (hT : TabZ w) (hS : Tab w) (hM : MaxL w) (t0 : (ra.n1 : Int) ≤ 12 ∧ (ra.n2 : Int) ≤ 12) (t1 : (rb.n1 : Int) ≤ 12 ∧ (rb.n2 : Int) ≤ 12) (t2 : (rc.n1 : Int) ≤ 12 ∧ (rc.n2 : Int) ≤ 12) (xa : Rat) (t3 : IsFr w ra xa) (xb : Rat) (t4 : IsFr w rb xb) (xc : Rat) (t5 : IsFr w rc xc) :
    Calls Tryz.prog 4 #[frV ra, frV rb, frV rc] w fun e w' => e = .returned (.bool true) ∧ Below w.heap.size w w' := by
  have HR0 := Lib.hid t0
  have HR1 := Lib.hid t1
  have HR2 := Lib.hid t2
  have HR3 := Lib.hid t3
  have HR4 := Lib.hid t4
  have HR5 := Lib.hid t5
  have HXa : Hid (Fg w 12 xa ra) := ⟨t3.1.as (by have h := t3.1; have hl := h.len; exact few_sz h (by omega)), t3.2.as (by have h := t3.2; exact few_sz h (by omega))⟩
  have HXb : Hid (Fg w 12 xb rb) := ⟨t4.1.as (by have h := t4.1; have hl := h.len; exact few_sz h (by omega)), t4.2.as (by have h := t4.2; exact few_sz h (by omega))⟩
  have HXc : Hid (Fg w 12 xc rc) := ⟨t5.1.as (by have h := t5.1; have hl := h.len; exact few_sz h (by omega)), t5.2.as (by have h := t5.2; exact few_sz h (by omega))⟩
  clear t0 t1 t2 t3 t4 t5 _haa _hab _hac
  obtain ⟨W0, hW0⟩ : ∃ W0, W0 = ((w.alloc (.cells (frC ra) 26)).alloc (.cells (frC rb) 26)).alloc (.cells (frC rc) 26) := ⟨_, rfl⟩
  have B0 : Hid (Below w.heap.size w W0) := by show Below _ _ _; rw [hW0]; exact (bal (bal (bal (Below.refl w.heap.size w))))
  have Ka : Hid (Blk W0 (w.heap.size) 26 (frC ra)) := by show Blk _ _ _ _; rw [hW0]; exact (((Blk.new_ (by simp)).alloc _).alloc _)
  have Kb : Hid (Blk W0 (w.heap.size + 1) 26 (frC rb)) := by show Blk _ _ _ _; rw [hW0]; exact ((Blk.new_ (by simp)).alloc _)
  have Kc : Hid (Blk W0 (w.heap.size + 1 + 1) 26 (frC rc)) := by show Blk _ _ _ _; rw [hW0]; exact (Blk.new_ (by simp))
  have HT := Lib.hid hT
  have HS := Lib.hid hS
  have HM := Lib.hid hM
  obtain ⟨s1a, A1a, n1a, c1a, s2a, A2a, n2a, c2a⟩ := ra
  obtain ⟨s1b, A1b, n1b, c1b, s2b, A2b, n2b, c2b⟩ := rb
  obtain ⟨s1c, A1c, n1c, c1c, s2c, A2c, n2c, c2c⟩ := rc
  dsimp only [frV, frC] at *
  clear hT hS hM
  go_enter Tryz.func4, Tryz.ntmps4
  go_wp2_with fail
  rw [← hW0]
  clear hW0
  have M := Lib.hid (small5_any W0 (HT.out.on B0.out) (HS.out.on B0.out) (HM.out.on B0.out HM.out.pos))
  (try dsimp only [frV] at M)
  go_wp2_with fail
  refine M.out.mono ?_
  rintro e wa1 ⟨rfl, hb⟩
  clear M
  have X := Lib.hid hb
  clear hb
  have Ba2 := Lib.hid (B0.out.trans (X.out.mono B0.out.size))
  have Kaa2 := Lib.hid (Ka.out.below X.out Ka.out.lt)
  have Kab2 := Lib.hid (Kb.out.below X.out Kb.out.lt)
  have Kac2 := Lib.hid (Kc.out.below X.out Kc.out.lt)
  clear X B0 Ka Kb Kc
  obtain ⟨za0, za1, za2, za3, -, -, -, -⟩ := fr_cells Kaa2.out
  have M := Lib.hid (few5_T ⟨s1a, A1a, n1a, c1a, s2a, A2a, n2a, c2a⟩ 12 wa1 HR0.out.1 HR0.out.2)
  (try dsimp only [frV] at M)
  go_wp2_with fail
  refine M.out.mono ?_
  rintro e wa3 ⟨rfl, hb⟩
  clear M
  have X := Lib.hid hb
  clear hb
  have Ba4 := Lib.hid (Ba2.out.trans (X.out.mono Ba2.out.size))
  have Kaa4 := Lib.hid (Kaa2.out.below X.out Kaa2.out.lt)
  have Kab4 := Lib.hid (Kab2.out.below X.out Kab2.out.lt)
  have Kac4 := Lib.hid (Kac2.out.below X.out Kac2.out.lt)
  clear X Ba2 Kaa2 Kab2 Kac2
  clear za0 za1 za2 za3
  obtain ⟨zb0, zb1, zb2, zb3, -, -, -, -⟩ := fr_cells Kab4.out
  have M := Lib.hid (few5_T ⟨s1b, A1b, n1b, c1b, s2b, A2b, n2b, c2b⟩ 12 wa3 HR1.out.1 HR1.out.2)
  (try dsimp only [frV] at M)
  go_wp2_with fail
  refine M.out.mono ?_
  rintro e wa5 ⟨rfl, hb⟩
  clear M
  have X := Lib.hid hb
  clear hb
  have Ba6 := Lib.hid (Ba4.out.trans (X.out.mono Ba4.out.size))
  have Kaa6 := Lib.hid (Kaa4.out.below X.out Kaa4.out.lt)
  have Kab6 := Lib.hid (Kab4.out.below X.out Kab4.out.lt)
  have Kac6 := Lib.hid (Kac4.out.below X.out Kac4.out.lt)
  clear X Ba4 Kaa4 Kab4 Kac4
  clear zb0 zb1 zb2 zb3
  obtain ⟨zc0, zc1, zc2, zc3, -, -, -, -⟩ := fr_cells Kac6.out
  have M := Lib.hid (few5_T ⟨s1c, A1c, n1c, c1c, s2c, A2c, n2c, c2c⟩ 12 wa5 HR2.out.1 HR2.out.2)
  (try dsimp only [frV] at M)
  go_wp2_with fail
  refine M.out.mono ?_
  rintro e wa7 ⟨rfl, hb⟩
  clear M
  have X := Lib.hid hb
  clear hb
  have Ba8 := Lib.hid (Ba6.out.trans (X.out.mono Ba6.out.size))
  have Kaa8 := Lib.hid (Kaa6.out.below X.out Kaa6.out.lt)
  have Kab8 := Lib.hid (Kab6.out.below X.out Kab6.out.lt)
  have Kac8 := Lib.hid (Kac6.out.below X.out Kac6.out.lt)
  clear X Ba6 Kaa6 Kab6 Kac6
  clear zc0 zc1 zc2 zc3
  obtain ⟨za0, za1, za2, za3, -, -, -, -⟩ := fr_cells Kaa8.out
  have M := Lib.hid (right_T ⟨s1a, A1a, n1a, c1a, s2a, A2a, n2a, c2a⟩ (HR3.out.past Ba8.out) (HT.out.on Ba8.out) (by dsimp only; have := HR0.out; have := HR0.out; omega))
  (try dsimp only [frV] at M)
  go_wp2_with fail
  refine M.out.mono ?_
  rintro e wa9 ⟨rfl, hb⟩
  clear M
  have X := Lib.hid hb
  clear hb
  have Ba10 := Lib.hid (Ba8.out.trans (X.out.mono Ba8.out.size))
  have Kaa10 := Lib.hid (Kaa8.out.below X.out Kaa8.out.lt)
  have Kab10 := Lib.hid (Kab8.out.below X.out Kab8.out.lt)
  have Kac10 := Lib.hid (Kac8.out.below X.out Kac8.out.lt)
  clear X Ba8 Kaa8 Kab8 Kac8
  clear za0 za1 za2 za3
  obtain ⟨zb0, zb1, zb2, zb3, -, -, -, -⟩ := fr_cells Kab10.out
  have M := Lib.hid (right_T ⟨s1b, A1b, n1b, c1b, s2b, A2b, n2b, c2b⟩ (HR4.out.past Ba10.out) (HT.out.on Ba10.out) (by dsimp only; have := HR1.out; have := HR1.out; omega))
  (try dsimp only [frV] at M)
  go_wp2_with fail
  refine M.out.mono ?_
  rintro e wa11 ⟨rfl, hb⟩
  clear M
  have X := Lib.hid hb
  clear hb
  have Ba12 := Lib.hid (Ba10.out.trans (X.out.mono Ba10.out.size))
  have Kaa12 := Lib.hid (Kaa10.out.below X.out Kaa10.out.lt)
  have Kab12 := Lib.hid (Kab10.out.below X.out Kab10.out.lt)
  have Kac12 := Lib.hid (Kac10.out.below X.out Kac10.out.lt)
  clear X Ba10 Kaa10 Kab10 Kac10
  clear zb0 zb1 zb2 zb3
  obtain ⟨zc0, zc1, zc2, zc3, -, -, -, -⟩ := fr_cells Kac12.out
  have M := Lib.hid (right_T ⟨s1c, A1c, n1c, c1c, s2c, A2c, n2c, c2c⟩ (HR5.out.past Ba12.out) (HT.out.on Ba12.out) (by dsimp only; have := HR2.out; have := HR2.out; omega))
  (try dsimp only [frV] at M)
  go_wp2_with fail
  refine M.out.mono ?_
  rintro e wa13 ⟨rfl, hb⟩
  clear M
  have X := Lib.hid hb
  clear hb
  have Ba14 := Lib.hid (Ba12.out.trans (X.out.mono Ba12.out.size))
  have Kaa14 := Lib.hid (Kaa12.out.below X.out Kaa12.out.lt)
  have Kab14 := Lib.hid (Kab12.out.below X.out Kab12.out.lt)
  have Kac14 := Lib.hid (Kac12.out.below X.out Kac12.out.lt)
  clear X Ba12 Kaa12 Kab12 Kac12
  clear zc0 zc1 zc2 zc3
  have S0 := Lib.hid (StF.args3 (a := ⟨s1a, A1a, n1a, c1a, s2a, A2a, n2a, c2a⟩) (b := ⟨s1b, A1b, n1b, c1b, s2b, A2b, n2b, c2b⟩) (c := ⟨s1c, A1c, n1c, c1c, s2c, A2c, n2c, c2c⟩) Ba14.out Kaa14.out Kab14.out Kac14.out HXa.out HXb.out HXc.out)
  obtain ⟨o, ho⟩ : ∃ o, o = ordR xa xb := ⟨_, rfl⟩
  have HO := Lib.hid ho
  have hs : s1c = sgnR xc := HXc.out.1.sgn
  have HSC := Lib.hid hs
  clear ho hs
  clear HXa HXb HXc HR0 HR1 HR2 HR3 HR4 HR5 HS HM Ba14 Kaa14 Kab14 Kac14
  as_aux_lemma =>
   have F := S0.out.bx _ (List.mem_of_getElem? (i := 0) rfl)
   dsimp only [frC] at F
   obtain ⟨za0, za1, za2, za3, -, -, -, -⟩ := fr_cells F.1
   have Ga := Lib.hid F.2
   clear F
   have F := S0.out.bx _ (List.mem_of_getElem? (i := 1) rfl)
   dsimp only [frC] at F
   obtain ⟨zb0, zb1, zb2, zb3, -, -, -, -⟩ := fr_cells F.1
   have Gb := Lib.hid F.2
   clear F
   have M := Lib.hid (compare_R (k := 12) ⟨s1a, A1a, n1a, c1a, s2a, A2a, n2a, c2a⟩ ⟨s1b, A1b, n1b, c1b, s2b, A2b, n2b, c2b⟩ Ga.out Gb.out (HT.out.on S0.out.bl) (by decide) (o := o) HO.out.symm)
   (try dsimp only [frV] at M)
   go_wp2_with fail
   refine M.out.mono ?_
   rintro e w1 ⟨rfl, hb⟩
   have S1 := Lib.hid (S0.out.call hb)
   clear hb M S0
   clear za0 za1 za2 za3 Ga zb0 zb1 zb2 zb3 Gb
   go_upto_region 5 with (fail)
   go_cut [79] (fun p1 wc => p1 = .bool false ∧ Hid (StF w wc [⟨w.heap.size, 12, xa, ⟨s1a, A1a, n1a, c1a, s2a, A2a, n2a, c2a⟩⟩, ⟨w.heap.size + 1, 12, xb, ⟨s1b, A1b, n1b, c1b, s2b, A2b, n2b, c2b⟩⟩, ⟨w.heap.size + 1 + 1, 12, xc, ⟨s1c, A1c, n1c, c1c, s2c, A2c, n2c, c2c⟩⟩]))
   case first => as_aux_lemma =>
    have hc := ordR_cases xa xb
    rw [← HO.out] at hc
    rcases hc with ⟨hl, rfl⟩ | ⟨hl, rfl⟩ | ⟨hl, rfl⟩
    · skip
      have F := S1.out.bx _ (List.mem_of_getElem? (i := 0) rfl)
      dsimp only [frC] at F
      obtain ⟨za0, za1, za2, za3, -, -, -, -⟩ := fr_cells F.1
      have Ga := Lib.hid F.2
      clear F
      have F := S1.out.bx _ (List.mem_of_getElem? (i := 1) rfl)
      dsimp only [frC] at F
      obtain ⟨zb0, zb1, zb2, zb3, -, -, -, -⟩ := fr_cells F.1
      have Gb := Lib.hid F.2
      clear F
      have M := Lib.hid (same5_R (k := 12) ⟨s1a, A1a, n1a, c1a, s2a, A2a, n2a, c2a⟩ ⟨s1b, A1b, n1b, c1b, s2b, A2b, n2b, c2b⟩ Ga.out Gb.out (by decide) (o := false) (decide_eq_false (fun g => by subst g; exact Rat.lt_irrefl hl)))
      (try dsimp only [frV] at M)
      go_wp2_with fail
      refine M.out.mono ?_
      rintro e w2 ⟨rfl, hb⟩
      have S2 := Lib.hid (S1.out.call hb)
      clear hb M S1
      clear za0 za1 za2 za3 Ga zb0 zb1 zb2 zb3 Gb
      have F := S2.out.bx _ (List.mem_of_getElem? (i := 1) rfl)
      dsimp only [frC] at F
      obtain ⟨zb0, zb1, zb2, zb3, -, -, -, -⟩ := fr_cells F.1
      have Gb := Lib.hid F.2
      clear F
      have F := S2.out.bx _ (List.mem_of_getElem? (i := 0) rfl)
      dsimp only [frC] at F
      obtain ⟨za0, za1, za2, za3, -, -, -, -⟩ := fr_cells F.1
      have Ga := Lib.hid F.2
      clear F
      have M := Lib.hid (compare_R (k := 12) ⟨s1b, A1b, n1b, c1b, s2b, A2b, n2b, c2b⟩ ⟨s1a, A1a, n1a, c1a, s2a, A2a, n2a, c2a⟩ Gb.out Ga.out (HT.out.on S2.out.bl) (by decide) (o := (1)) (by have h := ordR_swap xa xb; rw [← HO.out] at h; omega))
      (try dsimp only [frV] at M)
      go_wp2_with fail
      refine M.out.mono ?_
      rintro e w3 ⟨rfl, hb⟩
      have S3 := Lib.hid (S2.out.call hb)
      clear hb M S2
      clear zb0 zb1 zb2 zb3 Gb za0 za1 za2 za3 Ga
      go_wp2_with fail
      go_meet
      exact ⟨rfl, S3.out⟩
    · skip
      have F := S1.out.bx _ (List.mem_of_getElem? (i := 0) rfl)
      dsimp only [frC] at F
      obtain ⟨za0, za1, za2, za3, -, -, -, -⟩ := fr_cells F.1
      have Ga := Lib.hid F.2
      clear F
      have F := S1.out.bx _ (List.mem_of_getElem? (i := 1) rfl)
      dsimp only [frC] at F
      obtain ⟨zb0, zb1, zb2, zb3, -, -, -, -⟩ := fr_cells F.1
      have Gb := Lib.hid F.2
      clear F
      have M := Lib.hid (same5_R (k := 12) ⟨s1a, A1a, n1a, c1a, s2a, A2a, n2a, c2a⟩ ⟨s1b, A1b, n1b, c1b, s2b, A2b, n2b, c2b⟩ Ga.out Gb.out (by decide) (o := true) (decide_eq_true (hl)))
      (try dsimp only [frV] at M)
      go_wp2_with fail
      refine M.out.mono ?_
      rintro e w4 ⟨rfl, hb⟩
      have S4 := Lib.hid (S1.out.call hb)
      clear hb M S1
      clear za0 za1 za2 za3 Ga zb0 zb1 zb2 zb3 Gb
      have F := S4.out.bx _ (List.mem_of_getElem? (i := 1) rfl)
      dsimp only [frC] at F
      obtain ⟨zb0, zb1, zb2, zb3, -, -, -, -⟩ := fr_cells F.1
      have Gb := Lib.hid F.2
      clear F
      have F := S4.out.bx _ (List.mem_of_getElem? (i := 0) rfl)
      dsimp only [frC] at F
      obtain ⟨za0, za1, za2, za3, -, -, -, -⟩ := fr_cells F.1
      have Ga := Lib.hid F.2
      clear F
      have M := Lib.hid (compare_R (k := 12) ⟨s1b, A1b, n1b, c1b, s2b, A2b, n2b, c2b⟩ ⟨s1a, A1a, n1a, c1a, s2a, A2a, n2a, c2a⟩ Gb.out Ga.out (HT.out.on S4.out.bl) (by decide) (o := (0)) (by have h := ordR_swap xa xb; rw [← HO.out] at h; omega))
      (try dsimp only [frV] at M)
      go_wp2_with fail
      refine M.out.mono ?_
      rintro e w5 ⟨rfl, hb⟩
      have S5 := Lib.hid (S4.out.call hb)
      clear hb M S4
      clear zb0 zb1 zb2 zb3 Gb za0 za1 za2 za3 Ga
      go_wp2_with fail
      go_meet
      exact ⟨rfl, S5.out⟩
    · skip
      have F := S1.out.bx _ (List.mem_of_getElem? (i := 0) rfl)
      dsimp only [frC] at F
      obtain ⟨za0, za1, za2, za3, -, -, -, -⟩ := fr_cells F.1
      have Ga := Lib.hid F.2
      clear F
      have F := S1.out.bx _ (List.mem_of_getElem? (i := 1) rfl)
      dsimp only [frC] at F
      obtain ⟨zb0, zb1, zb2, zb3, -, -, -, -⟩ := fr_cells F.1
      have Gb := Lib.hid F.2
      clear F
      have M := Lib.hid (same5_R (k := 12) ⟨s1a, A1a, n1a, c1a, s2a, A2a, n2a, c2a⟩ ⟨s1b, A1b, n1b, c1b, s2b, A2b, n2b, c2b⟩ Ga.out Gb.out (by decide) (o := false) (decide_eq_false (fun g => by subst g; exact Rat.lt_irrefl hl)))
      (try dsimp only [frV] at M)
      go_wp2_with fail
      refine M.out.mono ?_
      rintro e w6 ⟨rfl, hb⟩
      have S6 := Lib.hid (S1.out.call hb)
      clear hb M S1
      clear za0 za1 za2 za3 Ga zb0 zb1 zb2 zb3 Gb
      have F := S6.out.bx _ (List.mem_of_getElem? (i := 1) rfl)
      dsimp only [frC] at F
      obtain ⟨zb0, zb1, zb2, zb3, -, -, -, -⟩ := fr_cells F.1
      have Gb := Lib.hid F.2
      clear F
      have F := S6.out.bx _ (List.mem_of_getElem? (i := 0) rfl)
      dsimp only [frC] at F
      obtain ⟨za0, za1, za2, za3, -, -, -, -⟩ := fr_cells F.1
      have Ga := Lib.hid F.2
      clear F
      have M := Lib.hid (compare_R (k := 12) ⟨s1b, A1b, n1b, c1b, s2b, A2b, n2b, c2b⟩ ⟨s1a, A1a, n1a, c1a, s2a, A2a, n2a, c2a⟩ Gb.out Ga.out (HT.out.on S6.out.bl) (by decide) (o := (-1)) (by have h := ordR_swap xa xb; rw [← HO.out] at h; omega))
      (try dsimp only [frV] at M)
      go_wp2_with fail
      refine M.out.mono ?_
      rintro e w7 ⟨rfl, hb⟩
      have S7 := Lib.hid (S6.out.call hb)
      clear hb M S6
      clear zb0 zb1 zb2 zb3 Gb za0 za1 za2 za3 Ga
      go_wp2_with fail
      go_meet
      exact ⟨rfl, S7.out⟩
   case rest => as_aux_lemma =>
    obtain ⟨rfl, HX⟩ := hcut
    obtain ⟨w58, rfl⟩ : ∃ W : World, W = wc := ⟨_, rfl⟩
    have S58 := HX
    clear HX S1
    go_upto_region 7 with (fail)
    go_cut [93] (fun p1 wc => p1 = .bool false ∧ Hid (StF w wc [⟨w.heap.size, 12, xa, ⟨s1a, A1a, n1a, c1a, s2a, A2a, n2a, c2a⟩⟩, ⟨w.heap.size + 1, 12, xb, ⟨s1b, A1b, n1b, c1b, s2b, A2b, n2b, c2b⟩⟩, ⟨w.heap.size + 1 + 1, 12, xc, ⟨s1c, A1c, n1c, c1c, s2c, A2c, n2c, c2c⟩⟩]))
    case first => as_aux_lemma =>
     have hc := ordR_cases xa xb
     rw [← HO.out] at hc
     rcases hc with ⟨hl, rfl⟩ | ⟨hl, rfl⟩ | ⟨hl, rfl⟩
     · skip
       rcases ordR_cases xb xc with ⟨hm, hd⟩ | ⟨hm, hd⟩ | ⟨hm, hd⟩
       · skip
         have F := S58.out.bx _ (List.mem_of_getElem? (i := 1) rfl)
         dsimp only [frC] at F
         obtain ⟨zb0, zb1, zb2, zb3, -, -, -, -⟩ := fr_cells F.1
         have Gb := Lib.hid F.2
         clear F
         have F := S58.out.bx _ (List.mem_of_getElem? (i := 2) rfl)
         dsimp only [frC] at F
         obtain ⟨zc0, zc1, zc2, zc3, -, -, -, -⟩ := fr_cells F.1
         have Gc := Lib.hid F.2
         clear F
         have M := Lib.hid (compare_R (k := 12) ⟨s1b, A1b, n1b, c1b, s2b, A2b, n2b, c2b⟩ ⟨s1c, A1c, n1c, c1c, s2c, A2c, n2c, c2c⟩ Gb.out Gc.out (HT.out.on S58.out.bl) (by decide) (o := -1) hd)
         (try dsimp only [frV] at M)
         go_wp2_with fail
         refine M.out.mono ?_
         rintro e w59 ⟨rfl, hb⟩
         have S59 := Lib.hid (S58.out.call hb)
         clear hb M S58
         clear zb0 zb1 zb2 zb3 Gb zc0 zc1 zc2 zc3 Gc
         have F := S59.out.bx _ (List.mem_of_getElem? (i := 0) rfl)
         dsimp only [frC] at F
         obtain ⟨za0, za1, za2, za3, -, -, -, -⟩ := fr_cells F.1
         have Ga := Lib.hid F.2
         clear F
         have F := S59.out.bx _ (List.mem_of_getElem? (i := 2) rfl)
         dsimp only [frC] at F
         obtain ⟨zc0, zc1, zc2, zc3, -, -, -, -⟩ := fr_cells F.1
         have Gc := Lib.hid F.2
         clear F
         have M := Lib.hid (compare_R (k := 12) ⟨s1a, A1a, n1a, c1a, s2a, A2a, n2a, c2a⟩ ⟨s1c, A1c, n1c, c1c, s2c, A2c, n2c, c2c⟩ Ga.out Gc.out (HT.out.on S59.out.bl) (by decide) (o := (-1)) (ord_ll hl hm))
         (try dsimp only [frV] at M)
         go_wp2_with fail
         refine M.out.mono ?_
         rintro e w60 ⟨rfl, hb⟩
         have S60 := Lib.hid (S59.out.call hb)
         clear hb M S59
         clear za0 za1 za2 za3 Ga zc0 zc1 zc2 zc3 Gc
         go_wp2_with fail
         go_meet
         exact ⟨rfl, S60.out⟩
       · skip
         have F := S58.out.bx _ (List.mem_of_getElem? (i := 1) rfl)
         dsimp only [frC] at F
         obtain ⟨zb0, zb1, zb2, zb3, -, -, -, -⟩ := fr_cells F.1
         have Gb := Lib.hid F.2
         clear F
         have F := S58.out.bx _ (List.mem_of_getElem? (i := 2) rfl)
         dsimp only [frC] at F
         obtain ⟨zc0, zc1, zc2, zc3, -, -, -, -⟩ := fr_cells F.1
         have Gc := Lib.hid F.2
         clear F
         have M := Lib.hid (compare_R (k := 12) ⟨s1b, A1b, n1b, c1b, s2b, A2b, n2b, c2b⟩ ⟨s1c, A1c, n1c, c1c, s2c, A2c, n2c, c2c⟩ Gb.out Gc.out (HT.out.on S58.out.bl) (by decide) (o := 0) hd)
         (try dsimp only [frV] at M)
         go_wp2_with fail
         refine M.out.mono ?_
         rintro e w61 ⟨rfl, hb⟩
         have S61 := Lib.hid (S58.out.call hb)
         clear hb M S58
         clear zb0 zb1 zb2 zb3 Gb zc0 zc1 zc2 zc3 Gc
         have F := S61.out.bx _ (List.mem_of_getElem? (i := 0) rfl)
         dsimp only [frC] at F
         obtain ⟨za0, za1, za2, za3, -, -, -, -⟩ := fr_cells F.1
         have Ga := Lib.hid F.2
         clear F
         have F := S61.out.bx _ (List.mem_of_getElem? (i := 2) rfl)
         dsimp only [frC] at F
         obtain ⟨zc0, zc1, zc2, zc3, -, -, -, -⟩ := fr_cells F.1
         have Gc := Lib.hid F.2
         clear F
         have M := Lib.hid (compare_R (k := 12) ⟨s1a, A1a, n1a, c1a, s2a, A2a, n2a, c2a⟩ ⟨s1c, A1c, n1c, c1c, s2c, A2c, n2c, c2c⟩ Ga.out Gc.out (HT.out.on S61.out.bl) (by decide) (o := (-1)) (ord_le hl hm))
         (try dsimp only [frV] at M)
         go_wp2_with fail
         refine M.out.mono ?_
         rintro e w62 ⟨rfl, hb⟩
         have S62 := Lib.hid (S61.out.call hb)
         clear hb M S61
         clear za0 za1 za2 za3 Ga zc0 zc1 zc2 zc3 Gc
         go_wp2_with fail
         go_meet
         exact ⟨rfl, S62.out⟩
       · skip
         have F := S58.out.bx _ (List.mem_of_getElem? (i := 1) rfl)
         dsimp only [frC] at F
         obtain ⟨zb0, zb1, zb2, zb3, -, -, -, -⟩ := fr_cells F.1
         have Gb := Lib.hid F.2
         clear F
         have F := S58.out.bx _ (List.mem_of_getElem? (i := 2) rfl)
         dsimp only [frC] at F
         obtain ⟨zc0, zc1, zc2, zc3, -, -, -, -⟩ := fr_cells F.1
         have Gc := Lib.hid F.2
         clear F
         have M := Lib.hid (compare_R (k := 12) ⟨s1b, A1b, n1b, c1b, s2b, A2b, n2b, c2b⟩ ⟨s1c, A1c, n1c, c1c, s2c, A2c, n2c, c2c⟩ Gb.out Gc.out (HT.out.on S58.out.bl) (by decide) (o := 1) hd)
         (try dsimp only [frV] at M)
         go_wp2_with fail
         refine M.out.mono ?_
         rintro e w63 ⟨rfl, hb⟩
         have S63 := Lib.hid (S58.out.call hb)
         clear hb M S58
         clear zb0 zb1 zb2 zb3 Gb zc0 zc1 zc2 zc3 Gc
         go_wp2_with fail
         go_meet
         exact ⟨rfl, S63.out⟩
     · skip
       rcases ordR_cases xb xc with ⟨hm, hd⟩ | ⟨hm, hd⟩ | ⟨hm, hd⟩
       · skip
         have F := S58.out.bx _ (List.mem_of_getElem? (i := 1) rfl)
         dsimp only [frC] at F
         obtain ⟨zb0, zb1, zb2, zb3, -, -, -, -⟩ := fr_cells F.1
         have Gb := Lib.hid F.2
         clear F
         have F := S58.out.bx _ (List.mem_of_getElem? (i := 2) rfl)
         dsimp only [frC] at F
         obtain ⟨zc0, zc1, zc2, zc3, -, -, -, -⟩ := fr_cells F.1
         have Gc := Lib.hid F.2
         clear F
         have M := Lib.hid (compare_R (k := 12) ⟨s1b, A1b, n1b, c1b, s2b, A2b, n2b, c2b⟩ ⟨s1c, A1c, n1c, c1c, s2c, A2c, n2c, c2c⟩ Gb.out Gc.out (HT.out.on S58.out.bl) (by decide) (o := -1) hd)
         (try dsimp only [frV] at M)
         go_wp2_with fail
         refine M.out.mono ?_
         rintro e w64 ⟨rfl, hb⟩
         have S64 := Lib.hid (S58.out.call hb)
         clear hb M S58
         clear zb0 zb1 zb2 zb3 Gb zc0 zc1 zc2 zc3 Gc
         have F := S64.out.bx _ (List.mem_of_getElem? (i := 0) rfl)
         dsimp only [frC] at F
         obtain ⟨za0, za1, za2, za3, -, -, -, -⟩ := fr_cells F.1
         have Ga := Lib.hid F.2
         clear F
         have F := S64.out.bx _ (List.mem_of_getElem? (i := 2) rfl)
         dsimp only [frC] at F
         obtain ⟨zc0, zc1, zc2, zc3, -, -, -, -⟩ := fr_cells F.1
         have Gc := Lib.hid F.2
         clear F
         have M := Lib.hid (compare_R (k := 12) ⟨s1a, A1a, n1a, c1a, s2a, A2a, n2a, c2a⟩ ⟨s1c, A1c, n1c, c1c, s2c, A2c, n2c, c2c⟩ Ga.out Gc.out (HT.out.on S64.out.bl) (by decide) (o := (-1)) (ord_el hl hm))
         (try dsimp only [frV] at M)
         go_wp2_with fail
         refine M.out.mono ?_
         rintro e w65 ⟨rfl, hb⟩
         have S65 := Lib.hid (S64.out.call hb)
         clear hb M S64
         clear za0 za1 za2 za3 Ga zc0 zc1 zc2 zc3 Gc
         go_wp2_with fail
         go_meet
         exact ⟨rfl, S65.out⟩
       · skip
         have F := S58.out.bx _ (List.mem_of_getElem? (i := 1) rfl)
         dsimp only [frC] at F
         obtain ⟨zb0, zb1, zb2, zb3, -, -, -, -⟩ := fr_cells F.1
         have Gb := Lib.hid F.2
         clear F
         have F := S58.out.bx _ (List.mem_of_getElem? (i := 2) rfl)
         dsimp only [frC] at F
         obtain ⟨zc0, zc1, zc2, zc3, -, -, -, -⟩ := fr_cells F.1
         have Gc := Lib.hid F.2
         clear F
         have M := Lib.hid (compare_R (k := 12) ⟨s1b, A1b, n1b, c1b, s2b, A2b, n2b, c2b⟩ ⟨s1c, A1c, n1c, c1c, s2c, A2c, n2c, c2c⟩ Gb.out Gc.out (HT.out.on S58.out.bl) (by decide) (o := 0) hd)
         (try dsimp only [frV] at M)
         go_wp2_with fail
         refine M.out.mono ?_
         rintro e w66 ⟨rfl, hb⟩
         have S66 := Lib.hid (S58.out.call hb)
         clear hb M S58
         clear zb0 zb1 zb2 zb3 Gb zc0 zc1 zc2 zc3 Gc
         have F := S66.out.bx _ (List.mem_of_getElem? (i := 0) rfl)
         dsimp only [frC] at F
         obtain ⟨za0, za1, za2, za3, -, -, -, -⟩ := fr_cells F.1
         have Ga := Lib.hid F.2
         clear F
         have F := S66.out.bx _ (List.mem_of_getElem? (i := 2) rfl)
         dsimp only [frC] at F
         obtain ⟨zc0, zc1, zc2, zc3, -, -, -, -⟩ := fr_cells F.1
         have Gc := Lib.hid F.2
         clear F
         have M := Lib.hid (compare_R (k := 12) ⟨s1a, A1a, n1a, c1a, s2a, A2a, n2a, c2a⟩ ⟨s1c, A1c, n1c, c1c, s2c, A2c, n2c, c2c⟩ Ga.out Gc.out (HT.out.on S66.out.bl) (by decide) (o := 0) (ord_ee hl hm))
         (try dsimp only [frV] at M)
         go_wp2_with fail
         refine M.out.mono ?_
         rintro e w67 ⟨rfl, hb⟩
         have S67 := Lib.hid (S66.out.call hb)
         clear hb M S66
         clear za0 za1 za2 za3 Ga zc0 zc1 zc2 zc3 Gc
         go_wp2_with fail
         go_meet
         exact ⟨rfl, S67.out⟩
       · skip
         have F := S58.out.bx _ (List.mem_of_getElem? (i := 1) rfl)
         dsimp only [frC] at F
         obtain ⟨zb0, zb1, zb2, zb3, -, -, -, -⟩ := fr_cells F.1
         have Gb := Lib.hid F.2
         clear F
         have F := S58.out.bx _ (List.mem_of_getElem? (i := 2) rfl)
         dsimp only [frC] at F
         obtain ⟨zc0, zc1, zc2, zc3, -, -, -, -⟩ := fr_cells F.1
         have Gc := Lib.hid F.2
         clear F
         have M := Lib.hid (compare_R (k := 12) ⟨s1b, A1b, n1b, c1b, s2b, A2b, n2b, c2b⟩ ⟨s1c, A1c, n1c, c1c, s2c, A2c, n2c, c2c⟩ Gb.out Gc.out (HT.out.on S58.out.bl) (by decide) (o := 1) hd)
         (try dsimp only [frV] at M)
         go_wp2_with fail
         refine M.out.mono ?_
         rintro e w68 ⟨rfl, hb⟩
         have S68 := Lib.hid (S58.out.call hb)
         clear hb M S58
         clear zb0 zb1 zb2 zb3 Gb zc0 zc1 zc2 zc3 Gc
         go_wp2_with fail
         go_meet
         exact ⟨rfl, S68.out⟩
     · skip
       go_wp2_with fail
       go_meet
       exact ⟨rfl, S58.out⟩
    case rest => as_aux_lemma =>
     obtain ⟨rfl, HX⟩ := hcut
     obtain ⟨w119, rfl⟩ : ∃ W : World, W = wc := ⟨_, rfl⟩
     have S119 := HX
     clear HX S58
     have F := S119.out.bx _ (List.mem_of_getElem? (i := 0) rfl)
     dsimp only [frC] at F
     obtain ⟨za0, za1, za2, za3, -, -, -, -⟩ := fr_cells F.1
     have Ga := Lib.hid F.2
     clear F
     have F := S119.out.bx _ (List.mem_of_getElem? (i := 1) rfl)
     dsimp only [frC] at F
     obtain ⟨zb0, zb1, zb2, zb3, -, -, -, -⟩ := fr_cells F.1
     have Gb := Lib.hid F.2
     clear F
     have M := Lib.hid (sub_R (k := 12) ⟨s1a, A1a, n1a, c1a, s2a, A2a, n2a, c2a⟩ ⟨s1b, A1b, n1b, c1b, s2b, A2b, n2b, c2b⟩ Ga.out Gb.out (HT.out.on S119.out.bl) (by decide))
     (try dsimp only [frV] at M)
     go_wp2_with fail
     refine M.out.mono ?_
     rintro e w120 ⟨⟨s1_120, A1_120, n1_120, c1_120, s2_120, A2_120, n2_120, c2_120⟩, rfl, -, -, hg, hf1, hf2, hb⟩
     have HG := Lib.hid hg
     have HF1 := Lib.hid hf1
     have HF2 := Lib.hid hf2
     have HB := Lib.hid hb
     clear hg hf1 hf2 hb M
     clear za0 za1 za2 za3 Ga zb0 zb1 zb2 zb3 Gb
     (try dsimp only [frV])
     have M := Lib.hid (right5_R ⟨s1_120, A1_120, n1_120, c1_120, s2_120, A2_120, n2_120, c2_120⟩ HG.out (HT.out.on (S119.out.call HB.out).bl) (by decide))
     (try dsimp only [frV] at M)
     go_wp2_with fail
     refine M.out.mono ?_
     rintro e w121 ⟨rfl, hb⟩
     have HG2 := Lib.hid (HG.out.past hb)
     have HB2 := Lib.hid (HB.out.trans (hb.mono HB.out.size))
     clear HG HB hb M
     have HG := HG2
     have HB := HB2
     clear HG2 HB2
     have S122 := Lib.hid (S119.out.made HB.out HG.out HF1.out HF2.out)
     clear HG HB HF1 HF2 S119
     have F := S122.out.bx _ (List.mem_of_getElem? (i := 1) rfl)
     dsimp only [frC] at F
     obtain ⟨za0, za1, za2, za3, -, -, -, -⟩ := fr_cells F.1
     have Ga := Lib.hid F.2
     clear F
     have F := S122.out.bx _ (List.mem_of_getElem? (i := 3) rfl)
     dsimp only [frC] at F
     obtain ⟨zc0, zc1, zc2, zc3, -, -, -, -⟩ := fr_cells F.1
     have Gc := Lib.hid F.2
     clear F
     have M := Lib.hid (add_R (k := 12) ⟨s1a, A1a, n1a, c1a, s2a, A2a, n2a, c2a⟩ ⟨s1c, A1c, n1c, c1c, s2c, A2c, n2c, c2c⟩ Ga.out Gc.out (HT.out.on S122.out.bl) (by decide))
     (try dsimp only [frV] at M)
     go_wp2_with fail
     refine M.out.mono ?_
     rintro e w123 ⟨⟨s1_123, A1_123, n1_123, c1_123, s2_123, A2_123, n2_123, c2_123⟩, rfl, -, -, hg, hf1, hf2, hb⟩
     have HG := Lib.hid hg
     have HF1 := Lib.hid hf1
     have HF2 := Lib.hid hf2
     have HB := Lib.hid hb
     clear hg hf1 hf2 hb M
     clear za0 za1 za2 za3 Ga zc0 zc1 zc2 zc3 Gc
     (try dsimp only [frV])
     have M := Lib.hid (right5_R ⟨s1_123, A1_123, n1_123, c1_123, s2_123, A2_123, n2_123, c2_123⟩ HG.out (HT.out.on (S122.out.call HB.out).bl) (by decide))
     (try dsimp only [frV] at M)
     go_wp2_with fail
     refine M.out.mono ?_
     rintro e w124 ⟨rfl, hb⟩
     have HG2 := Lib.hid (HG.out.past hb)
     have HB2 := Lib.hid (HB.out.trans (hb.mono HB.out.size))
     clear HG HB hb M
     have HG := HG2
     have HB := HB2
     clear HG2 HB2
     have S125 := Lib.hid (S122.out.made HB.out HG.out HF1.out HF2.out)
     clear HG HB HF1 HF2 S122
     have F := S125.out.bx _ (List.mem_of_getElem? (i := 3) rfl)
     dsimp only [frC] at F
     obtain ⟨zb0, zb1, zb2, zb3, -, -, -, -⟩ := fr_cells F.1
     have Gb := Lib.hid F.2
     clear F
     have F := S125.out.bx _ (List.mem_of_getElem? (i := 4) rfl)
     dsimp only [frC] at F
     obtain ⟨zc0, zc1, zc2, zc3, -, -, -, -⟩ := fr_cells F.1
     have Gc := Lib.hid F.2
     clear F
     have M := Lib.hid (add_R (k := 12) ⟨s1b, A1b, n1b, c1b, s2b, A2b, n2b, c2b⟩ ⟨s1c, A1c, n1c, c1c, s2c, A2c, n2c, c2c⟩ Gb.out Gc.out (HT.out.on S125.out.bl) (by decide))
     (try dsimp only [frV] at M)
     go_wp2_with fail
     refine M.out.mono ?_
     rintro e w126 ⟨⟨s1_126, A1_126, n1_126, c1_126, s2_126, A2_126, n2_126, c2_126⟩, rfl, -, -, hg, hf1, hf2, hb⟩
     have HG := Lib.hid hg
     have HF1 := Lib.hid hf1
     have HF2 := Lib.hid hf2
     have HB := Lib.hid hb
     clear hg hf1 hf2 hb M
     clear zb0 zb1 zb2 zb3 Gb zc0 zc1 zc2 zc3 Gc
     (try dsimp only [frV])
     have M := Lib.hid (right5_R ⟨s1_126, A1_126, n1_126, c1_126, s2_126, A2_126, n2_126, c2_126⟩ HG.out (HT.out.on (S125.out.call HB.out).bl) (by decide))
     (try dsimp only [frV] at M)
     go_wp2_with fail
     refine M.out.mono ?_
     rintro e w127 ⟨rfl, hb⟩
     have HG2 := Lib.hid (HG.out.past hb)
     have HB2 := Lib.hid (HB.out.trans (hb.mono HB.out.size))
     clear HG HB hb M
     have HG := HG2
     have HB := HB2
     clear HG2 HB2
     have S128 := Lib.hid (S125.out.made HB.out HG.out HF1.out HF2.out)
     clear HG HB HF1 HF2 S125
     have F := S128.out.bx _ (List.mem_of_getElem? (i := 3) rfl)
     dsimp only [frC] at F
     obtain ⟨za0, za1, za2, za3, -, -, -, -⟩ := fr_cells F.1
     have Ga := Lib.hid F.2
     clear F
     have F := S128.out.bx _ (List.mem_of_getElem? (i := 5) rfl)
     dsimp only [frC] at F
     obtain ⟨zc0, zc1, zc2, zc3, -, -, -, -⟩ := fr_cells F.1
     have Gc := Lib.hid F.2
     clear F
     have M := Lib.hid (mul_R (k := 12) ⟨s1a, A1a, n1a, c1a, s2a, A2a, n2a, c2a⟩ ⟨s1c, A1c, n1c, c1c, s2c, A2c, n2c, c2c⟩ Ga.out Gc.out (HT.out.on S128.out.bl) (by decide))
     (try dsimp only [frV] at M)
     go_wp2_with fail
     refine M.out.mono ?_
     rintro e w129 ⟨⟨s1_129, A1_129, n1_129, c1_129, s2_129, A2_129, n2_129, c2_129⟩, rfl, -, -, hg, hf1, hf2, hb⟩
     have HG := Lib.hid hg
     have HF1 := Lib.hid hf1
     have HF2 := Lib.hid hf2
     have HB := Lib.hid hb
     clear hg hf1 hf2 hb M
     clear za0 za1 za2 za3 Ga zc0 zc1 zc2 zc3 Gc
     (try dsimp only [frV])
     have M := Lib.hid (right5_R ⟨s1_129, A1_129, n1_129, c1_129, s2_129, A2_129, n2_129, c2_129⟩ HG.out (HT.out.on (S128.out.call HB.out).bl) (by decide))
     (try dsimp only [frV] at M)
     go_wp2_with fail
     refine M.out.mono ?_
     rintro e w130 ⟨rfl, hb⟩
     have HG2 := Lib.hid (HG.out.past hb)
     have HB2 := Lib.hid (HB.out.trans (hb.mono HB.out.size))
     clear HG HB hb M
     have HG := HG2
     have HB := HB2
     clear HG2 HB2
     have S131 := Lib.hid (S128.out.made HB.out HG.out HF1.out HF2.out)
     clear HG HB HF1 HF2 S128
     have F := S131.out.bx _ (List.mem_of_getElem? (i := 5) rfl)
     dsimp only [frC] at F
     obtain ⟨zb0, zb1, zb2, zb3, -, -, -, -⟩ := fr_cells F.1
     have Gb := Lib.hid F.2
     clear F
     have F := S131.out.bx _ (List.mem_of_getElem? (i := 6) rfl)
     dsimp only [frC] at F
     obtain ⟨zc0, zc1, zc2, zc3, -, -, -, -⟩ := fr_cells F.1
     have Gc := Lib.hid F.2
     clear F
     have M := Lib.hid (mul_R (k := 12) ⟨s1b, A1b, n1b, c1b, s2b, A2b, n2b, c2b⟩ ⟨s1c, A1c, n1c, c1c, s2c, A2c, n2c, c2c⟩ Gb.out Gc.out (HT.out.on S131.out.bl) (by decide))
     (try dsimp only [frV] at M)
     go_wp2_with fail
     refine M.out.mono ?_
     rintro e w132 ⟨⟨s1_132, A1_132, n1_132, c1_132, s2_132, A2_132, n2_132, c2_132⟩, rfl, -, -, hg, hf1, hf2, hb⟩
     have HG := Lib.hid hg
     have HF1 := Lib.hid hf1
     have HF2 := Lib.hid hf2
     have HB := Lib.hid hb
     clear hg hf1 hf2 hb M
     clear zb0 zb1 zb2 zb3 Gb zc0 zc1 zc2 zc3 Gc
     (try dsimp only [frV])
     have M := Lib.hid (right5_R ⟨s1_132, A1_132, n1_132, c1_132, s2_132, A2_132, n2_132, c2_132⟩ HG.out (HT.out.on (S131.out.call HB.out).bl) (by decide))
     (try dsimp only [frV] at M)
     go_wp2_with fail
     refine M.out.mono ?_
     rintro e w133 ⟨rfl, hb⟩
     have HG2 := Lib.hid (HG.out.past hb)
     have HB2 := Lib.hid (HB.out.trans (hb.mono HB.out.size))
     clear HG HB hb M
     have HG := HG2
     have HB := HB2
     clear HG2 HB2
     have S134 := Lib.hid (S131.out.made HB.out HG.out HF1.out HF2.out)
     clear HG HB HF1 HF2 S131
     as_aux_lemma =>
      have F := S134.out.bx _ (List.mem_of_getElem? (i := 4) rfl)
      dsimp only [frC] at F
      obtain ⟨zd0, zd1, zd2, zd3, -, -, -, -⟩ := fr_cells F.1
      have Gd := Lib.hid F.2
      clear F
      have hs : s1_120 = o := (Gd.out.1.sgn).trans ((sgnR_sub xa xb).trans HO.out.symm)
      rw [hs] at zd0
      have F := S134.out.bx _ (List.mem_of_getElem? (i := 3) rfl)
      dsimp only [frC] at F
      obtain ⟨zp0, zp1, zp2, zp3, -, -, -, -⟩ := fr_cells F.1
      have Gp := Lib.hid F.2
      clear F
      have F := S134.out.bx _ (List.mem_of_getElem? (i := 2) rfl)
      dsimp only [frC] at F
      obtain ⟨zq0, zq1, zq2, zq3, -, -, -, -⟩ := fr_cells F.1
      have Gq := Lib.hid F.2
      clear F
      have M := Lib.hid (compare_R (k := 25) ⟨s1_123, A1_123, n1_123, c1_123, s2_123, A2_123, n2_123, c2_123⟩ ⟨s1_126, A1_126, n1_126, c1_126, s2_126, A2_126, n2_126, c2_126⟩ Gp.out Gq.out (HT.out.on S134.out.bl) (by decide) (o := o) ((ordR_add xa xb xc).trans HO.out.symm))
      (try dsimp only [frV] at M)
      go_wp2_with fail
      refine M.out.mono ?_
      rintro e w135 ⟨rfl, hb⟩
      have S135 := Lib.hid (S134.out.call hb)
      clear hb M S134
      clear zp0 zp1 zp2 zp3 Gp zq0 zq1 zq2 zq3 Gq
      go_upto_region 16 with (fail)
      clear hs
      clear zd0 zd1 zd2 zd3 Gd
      as_aux_lemma =>
       obtain ⟨om, hom⟩ : ∃ x, x = o * s1c := ⟨_, rfl⟩
       obtain ⟨no, hno⟩ : ∃ x, x = -o := ⟨_, rfl⟩
       have hr := ordR_range xa xb
       rw [← HO.out] at hr
       have hr2 : -1 ≤ s1c ∧ s1c ≤ 1 := by rw [HSC.out]; rcases sgnR_cases xc with ⟨-, e⟩ | ⟨-, e⟩ | ⟨-, e⟩ <;> rw [e] <;> decide
       have hq : -1 ≤ o * s1c ∧ o * s1c ≤ 1 := by rcases (show o = -1 ∨ o = 0 ∨ o = 1 by omega) with e | e | e <;> rw [e] <;> omega
       have HWM : Hid (IntKind.i64.wrap (o * s1c) = om) := by show _ = _; rw [hom]; exact IntWalk.i64_in _ (by omega)
       have HWN : Hid (IntKind.i64.wrap (-o) = no) := by show _ = _; rw [hno]; exact IntWalk.i64_in _ (by omega)
       have HOM : Hid (ordR (xa * xc) (xb * xc) = om) := by show _ = _; rw [hom, ordR_mul, ← HO.out, ← HSC.out]
       have HNO : Hid (ordR (-xa) (-xb) = no) := by show _ = _; rw [hno, ordR_neg, ← HO.out]
       clear hom hno hr hr2 hq
       go_cut [195] (fun p1 wc => p1 = .bool false ∧ Hid (StF w wc [⟨w133.heap.size, 24, (xb * xc), ⟨s1_132, A1_132, n1_132, c1_132, s2_132, A2_132, n2_132, c2_132⟩⟩, ⟨w130.heap.size, 24, (xa * xc), ⟨s1_129, A1_129, n1_129, c1_129, s2_129, A2_129, n2_129, c2_129⟩⟩, ⟨w127.heap.size, 25, (xb + xc), ⟨s1_126, A1_126, n1_126, c1_126, s2_126, A2_126, n2_126, c2_126⟩⟩, ⟨w124.heap.size, 25, (xa + xc), ⟨s1_123, A1_123, n1_123, c1_123, s2_123, A2_123, n2_123, c2_123⟩⟩, ⟨w121.heap.size, 25, (xa - xb), ⟨s1_120, A1_120, n1_120, c1_120, s2_120, A2_120, n2_120, c2_120⟩⟩, ⟨w.heap.size, 12, xa, ⟨s1a, A1a, n1a, c1a, s2a, A2a, n2a, c2a⟩⟩, ⟨w.heap.size + 1, 12, xb, ⟨s1b, A1b, n1b, c1b, s2b, A2b, n2b, c2b⟩⟩, ⟨w.heap.size + 1 + 1, 12, xc, ⟨s1c, A1c, n1c, c1c, s2c, A2c, n2c, c2c⟩⟩]))
       case first => as_aux_lemma =>
        have hwm := HWM.out
        have hwn := HWN.out
        have F := S135.out.bx _ (List.mem_of_getElem? (i := 1) rfl)
        dsimp only [frC] at F
        obtain ⟨zm0, zm1, zm2, zm3, -, -, -, -⟩ := fr_cells F.1
        have Gm := Lib.hid F.2
        clear F
        have F := S135.out.bx _ (List.mem_of_getElem? (i := 0) rfl)
        dsimp only [frC] at F
        obtain ⟨zn0, zn1, zn2, zn3, -, -, -, -⟩ := fr_cells F.1
        have Gn := Lib.hid F.2
        clear F
        have F := S135.out.bx _ (List.mem_of_getElem? (i := 7) rfl)
        dsimp only [frC] at F
        obtain ⟨zc0, zc1, zc2, zc3, -, -, -, -⟩ := fr_cells F.1
        have Gc := Lib.hid F.2
        clear F
        have F := S135.out.bx _ (List.mem_of_getElem? (i := 5) rfl)
        dsimp only [frC] at F
        obtain ⟨za0, za1, za2, za3, -, -, -, -⟩ := fr_cells F.1
        have Ga := Lib.hid F.2
        clear F
        have F := S135.out.bx _ (List.mem_of_getElem? (i := 6) rfl)
        dsimp only [frC] at F
        obtain ⟨zb0, zb1, zb2, zb3, -, -, -, -⟩ := fr_cells F.1
        have Gb := Lib.hid F.2
        clear F
        have F := S135.out.bx _ (List.mem_of_getElem? (i := 4) rfl)
        dsimp only [frC] at F
        obtain ⟨zd0, zd1, zd2, zd3, -, -, -, -⟩ := fr_cells F.1
        have Gd := Lib.hid F.2
        clear F
        have HC := Lib.hid (fun (w' : World) (h : Below w135.heap.size w135 w') => (⟨(h.cell (p := ⟨w130.heap.size, 0, none⟩) (World.block_lt_of_cell? _ _ zm0)).trans zm0, (h.cell (p := ⟨w130.heap.size, 1, none⟩) (World.block_lt_of_cell? _ _ zm1)).trans zm1, (h.cell (p := ⟨w130.heap.size, 2, none⟩) (World.block_lt_of_cell? _ _ zm2)).trans zm2, (h.cell (p := ⟨w130.heap.size, 3, none⟩) (World.block_lt_of_cell? _ _ zm3)).trans zm3, (h.cell (p := ⟨w133.heap.size, 0, none⟩) (World.block_lt_of_cell? _ _ zn0)).trans zn0, (h.cell (p := ⟨w133.heap.size, 1, none⟩) (World.block_lt_of_cell? _ _ zn1)).trans zn1, (h.cell (p := ⟨w133.heap.size, 2, none⟩) (World.block_lt_of_cell? _ _ zn2)).trans zn2, (h.cell (p := ⟨w133.heap.size, 3, none⟩) (World.block_lt_of_cell? _ _ zn3)).trans zn3, (h.cell (p := ⟨w.heap.size + 1 + 1, 0, none⟩) (World.block_lt_of_cell? _ _ zc0)).trans zc0, (h.cell (p := ⟨w.heap.size + 1 + 1, 1, none⟩) (World.block_lt_of_cell? _ _ zc1)).trans zc1, (h.cell (p := ⟨w.heap.size + 1 + 1, 2, none⟩) (World.block_lt_of_cell? _ _ zc2)).trans zc2, (h.cell (p := ⟨w.heap.size + 1 + 1, 3, none⟩) (World.block_lt_of_cell? _ _ zc3)).trans zc3, (h.cell (p := ⟨w.heap.size, 0, none⟩) (World.block_lt_of_cell? _ _ za0)).trans za0, (h.cell (p := ⟨w.heap.size, 1, none⟩) (World.block_lt_of_cell? _ _ za1)).trans za1, (h.cell (p := ⟨w.heap.size, 2, none⟩) (World.block_lt_of_cell? _ _ za2)).trans za2, (h.cell (p := ⟨w.heap.size, 3, none⟩) (World.block_lt_of_cell? _ _ za3)).trans za3, (h.cell (p := ⟨w.heap.size + 1, 0, none⟩) (World.block_lt_of_cell? _ _ zb0)).trans zb0, (h.cell (p := ⟨w.heap.size + 1, 1, none⟩) (World.block_lt_of_cell? _ _ zb1)).trans zb1, (h.cell (p := ⟨w.heap.size + 1, 2, none⟩) (World.block_lt_of_cell? _ _ zb2)).trans zb2, (h.cell (p := ⟨w.heap.size + 1, 3, none⟩) (World.block_lt_of_cell? _ _ zb3)).trans zb3, (h.cell (p := ⟨w121.heap.size, 0, none⟩) (World.block_lt_of_cell? _ _ zd0)).trans zd0, (h.cell (p := ⟨w121.heap.size, 1, none⟩) (World.block_lt_of_cell? _ _ zd1)).trans zd1, (h.cell (p := ⟨w121.heap.size, 2, none⟩) (World.block_lt_of_cell? _ _ zd2)).trans zd2, (h.cell (p := ⟨w121.heap.size, 3, none⟩) (World.block_lt_of_cell? _ _ zd3)).trans zd3⟩ : w'.cell? ⟨w130.heap.size, 0, none⟩ = some (.int .i64 s1_129) ∧ w'.cell? ⟨w130.heap.size, 1, none⟩ = some (.slice A1_129 n1_129 c1_129) ∧ w'.cell? ⟨w130.heap.size, 2, none⟩ = some (.int .i64 s2_129) ∧ w'.cell? ⟨w130.heap.size, 3, none⟩ = some (.slice A2_129 n2_129 c2_129) ∧ w'.cell? ⟨w133.heap.size, 0, none⟩ = some (.int .i64 s1_132) ∧ w'.cell? ⟨w133.heap.size, 1, none⟩ = some (.slice A1_132 n1_132 c1_132) ∧ w'.cell? ⟨w133.heap.size, 2, none⟩ = some (.int .i64 s2_132) ∧ w'.cell? ⟨w133.heap.size, 3, none⟩ = some (.slice A2_132 n2_132 c2_132) ∧ w'.cell? ⟨w.heap.size + 1 + 1, 0, none⟩ = some (.int .i64 s1c) ∧ w'.cell? ⟨w.heap.size + 1 + 1, 1, none⟩ = some (.slice A1c n1c c1c) ∧ w'.cell? ⟨w.heap.size + 1 + 1, 2, none⟩ = some (.int .i64 s2c) ∧ w'.cell? ⟨w.heap.size + 1 + 1, 3, none⟩ = some (.slice A2c n2c c2c) ∧ w'.cell? ⟨w.heap.size, 0, none⟩ = some (.int .i64 s1a) ∧ w'.cell? ⟨w.heap.size, 1, none⟩ = some (.slice A1a n1a c1a) ∧ w'.cell? ⟨w.heap.size, 2, none⟩ = some (.int .i64 s2a) ∧ w'.cell? ⟨w.heap.size, 3, none⟩ = some (.slice A2a n2a c2a) ∧ w'.cell? ⟨w.heap.size + 1, 0, none⟩ = some (.int .i64 s1b) ∧ w'.cell? ⟨w.heap.size + 1, 1, none⟩ = some (.slice A1b n1b c1b) ∧ w'.cell? ⟨w.heap.size + 1, 2, none⟩ = some (.int .i64 s2b) ∧ w'.cell? ⟨w.heap.size + 1, 3, none⟩ = some (.slice A2b n2b c2b) ∧ w'.cell? ⟨w121.heap.size, 0, none⟩ = some (.int .i64 s1_120) ∧ w'.cell? ⟨w121.heap.size, 1, none⟩ = some (.slice A1_120 n1_120 c1_120) ∧ w'.cell? ⟨w121.heap.size, 2, none⟩ = some (.int .i64 s2_120) ∧ w'.cell? ⟨w121.heap.size, 3, none⟩ = some (.slice A2_120 n2_120 c2_120)))
        clear zm0 zm1 zm2 zm3 zn0 zn1 zn2 zn3 zc0 zc1 zc2 zc3 za0 za1 za2 za3 zb0 zb1 zb2 zb3 zd0 zd1 zd2 zd3
        have Bv16_0 := Lib.hid (Below.refl w135.heap.size w135).drew
        refine wp_region_held_drew (S := fun w' => Below w135.heap.size w135 w') (by kernel_rfl) Bv16_0.out (fun hHeld => ?_)
        obtain ⟨v16_w0, hw⟩ : ∃ W, W = w135.drew := ⟨_, rfl⟩
        rw [← hw] at hHeld Bv16_0 ⊢
        clear hw
        refine take_at (i := 0) (v := ?v16_v1) rfl (by kernel_rfl) (by kernel_rfl) (by kernel_rfl) (fun _ _ _ h => h) (Or.inl ⟨by rfl, ?v16_y1⟩) (by assumption) ?v16_r1
        case v16_y1 => (intro w hSw; (try dsimp only at hSw); obtain ⟨cc0, cc1, cc2, cc3, cc4, cc5, cc6, cc7, cc8, cc9, cc10, cc11, cc12, cc13, cc14, cc15, cc16, cc17, cc18, cc19, cc20, cc21, cc22, cc23⟩ := HC.out _ hSw; go_simp; (try with_reducible rfl))
        simp only [Act.put, List.setIfInBounds_toArray, List.set_cons_zero, List.set_cons_succ]
        refine take_at (i := 1) (v := ?v16_v2) rfl (by kernel_rfl) (by kernel_rfl) (by kernel_rfl) (fun _ _ _ h => h) (Or.inl ⟨by rfl, ?v16_y2⟩) (by assumption) ?v16_r2
        case v16_y2 => (intro w hSw; (try dsimp only at hSw); obtain ⟨cc0, cc1, cc2, cc3, cc4, cc5, cc6, cc7, cc8, cc9, cc10, cc11, cc12, cc13, cc14, cc15, cc16, cc17, cc18, cc19, cc20, cc21, cc22, cc23⟩ := HC.out _ hSw; go_simp; (try with_reducible rfl))
        simp only [Act.put, List.setIfInBounds_toArray, List.set_cons_zero, List.set_cons_succ]
        refine take_at (i := 3) (v := ?v16_v3) rfl (by kernel_rfl) (by kernel_rfl) (by kernel_rfl) (fun _ _ _ h => h) (Or.inl ⟨by rfl, ?v16_y3⟩) (by assumption) ?v16_r3
        case v16_y3 => (intro w hSw; (try dsimp only at hSw); go_simp; (try with_reducible rfl))
        simp only [Act.put, List.setIfInBounds_toArray, List.set_cons_zero, List.set_cons_succ]
        refine take_at (i := 4) (v := ?v16_v4) rfl (by kernel_rfl) (by kernel_rfl) (by kernel_rfl) (fun _ _ _ h => h) (Or.inl ⟨by rfl, ?v16_y4⟩) (by assumption) ?v16_r4
        case v16_y4 => (intro w hSw; (try dsimp only at hSw); go_simp; (try with_reducible rfl))
        simp only [Act.put, List.setIfInBounds_toArray, List.set_cons_zero, List.set_cons_succ]
        refine take_at (i := 5) (v := ?v16_v5) rfl (by kernel_rfl) (by kernel_rfl) (by kernel_rfl) (fun _ _ _ h => h) (Or.inl ⟨by rfl, ?v16_y5⟩) (by assumption) ?v16_r5
        case v16_y5 => (intro w hSw; (try dsimp only at hSw); go_simp; (try with_reducible rfl))
        simp only [Act.put, List.setIfInBounds_toArray, List.set_cons_zero, List.set_cons_succ]
        refine take_at (i := 6) (v := ?v16_v6) rfl (by kernel_rfl) (by kernel_rfl) (by kernel_rfl) (fun _ _ _ h => h) (Or.inl ⟨by rfl, ?v16_y6⟩) (by assumption) ?v16_r6
        case v16_y6 => (intro w hSw; (try dsimp only at hSw); obtain ⟨cc0, cc1, cc2, cc3, cc4, cc5, cc6, cc7, cc8, cc9, cc10, cc11, cc12, cc13, cc14, cc15, cc16, cc17, cc18, cc19, cc20, cc21, cc22, cc23⟩ := HC.out _ hSw; go_simp; (try with_reducible rfl))
        simp only [Act.put, List.setIfInBounds_toArray, List.set_cons_zero, List.set_cons_succ]
        refine take_at (i := 7) (v := ?v16_v7) rfl (by kernel_rfl) (by kernel_rfl) (by kernel_rfl) (fun _ _ _ h => h) (Or.inl ⟨by rfl, ?v16_y7⟩) (by assumption) ?v16_r7
        case v16_y7 => (intro w hSw; (try dsimp only at hSw); go_simp; (try with_reducible rfl))
        simp only [Act.put, List.setIfInBounds_toArray, List.set_cons_zero, List.set_cons_succ]
        refine wpAnyH_ready (rs := [2]) (by kernel_rfl) (by simp) ?_
        refine cons_at (i := 2) rfl (fun K hK => ?_) AllReadyH.nil
        go_simp
        refine (compare_R (k := 24) ⟨s1_129, A1_129, n1_129, c1_129, s2_129, A2_129, n2_129, c2_129⟩ ⟨s1_132, A1_132, n1_132, c1_132, s2_132, A2_132, n2_132, c2_132⟩ (Gm.out.past Bv16_0.out) (Gn.out.past Bv16_0.out) (HT.out.on (S135.out.call Bv16_0.out).bl) (by decide) (o := om) HOM.out).mono ?_
        rintro e v16_w8 ⟨rfl, hb⟩
        try dsimp only
        have X8 := Lib.hid hb
        have Bv16_9 := Lib.hid (Bv16_0.out.trans (X8.out.mono Bv16_0.out.size))
        refine hK.out _ _ ?_ (fun hHeld => ?_)
        · exact Bv16_9.out
        clear Bv16_0 X8 hb
        clear hK K
        (try simp only [Act.put, uA, uB, uC])
        refine take_at (i := 8) (v := ?v16_v10) rfl (by kernel_rfl) (by kernel_rfl) (by kernel_rfl) (fun _ _ _ h => h) (Or.inl ⟨by rfl, ?v16_y10⟩) (by assumption) ?v16_r10
        case v16_y10 => (intro w hSw; (try dsimp only at hSw); go_simp; (try with_reducible rfl))
        simp only [Act.put, List.setIfInBounds_toArray, List.set_cons_zero, List.set_cons_succ]
        refine take_at (i := 9) (v := ?v16_v11) rfl (by kernel_rfl) (by kernel_rfl) (by kernel_rfl) (fun _ _ _ h => h) (Or.inl ⟨by rfl, ?v16_y11⟩) (by assumption) ?v16_r11
        case v16_y11 => (intro w hSw; (try dsimp only at hSw); go_simp; (try with_reducible rfl))
        simp only [Act.put, List.setIfInBounds_toArray, List.set_cons_zero, List.set_cons_succ]
        refine take_at (i := 10) (v := ?v16_v12) rfl (by kernel_rfl) (by kernel_rfl) (by kernel_rfl) (fun _ _ _ h => h) (Or.inl ⟨by rfl, ?v16_y12⟩) (by assumption) ?v16_r12
        case v16_y12 => (intro w hSw; (try dsimp only at hSw); obtain ⟨cc0, cc1, cc2, cc3, cc4, cc5, cc6, cc7, cc8, cc9, cc10, cc11, cc12, cc13, cc14, cc15, cc16, cc17, cc18, cc19, cc20, cc21, cc22, cc23⟩ := HC.out _ hSw; go_simp; (try with_reducible rfl))
        simp only [Act.put, List.setIfInBounds_toArray, List.set_cons_zero, List.set_cons_succ]
        refine take_at (i := 12) (v := ?v16_v13) rfl (by kernel_rfl) (by kernel_rfl) (by kernel_rfl) (fun _ _ _ h => h) (Or.inl ⟨by rfl, ?v16_y13⟩) (by assumption) ?v16_r13
        case v16_y13 => (intro w hSw; (try dsimp only at hSw); obtain ⟨cc0, cc1, cc2, cc3, cc4, cc5, cc6, cc7, cc8, cc9, cc10, cc11, cc12, cc13, cc14, cc15, cc16, cc17, cc18, cc19, cc20, cc21, cc22, cc23⟩ := HC.out _ hSw; go_simp; (try with_reducible rfl))
        simp only [Act.put, List.setIfInBounds_toArray, List.set_cons_zero, List.set_cons_succ]
        refine take_at (i := 15) (v := ?v16_v14) rfl (by kernel_rfl) (by kernel_rfl) (by kernel_rfl) (fun _ _ _ h => h) (Or.inl ⟨by rfl, ?v16_y14⟩) (by assumption) ?v16_r14
        case v16_y14 => (intro w hSw; (try dsimp only at hSw); go_simp; (try with_reducible rfl))
        simp only [Act.put, List.setIfInBounds_toArray, List.set_cons_zero, List.set_cons_succ]
        refine take_at (i := 16) (v := ?v16_v15) rfl (by kernel_rfl) (by kernel_rfl) (by kernel_rfl) (fun _ _ _ h => h) (Or.inl ⟨by rfl, ?v16_y15⟩) (by assumption) ?v16_r15
        case v16_y15 => (intro w hSw; (try dsimp only at hSw); go_simp; (try with_reducible rfl))
        simp only [Act.put, List.setIfInBounds_toArray, List.set_cons_zero, List.set_cons_succ]
        refine wpAnyH_ready (rs := [11]) (by kernel_rfl) (by simp) ?_
        refine cons_at (i := 11) rfl (fun K hK => ?_) AllReadyH.nil
        go_simp
        refine (neg_R ⟨s1a, A1a, n1a, c1a, s2a, A2a, n2a, c2a⟩ (Ga.out.past Bv16_9.out) (HT.out.on (S135.out.call Bv16_9.out).bl) (by decide)).mono ?_
        rintro e v16_w16 ⟨⟨spv16_11, Apv16_11, npv16_11, cpv16_11, sqv16_11, Aqv16_11, nqv16_11, cqv16_11⟩, rfl, hc1, hc2, hf, f1, f2, hb⟩
        try dsimp only [frV]
        try dsimp only
        have X16 := Lib.hid hb
        have FGv16_11_16 := Lib.hid hf
        have FAv16_11 : Hid (Fresh w135 Apv16_11 npv16_11) := fun hp ad e => Nat.le_trans Bv16_9.out.size (f1 hp ad e)
        have FBv16_11 : Hid (Fresh w135 Aqv16_11 nqv16_11) := fun hp ad e => Nat.le_trans Bv16_9.out.size (f2 hp ad e)
        have HCAv16_11 := Lib.hid hc1
        have HCBv16_11 := Lib.hid hc2
        have Bv16_17 := Lib.hid (Bv16_9.out.trans (X16.out.mono Bv16_9.out.size))
        refine hK.out _ _ ?_ (fun hHeld => ?_)
        · exact Bv16_17.out
        clear Bv16_9 X16 hc1 hc2 hf f1 f2 hb
        clear hK K
        (try simp only [Act.put, uA, uB, uC])
        refine wpAnyH_ready (rs := [13]) (by kernel_rfl) (by simp) ?_
        refine cons_at (i := 13) rfl (fun K hK => ?_) AllReadyH.nil
        go_simp
        refine (neg_R ⟨s1b, A1b, n1b, c1b, s2b, A2b, n2b, c2b⟩ (Gb.out.past Bv16_17.out) (HT.out.on (S135.out.call Bv16_17.out).bl) (by decide)).mono ?_
        rintro e v16_w18 ⟨⟨spv16_13, Apv16_13, npv16_13, cpv16_13, sqv16_13, Aqv16_13, nqv16_13, cqv16_13⟩, rfl, hc1, hc2, hf, f1, f2, hb⟩
        try dsimp only [frV]
        try dsimp only
        have X18 := Lib.hid hb
        have FGv16_13_18 := Lib.hid hf
        have FAv16_13 : Hid (Fresh w135 Apv16_13 npv16_13) := fun hp ad e => Nat.le_trans Bv16_17.out.size (f1 hp ad e)
        have FBv16_13 : Hid (Fresh w135 Aqv16_13 nqv16_13) := fun hp ad e => Nat.le_trans Bv16_17.out.size (f2 hp ad e)
        have HCAv16_13 := Lib.hid hc1
        have HCBv16_13 := Lib.hid hc2
        have Bv16_19 := Lib.hid (Bv16_17.out.trans (X18.out.mono Bv16_17.out.size))
        have FGv16_11_19 := Lib.hid (FGv16_11_16.out.past X18.out)
        refine hK.out _ _ ?_ (fun hHeld => ?_)
        · exact Bv16_19.out
        clear Bv16_17 FGv16_11_16 X18 hc1 hc2 hf f1 f2 hb
        clear hK K
        (try simp only [Act.put, uA, uB, uC])
        refine wpAnyH_ready (rs := [14]) (by kernel_rfl) (by simp) ?_
        refine cons_at (i := 14) rfl (fun K hK => ?_) AllReadyH.nil
        go_simp
        refine (compare_R (k := 12) ⟨spv16_11, Apv16_11, npv16_11, cpv16_11, sqv16_11, Aqv16_11, nqv16_11, cqv16_11⟩ ⟨spv16_13, Apv16_13, npv16_13, cpv16_13, sqv16_13, Aqv16_13, nqv16_13, cqv16_13⟩ FGv16_11_19.out FGv16_13_18.out (HT.out.on (S135.out.call Bv16_19.out).bl) (by decide) (o := no) HNO.out).mono ?_
        rintro e v16_w20 ⟨rfl, hb⟩
        try dsimp only
        have X20 := Lib.hid hb
        have Bv16_21 := Lib.hid (Bv16_19.out.trans (X20.out.mono Bv16_19.out.size))
        have FGv16_11_21 := Lib.hid (FGv16_11_19.out.past X20.out)
        have FGv16_13_21 := Lib.hid (FGv16_13_18.out.past X20.out)
        refine hK.out _ _ ?_ (fun hHeld => ?_)
        · exact Bv16_21.out
        clear Bv16_19 FGv16_11_19 FGv16_13_18 X20 hb
        clear hK K
        (try simp only [Act.put, uA, uB, uC])
        refine take_at (i := 17) (v := ?v16_v22) rfl (by kernel_rfl) (by kernel_rfl) (by kernel_rfl) (fun _ _ _ h => h) (Or.inl ⟨by rfl, ?v16_y22⟩) (by assumption) ?v16_r22
        case v16_y22 => (intro w hSw; (try dsimp only at hSw); go_simp; (try with_reducible rfl))
        simp only [Act.put, List.setIfInBounds_toArray, List.set_cons_zero, List.set_cons_succ]
        refine take_at (i := 18) (v := ?v16_v23) rfl (by kernel_rfl) (by kernel_rfl) (by kernel_rfl) (fun _ _ _ h => h) (Or.inl ⟨by rfl, ?v16_y23⟩) (by assumption) ?v16_r23
        case v16_y23 => (intro w hSw; (try dsimp only at hSw); go_simp; (try with_reducible rfl))
        simp only [Act.put, List.setIfInBounds_toArray, List.set_cons_zero, List.set_cons_succ]
        refine take_at (i := 19) (v := ?v16_v24) rfl (by kernel_rfl) (by kernel_rfl) (by kernel_rfl) (fun _ _ _ h => h) (Or.inl ⟨by rfl, ?v16_y24⟩) (by assumption) ?v16_r24
        case v16_y24 => (intro w hSw; (try dsimp only at hSw); go_simp; (try with_reducible rfl))
        simp only [Act.put, List.setIfInBounds_toArray, List.set_cons_zero, List.set_cons_succ]
        refine take_at (i := 20) (v := ?v16_v25) rfl (by kernel_rfl) (by kernel_rfl) (by kernel_rfl) (fun _ _ _ h => h) (Or.inl ⟨by rfl, ?v16_y25⟩) (by assumption) ?v16_r25
        case v16_y25 => (intro w hSw; (try dsimp only at hSw); obtain ⟨cc0, cc1, cc2, cc3, cc4, cc5, cc6, cc7, cc8, cc9, cc10, cc11, cc12, cc13, cc14, cc15, cc16, cc17, cc18, cc19, cc20, cc21, cc22, cc23⟩ := HC.out _ hSw; go_simp; (try with_reducible rfl))
        simp only [Act.put, List.setIfInBounds_toArray, List.set_cons_zero, List.set_cons_succ]
        refine take_at (i := 22) (v := ?v16_v26) rfl (by kernel_rfl) (by kernel_rfl) (by kernel_rfl) (fun _ _ _ h => h) (Or.inl ⟨by rfl, ?v16_y26⟩) (by assumption) ?v16_r26
        case v16_y26 => (intro w hSw; (try dsimp only at hSw); go_simp; (try with_reducible rfl))
        simp only [Act.put, List.setIfInBounds_toArray, List.set_cons_zero, List.set_cons_succ]
        refine wpAnyH_ready (rs := [21]) (by kernel_rfl) (by simp) ?_
        refine cons_at (i := 21) rfl (fun K hK => ?_) AllReadyH.nil
        go_simp
        refine (sign_R (k := 25) ⟨s1_120, A1_120, n1_120, c1_120, s2_120, A2_120, n2_120, c2_120⟩ (Gd.out.past Bv16_21.out) (HT.out.on (S135.out.call Bv16_21.out).bl) (by decide) (o := o) ((sgnR_sub xa xb).trans HO.out.symm)).mono ?_
        rintro e v16_w27 ⟨rfl, hb⟩
        try dsimp only
        have X27 := Lib.hid hb
        have Bv16_28 := Lib.hid (Bv16_21.out.trans (X27.out.mono Bv16_21.out.size))
        have FGv16_11_28 := Lib.hid (FGv16_11_21.out.past X27.out)
        have FGv16_13_28 := Lib.hid (FGv16_13_21.out.past X27.out)
        refine hK.out _ _ ?_ (fun hHeld => ?_)
        · exact Bv16_28.out
        clear Bv16_21 FGv16_11_21 FGv16_13_21 X27 hb
        clear hK K
        (try simp only [Act.put, uA, uB, uC])
        refine take_at (i := 23) (v := ?v16_v29) rfl (by kernel_rfl) (by kernel_rfl) (by kernel_rfl) (fun _ _ _ h => h) (Or.inl ⟨by rfl, ?v16_y29⟩) (by assumption) ?v16_r29
        case v16_y29 => (intro w hSw; (try dsimp only at hSw); go_simp; (try with_reducible rfl))
        simp only [Act.put, List.setIfInBounds_toArray, List.set_cons_zero, List.set_cons_succ]
        refine take_at (i := 24) (v := ?v16_v30) rfl (by kernel_rfl) (by kernel_rfl) (by kernel_rfl) (fun _ _ _ h => h) (Or.inl ⟨by rfl, ?v16_y30⟩) (by assumption) ?v16_r30
        case v16_y30 => (intro w hSw; (try dsimp only at hSw); go_simp; (try with_reducible rfl))
        simp only [Act.put, List.setIfInBounds_toArray, List.set_cons_zero, List.set_cons_succ]
        refine wpAnyH_done (by kernel_rfl) ?_ _
        go_wp2_with fail
        go_meet
        exact ⟨rfl, S135.out.call Bv16_28.out⟩
       case rest => as_aux_lemma =>
        obtain ⟨rfl, HX⟩ := hcut
        obtain ⟨w186, rfl⟩ : ∃ W : World, W = wc := ⟨_, rfl⟩
        have S186 := HX
        clear HX S135
        have F := S186.out.bx _ (List.mem_of_getElem? (i := 5) rfl)
        dsimp only [frC] at F
        obtain ⟨za0, za1, za2, za3, -, -, -, -⟩ := fr_cells F.1
        have Ga := Lib.hid F.2
        clear F
        have F := S186.out.bx _ (List.mem_of_getElem? (i := 6) rfl)
        dsimp only [frC] at F
        obtain ⟨zb0, zb1, zb2, zb3, -, -, -, -⟩ := fr_cells F.1
        have Gb := Lib.hid F.2
        clear F
        have M := Lib.hid (min_R (k := 12) ⟨s1a, A1a, n1a, c1a, s2a, A2a, n2a, c2a⟩ ⟨s1b, A1b, n1b, c1b, s2b, A2b, n2b, c2b⟩ Ga.out Gb.out (HT.out.on S186.out.bl) (by decide))
        (try dsimp only [frV] at M)
        go_wp2_with fail
        refine M.out.mono ?_
        rintro e w187 ⟨⟨s1_187, A1_187, n1_187, c1_187, s2_187, A2_187, n2_187, c2_187⟩, rfl, -, -, hg, hf1, hf2, hb⟩
        have HG := Lib.hid hg
        have HF1 := Lib.hid hf1
        have HF2 := Lib.hid hf2
        have HB := Lib.hid hb
        clear hg hf1 hf2 hb M
        clear za0 za1 za2 za3 Ga zb0 zb1 zb2 zb3 Gb
        (try dsimp only [frV])
        have M := Lib.hid (right5_R ⟨s1_187, A1_187, n1_187, c1_187, s2_187, A2_187, n2_187, c2_187⟩ HG.out (HT.out.on (S186.out.call HB.out).bl) (by decide))
        (try dsimp only [frV] at M)
        go_wp2_with fail
        refine M.out.mono ?_
        rintro e w188 ⟨rfl, hb⟩
        have HG2 := Lib.hid (HG.out.past hb)
        have HB2 := Lib.hid (HB.out.trans (hb.mono HB.out.size))
        clear HG HB hb M
        have HG := HG2
        have HB := HB2
        clear HG2 HB2
        have S189 := Lib.hid (S186.out.made HB.out HG.out HF1.out HF2.out)
        clear HG HB HF1 HF2 S186
        have F := S189.out.bx _ (List.mem_of_getElem? (i := 6) rfl)
        dsimp only [frC] at F
        obtain ⟨za0, za1, za2, za3, -, -, -, -⟩ := fr_cells F.1
        have Ga := Lib.hid F.2
        clear F
        have F := S189.out.bx _ (List.mem_of_getElem? (i := 7) rfl)
        dsimp only [frC] at F
        obtain ⟨zb0, zb1, zb2, zb3, -, -, -, -⟩ := fr_cells F.1
        have Gb := Lib.hid F.2
        clear F
        have M := Lib.hid (max_R (k := 12) ⟨s1a, A1a, n1a, c1a, s2a, A2a, n2a, c2a⟩ ⟨s1b, A1b, n1b, c1b, s2b, A2b, n2b, c2b⟩ Ga.out Gb.out (HT.out.on S189.out.bl) (by decide))
        (try dsimp only [frV] at M)
        go_wp2_with fail
        refine M.out.mono ?_
        rintro e w190 ⟨⟨s1_190, A1_190, n1_190, c1_190, s2_190, A2_190, n2_190, c2_190⟩, rfl, -, -, hg, hf1, hf2, hb⟩
        have HG := Lib.hid hg
        have HF1 := Lib.hid hf1
        have HF2 := Lib.hid hf2
        have HB := Lib.hid hb
        clear hg hf1 hf2 hb M
        clear za0 za1 za2 za3 Ga zb0 zb1 zb2 zb3 Gb
        (try dsimp only [frV])
        have M := Lib.hid (right5_R ⟨s1_190, A1_190, n1_190, c1_190, s2_190, A2_190, n2_190, c2_190⟩ HG.out (HT.out.on (S189.out.call HB.out).bl) (by decide))
        (try dsimp only [frV] at M)
        go_wp2_with fail
        refine M.out.mono ?_
        rintro e w191 ⟨rfl, hb⟩
        have HG2 := Lib.hid (HG.out.past hb)
        have HB2 := Lib.hid (HB.out.trans (hb.mono HB.out.size))
        clear HG HB hb M
        have HG := HG2
        have HB := HB2
        clear HG2 HB2
        have S192 := Lib.hid (S189.out.made HB.out HG.out HF1.out HF2.out)
        clear HG HB HF1 HF2 S189
        as_aux_lemma =>
         have F := S192.out.bx _ (List.mem_of_getElem? (i := 1) rfl)
         dsimp only [frC] at F
         obtain ⟨zlo0, zlo1, zlo2, zlo3, -, -, -, -⟩ := fr_cells F.1
         have Glo := Lib.hid F.2
         clear F
         have F := S192.out.bx _ (List.mem_of_getElem? (i := 0) rfl)
         dsimp only [frC] at F
         obtain ⟨zhi0, zhi1, zhi2, zhi3, -, -, -, -⟩ := fr_cells F.1
         have Ghi := Lib.hid F.2
         clear F
         have M := Lib.hid (add_R (k := 12) ⟨s1_187, A1_187, n1_187, c1_187, s2_187, A2_187, n2_187, c2_187⟩ ⟨s1_190, A1_190, n1_190, c1_190, s2_190, A2_190, n2_190, c2_190⟩ Glo.out Ghi.out (HT.out.on S192.out.bl) (by decide))
         (try dsimp only [frV] at M)
         go_wp2_with fail
         refine M.out.mono ?_
         rintro e w193 ⟨⟨s1_193, A1_193, n1_193, c1_193, s2_193, A2_193, n2_193, c2_193⟩, rfl, -, -, hg, hf1, hf2, hb⟩
         have HG := Lib.hid hg
         have HF1 := Lib.hid hf1
         have HF2 := Lib.hid hf2
         have HB := Lib.hid hb
         clear hg hf1 hf2 hb M
         clear zlo0 zlo1 zlo2 zlo3 Glo zhi0 zhi1 zhi2 zhi3 Ghi
         (try dsimp only [frV])
         have M := Lib.hid (right5_R ⟨s1_193, A1_193, n1_193, c1_193, s2_193, A2_193, n2_193, c2_193⟩ HG.out (HT.out.on (S192.out.call HB.out).bl) (by decide))
         (try dsimp only [frV] at M)
         go_wp2_with fail
         refine M.out.mono ?_
         rintro e w194 ⟨rfl, hb⟩
         have HG2 := Lib.hid (HG.out.past hb)
         have HB2 := Lib.hid (HB.out.trans (hb.mono HB.out.size))
         clear HG HB hb M
         have HG := HG2
         have HB := HB2
         clear HG2 HB2
         have S195 := Lib.hid (S192.out.made HB.out HG.out HF1.out HF2.out)
         clear HG HB HF1 HF2 S192
         have F := S195.out.bx _ (List.mem_of_getElem? (i := 8) rfl)
         dsimp only [frC] at F
         obtain ⟨za0, za1, za2, za3, -, -, -, -⟩ := fr_cells F.1
         have Ga := Lib.hid F.2
         clear F
         have F := S195.out.bx _ (List.mem_of_getElem? (i := 9) rfl)
         dsimp only [frC] at F
         obtain ⟨zb0, zb1, zb2, zb3, -, -, -, -⟩ := fr_cells F.1
         have Gb := Lib.hid F.2
         clear F
         have M := Lib.hid (add_R (k := 12) ⟨s1a, A1a, n1a, c1a, s2a, A2a, n2a, c2a⟩ ⟨s1b, A1b, n1b, c1b, s2b, A2b, n2b, c2b⟩ Ga.out Gb.out (HT.out.on S195.out.bl) (by decide))
         (try dsimp only [frV] at M)
         go_wp2_with fail
         refine M.out.mono ?_
         rintro e w196 ⟨⟨s1_196, A1_196, n1_196, c1_196, s2_196, A2_196, n2_196, c2_196⟩, rfl, -, -, hg, hf1, hf2, hb⟩
         have HG := Lib.hid hg
         have HF1 := Lib.hid hf1
         have HF2 := Lib.hid hf2
         have HB := Lib.hid hb
         clear hg hf1 hf2 hb M
         clear za0 za1 za2 za3 Ga zb0 zb1 zb2 zb3 Gb
         (try dsimp only [frV])
         have M := Lib.hid (right5_R ⟨s1_196, A1_196, n1_196, c1_196, s2_196, A2_196, n2_196, c2_196⟩ HG.out (HT.out.on (S195.out.call HB.out).bl) (by decide))
         (try dsimp only [frV] at M)
         go_wp2_with fail
         refine M.out.mono ?_
         rintro e w197 ⟨rfl, hb⟩
         have HG2 := Lib.hid (HG.out.past hb)
         have HB2 := Lib.hid (HB.out.trans (hb.mono HB.out.size))
         clear HG HB hb M
         have HG := HG2
         have HB := HB2
         clear HG2 HB2
         have S198 := Lib.hid (S195.out.made HB.out HG.out HF1.out HF2.out)
         clear HG HB HF1 HF2 S195
         dsimp only [frC] at S198
         go_upto_region 22 with (fail)
         obtain ⟨w22_, hw⟩ : ∃ W, W = (w197.alloc (.cells #[.int .i64 s1_196, .slice A1_196 n1_196 c1_196, .int .i64 s2_196, .slice A2_196 n2_196 c2_196] 26)) := ⟨_, rfl⟩
         rw [← hw] at S198 ⊢
         clear hw
         have F := S198.out.bx _ (List.mem_of_getElem? (i := 9) rfl)
         dsimp only [frC] at F
         obtain ⟨za0, za1, za2, za3, -, -, -, -⟩ := fr_cells F.1
         have Ga := Lib.hid F.2
         clear F
         go_cut [23, 18] (fun p1 p2 wc => p2 = .bool true ∧ ∃ b, p1 = .pointer (some ⟨b, 0, none⟩) ∧ Hid (OneF w22_ wc b (12 + 12 + 1) (xa + -xa)))
         case first => as_aux_lemma =>
           have HC := Lib.hid (fun (w' : World) (h : Below w22_.heap.size w22_ w') => (⟨(h.cell (p := ⟨w.heap.size, 0, none⟩) (World.block_lt_of_cell? _ _ za0)).trans za0, (h.cell (p := ⟨w.heap.size, 1, none⟩) (World.block_lt_of_cell? _ _ za1)).trans za1, (h.cell (p := ⟨w.heap.size, 2, none⟩) (World.block_lt_of_cell? _ _ za2)).trans za2, (h.cell (p := ⟨w.heap.size, 3, none⟩) (World.block_lt_of_cell? _ _ za3)).trans za3⟩ : w'.cell? ⟨w.heap.size, 0, none⟩ = some (.int .i64 s1a) ∧ w'.cell? ⟨w.heap.size, 1, none⟩ = some (.slice A1a n1a c1a) ∧ w'.cell? ⟨w.heap.size, 2, none⟩ = some (.int .i64 s2a) ∧ w'.cell? ⟨w.heap.size, 3, none⟩ = some (.slice A2a n2a c2a)))
           clear za0 za1 za2 za3
           have Bv22_0 := Lib.hid (Below.refl w22_.heap.size w22_).drew
           refine wp_region_held_drew (S := fun w' => Below w22_.heap.size w22_ w') (by kernel_rfl) Bv22_0.out (fun hHeld => ?_)
           obtain ⟨v22_w0, hw⟩ : ∃ W, W = w22_.drew := ⟨_, rfl⟩
           rw [← hw] at hHeld Bv22_0 ⊢
           clear hw
           refine take_at (i := 0) (v := ?v22_v1) rfl (by kernel_rfl) (by kernel_rfl) (by kernel_rfl) (fun _ _ _ h => h) (Or.inl ⟨by rfl, ?v22_y1⟩) (by assumption) ?v22_r1
           case v22_y1 => (intro w hSw; (try dsimp only at hSw); obtain ⟨cc0, cc1, cc2, cc3⟩ := HC.out _ hSw; go_simp; (try with_reducible rfl))
           simp only [Act.put, List.setIfInBounds_toArray, List.set_cons_zero, List.set_cons_succ]
           refine take_at (i := 1) (v := ?v22_v2) rfl (by kernel_rfl) (by kernel_rfl) (by kernel_rfl) (fun _ _ _ h => h) (Or.inl ⟨by rfl, ?v22_y2⟩) (by assumption) ?v22_r2
           case v22_y2 => (intro w hSw; (try dsimp only at hSw); obtain ⟨cc0, cc1, cc2, cc3⟩ := HC.out _ hSw; go_simp; (try with_reducible rfl))
           simp only [Act.put, List.setIfInBounds_toArray, List.set_cons_zero, List.set_cons_succ]
           refine wpAnyH_ready (rs := [2, 10]) (by kernel_rfl) (by simp) ?_
           refine cons_at (i := 2) rfl (fun K hK => ?_) ?_
           go_simp
           refine (neg_R ⟨s1a, A1a, n1a, c1a, s2a, A2a, n2a, c2a⟩ (Ga.out.past Bv22_0.out) (HT.out.on (S198.out.call Bv22_0.out).bl) (by decide)).mono ?_
           rintro e v22_w3 ⟨⟨spv22_2, Apv22_2, npv22_2, cpv22_2, sqv22_2, Aqv22_2, nqv22_2, cqv22_2⟩, rfl, hc1, hc2, hf, f1, f2, hb⟩
           try dsimp only [frV]
           try dsimp only
           have X3 := Lib.hid hb
           have FGv22_2_3 := Lib.hid hf
           have FAv22_2 : Hid (Fresh w22_ Apv22_2 npv22_2) := fun hp ad e => Nat.le_trans Bv22_0.out.size (f1 hp ad e)
           have FBv22_2 : Hid (Fresh w22_ Aqv22_2 nqv22_2) := fun hp ad e => Nat.le_trans Bv22_0.out.size (f2 hp ad e)
           have HCAv22_2 := Lib.hid hc1
           have HCBv22_2 := Lib.hid hc2
           have Bv22_4 := Lib.hid (Bv22_0.out.trans (X3.out.mono Bv22_0.out.size))
           refine hK.out _ _ ?_ (fun hHeld => ?_)
           · exact Bv22_4.out
           clear Bv22_0 X3 hc1 hc2 hf f1 f2 hb
           clear hK K
           (try simp only [Act.put, uA, uB, uC])
           refine wpAnyH_ready (rs := [3, 10]) (by kernel_rfl) (by simp) ?_
           refine cons_at (i := 3) rfl (fun K hK => ?_) ?_
           go_simp
           refine (add_R (k := 12) ⟨s1a, A1a, n1a, c1a, s2a, A2a, n2a, c2a⟩ ⟨spv22_2, Apv22_2, npv22_2, cpv22_2, sqv22_2, Aqv22_2, nqv22_2, cqv22_2⟩ (Ga.out.past Bv22_4.out) FGv22_2_3.out (HT.out.on (S198.out.call Bv22_4.out).bl) (by decide)).mono ?_
           rintro e v22_w5 ⟨⟨spv22_3, Apv22_3, npv22_3, cpv22_3, sqv22_3, Aqv22_3, nqv22_3, cqv22_3⟩, rfl, hc1, hc2, hf, f1, f2, hb⟩
           try dsimp only [frV]
           try dsimp only
           have X5 := Lib.hid hb
           have FGv22_3_5 := Lib.hid hf
           have FAv22_3 : Hid (Fresh w22_ Apv22_3 npv22_3) := fun hp ad e => Nat.le_trans Bv22_4.out.size (f1 hp ad e)
           have FBv22_3 : Hid (Fresh w22_ Aqv22_3 nqv22_3) := fun hp ad e => Nat.le_trans Bv22_4.out.size (f2 hp ad e)
           have HCAv22_3 := Lib.hid hc1
           have HCBv22_3 := Lib.hid hc2
           have Bv22_6 := Lib.hid (Bv22_4.out.trans (X5.out.mono Bv22_4.out.size))
           have FGv22_2_6 := Lib.hid (FGv22_2_3.out.past X5.out)
           refine hK.out _ _ ?_ (fun hHeld => ?_)
           · exact Bv22_6.out
           clear Bv22_4 FGv22_2_3 X5 hc1 hc2 hf f1 f2 hb
           clear hK K
           (try simp only [Act.put, uA, uB, uC])
           refine take_at (i := 4) (v := ?v22_v7) rfl (by kernel_rfl) (by kernel_rfl) (by kernel_rfl) (fun _ _ _ h => h) (Or.inl ⟨by rfl, ?v22_y7⟩) (by assumption) ?v22_r7
           case v22_y7 => (intro w hSw; (try dsimp only at hSw); go_simp; (try with_reducible rfl))
           simp only [Act.put, List.setIfInBounds_toArray, List.set_cons_zero, List.set_cons_succ]
           refine take_at (i := 5) (v := ?v22_v8) rfl (by kernel_rfl) (by kernel_rfl) (by kernel_rfl) (fun _ _ _ h => h) (Or.inl ⟨by rfl, ?v22_y8⟩) (by assumption) ?v22_r8
           case v22_y8 => (intro w hSw; (try dsimp only at hSw); go_simp; (try with_reducible rfl))
           simp only [Act.put, List.setIfInBounds_toArray, List.set_cons_zero, List.set_cons_succ]
           refine wpAnyH_ready (rs := [6, 10]) (by kernel_rfl) (by simp) ?_
           refine cons_at (i := 6) rfl (fun K hK => ?_) ?_
           go_simp
           refine (right5_R ⟨spv22_3, Apv22_3, npv22_3, cpv22_3, sqv22_3, Aqv22_3, nqv22_3, cqv22_3⟩ FGv22_3_5.out (HT.out.on (S198.out.call Bv22_6.out).bl) (by decide)).mono ?_
           rintro e v22_w9 ⟨rfl, hb⟩
           try dsimp only
           try dsimp only [frV]
           have X9 := Lib.hid hb
           have Bv22_10 := Lib.hid (Bv22_6.out.trans (X9.out.mono Bv22_6.out.size))
           have FGv22_2_10 := Lib.hid (FGv22_2_6.out.past X9.out)
           have FGv22_3_10 := Lib.hid (FGv22_3_5.out.past X9.out)
           refine hK.out _ _ ?_ (fun hHeld => ?_)
           · exact Bv22_10.out
           clear Bv22_6 FGv22_2_6 FGv22_3_5 X9 hb
           clear hK K
           (try simp only [Act.put, uA, uB, uC])
           refine take_at (i := 7) (v := ?v22_v11) rfl (by kernel_rfl) (by kernel_rfl) (by kernel_rfl) (fun _ _ _ h => h) (Or.inl ⟨by rfl, ?v22_y11⟩) (by assumption) ?v22_r11
           case v22_y11 => (intro w hSw; (try dsimp only at hSw); go_simp; (try with_reducible rfl))
           simp only [Act.put, List.setIfInBounds_toArray, List.set_cons_zero, List.set_cons_succ]
           refine take_at (i := 8) (v := ?v22_v12) rfl (by kernel_rfl) (by kernel_rfl) (by kernel_rfl) (fun _ _ _ h => h) (Or.inl ⟨by rfl, ?v22_y12⟩) (by assumption) ?v22_r12
           case v22_y12 => (intro w hSw; (try dsimp only at hSw); go_simp; (try with_reducible rfl))
           simp only [Act.put, List.setIfInBounds_toArray, List.set_cons_zero, List.set_cons_succ]
           refine take_at (i := 9) (v := ?v22_v13) rfl (by kernel_rfl) (by kernel_rfl) (by kernel_rfl) (fun _ _ _ h => h) (Or.inl ⟨by rfl, ?v22_y13⟩) (by assumption) ?v22_r13
           case v22_y13 => (intro w hSw; (try dsimp only at hSw); go_simp; (try with_reducible rfl))
           simp only [Act.put, List.setIfInBounds_toArray, List.set_cons_zero, List.set_cons_succ]
           refine wpAnyH_ready (rs := [10]) (by kernel_rfl) (by simp) ?_
           refine cons_at (i := 10) rfl (fun K hK => ?_) AllReadyH.nil
           go_simp
           obtain ⟨v22_w14, hw⟩ : ∃ W', W' = v22_w9.alloc (.cells #[.int .i64 0, .slice none 0 0, .int .i64 0, .slice none 0 0] 26) := ⟨_, rfl⟩
           obtain ⟨v22_b10_14, hb⟩ : ∃ b, b = v22_w9.heap.size := ⟨_, rfl⟩
           have X14 := Lib.hid (bal (Below.refl v22_w9.heap.size v22_w9) (o := .cells #[.int .i64 0, .slice none 0 0, .int .i64 0, .slice none 0 0] 26))
           have Kv22_v22_b10_140 := Lib.hid (Blk.new v22_w9 26 #[.int .i64 0, .slice none 0 0, .int .i64 0, .slice none 0 0])
           rw [← hw] at X14 Kv22_v22_b10_140
           rw [← hb] at Kv22_v22_b10_140
           rw [← hw, ← hb]
           have lov22_b10_14 : w22_.heap.size ≤ v22_b10_14 := by rw [hb]; exact Bv22_10.out.size
           have of2v22_b10_14 := Lib.hid (FGv22_2_10.out.off_new (g := v22_b10_14) (by rw [hb]; exact Nat.le_refl _))
           have of3v22_b10_14 := Lib.hid (FGv22_3_10.out.off_new (g := v22_b10_14) (by rw [hb]; exact Nat.le_refl _))
           have Bv22_15 := Lib.hid (Bv22_10.out.trans (X14.out.mono Bv22_10.out.size))
           have FGv22_2_15 := Lib.hid (FGv22_2_10.out.past X14.out)
           have FGv22_3_15 := Lib.hid (FGv22_3_10.out.past X14.out)
           refine hK.out _ _ ?_ (fun hHeld => ?_)
           · exact Bv22_15.out
           clear Bv22_10 FGv22_2_10 FGv22_3_10 X14 hw hb
           clear hK K
           (try simp only [Act.put, uA, uB, uC])
           refine wpAnyH_ready (rs := [11]) (by kernel_rfl) (by simp) ?_
           refine cons_at (i := 11) rfl (fun K hK => ?_) AllReadyH.nil
           obtain ⟨f0, f1, f2, f3, f4, f5, f6, f7⟩ := fr_cells Kv22_v22_b10_140.out
           go_simp
           clear f0 f1 f2 f3 f4 f5 f6 f7
           obtain ⟨v22_w16, hw⟩ : ∃ W', W' = (((v22_w14.setCell ⟨v22_b10_14, 0, none⟩ (.int .i64 spv22_3)).setCell ⟨v22_b10_14, 1, none⟩ (.slice Apv22_3 npv22_3 cpv22_3)).setCell ⟨v22_b10_14, 2, none⟩ (.int .i64 sqv22_3)).setCell ⟨v22_b10_14, 3, none⟩ (.slice Aqv22_3 nqv22_3 cqv22_3) := ⟨_, rfl⟩
           rw [← hw]
           have Bv22_16 := Lib.hid (below_4 Bv22_15.out lov22_b10_14 (u := .int .i64 spv22_3) (v := .slice Apv22_3 npv22_3 cpv22_3) (x := .int .i64 sqv22_3) (y := .slice Aqv22_3 nqv22_3 cqv22_3))
           rw [← hw] at Bv22_16
           have Kv22_v22_b10_14_16 := Lib.hid (Kv22_v22_b10_140.out.set4 (a := .int .i64 spv22_3) (b := .slice Apv22_3 npv22_3 cpv22_3) (c := .int .i64 sqv22_3) (d := .slice Aqv22_3 nqv22_3 cqv22_3))
           rw [← hw] at Kv22_v22_b10_14_16
           have FGv22_2_16 := Lib.hid (FGv22_2_15.out.far4 of2v22_b10_14.out (a := .int .i64 spv22_3) (b := .slice Apv22_3 npv22_3 cpv22_3) (c := .int .i64 sqv22_3) (d := .slice Aqv22_3 nqv22_3 cqv22_3))
           rw [← hw] at FGv22_2_16
           have FGv22_3_16 := Lib.hid (FGv22_3_15.out.far4 of3v22_b10_14.out (a := .int .i64 spv22_3) (b := .slice Apv22_3 npv22_3 cpv22_3) (c := .int .i64 sqv22_3) (d := .slice Aqv22_3 nqv22_3 cqv22_3))
           rw [← hw] at FGv22_3_16
           refine hK.out _ _ ?_ (fun hHeld => ?_)
           · exact Bv22_16.out
           clear Bv22_15 Kv22_v22_b10_140 FGv22_2_15 FGv22_3_15 hw
           clear hK K
           (try simp only [Act.put, uA, uB, uC])
           refine take_at (i := 12) (v := ?v22_v17) rfl (by kernel_rfl) (by kernel_rfl) (by kernel_rfl) (fun _ _ _ h => h) (Or.inl ⟨by rfl, ?v22_y17⟩) (by assumption) ?v22_r17
           case v22_y17 => (intro w hSw; (try dsimp only at hSw); go_simp; (try with_reducible rfl))
           simp only [Act.put, List.setIfInBounds_toArray, List.set_cons_zero, List.set_cons_succ]
           refine wpAnyH_done (by kernel_rfl) ?_ _
           go_wp2_with fail
           go_meet
           exact ⟨rfl, v22_b10_14, rfl, (show OneF _ _ _ _ _ from ⟨⟨spv22_3, Apv22_3, npv22_3, cpv22_3, sqv22_3, Aqv22_3, nqv22_3, cqv22_3⟩, Kv22_v22_b10_14_16.out, lov22_b10_14, FGv22_3_16.out, FAv22_3.out, FBv22_3.out, of3v22_b10_14.out, Bv22_16.out⟩)⟩
           refine cons_at (i := 10) rfl (fun K hK => ?_) AllReadyH.nil
           go_simp
           obtain ⟨v22_w18, hw⟩ : ∃ W', W' = v22_w5.alloc (.cells #[.int .i64 0, .slice none 0 0, .int .i64 0, .slice none 0 0] 26) := ⟨_, rfl⟩
           obtain ⟨v22_b10_18, hb⟩ : ∃ b, b = v22_w5.heap.size := ⟨_, rfl⟩
           have X18 := Lib.hid (bal (Below.refl v22_w5.heap.size v22_w5) (o := .cells #[.int .i64 0, .slice none 0 0, .int .i64 0, .slice none 0 0] 26))
           have Kv22_v22_b10_180 := Lib.hid (Blk.new v22_w5 26 #[.int .i64 0, .slice none 0 0, .int .i64 0, .slice none 0 0])
           rw [← hw] at X18 Kv22_v22_b10_180
           rw [← hb] at Kv22_v22_b10_180
           rw [← hw, ← hb]
           have lov22_b10_18 : w22_.heap.size ≤ v22_b10_18 := by rw [hb]; exact Bv22_6.out.size
           have of2v22_b10_18 := Lib.hid (FGv22_2_6.out.off_new (g := v22_b10_18) (by rw [hb]; exact Nat.le_refl _))
           have of3v22_b10_18 := Lib.hid (FGv22_3_5.out.off_new (g := v22_b10_18) (by rw [hb]; exact Nat.le_refl _))
           have Bv22_19 := Lib.hid (Bv22_6.out.trans (X18.out.mono Bv22_6.out.size))
           have FGv22_2_19 := Lib.hid (FGv22_2_6.out.past X18.out)
           have FGv22_3_19 := Lib.hid (FGv22_3_5.out.past X18.out)
           refine hK.out _ _ ?_ (fun hHeld => ?_)
           · exact Bv22_19.out
           clear Bv22_6 FGv22_2_6 FGv22_3_5 X18 hw hb
           clear hK K
           (try simp only [Act.put, uA, uB, uC])
           refine wpAnyH_ready (rs := [6]) (by kernel_rfl) (by simp) ?_
           refine cons_at (i := 6) rfl (fun K hK => ?_) AllReadyH.nil
           go_simp
           refine (right5_R ⟨spv22_3, Apv22_3, npv22_3, cpv22_3, sqv22_3, Aqv22_3, nqv22_3, cqv22_3⟩ FGv22_3_19.out (HT.out.on (S198.out.call Bv22_19.out).bl) (by decide)).mono ?_
           rintro e v22_w20 ⟨rfl, hb⟩
           try dsimp only
           try dsimp only [frV]
           have X20 := Lib.hid hb
           have Bv22_21 := Lib.hid (Bv22_19.out.trans (X20.out.mono Bv22_19.out.size))
           have Kv22_v22_b10_1821 := Lib.hid (Kv22_v22_b10_180.out.below X20.out Kv22_v22_b10_180.out.lt)
           have FGv22_2_21 := Lib.hid (FGv22_2_19.out.past X20.out)
           have FGv22_3_21 := Lib.hid (FGv22_3_19.out.past X20.out)
           refine hK.out _ _ ?_ (fun hHeld => ?_)
           · exact Bv22_21.out
           clear Bv22_19 Kv22_v22_b10_180 FGv22_2_19 FGv22_3_19 X20 hb
           clear hK K
           (try simp only [Act.put, uA, uB, uC])
           refine take_at (i := 7) (v := ?v22_v22) rfl (by kernel_rfl) (by kernel_rfl) (by kernel_rfl) (fun _ _ _ h => h) (Or.inl ⟨by rfl, ?v22_y22⟩) (by assumption) ?v22_r22
           case v22_y22 => (intro w hSw; (try dsimp only at hSw); go_simp; (try with_reducible rfl))
           simp only [Act.put, List.setIfInBounds_toArray, List.set_cons_zero, List.set_cons_succ]
           refine take_at (i := 8) (v := ?v22_v23) rfl (by kernel_rfl) (by kernel_rfl) (by kernel_rfl) (fun _ _ _ h => h) (Or.inl ⟨by rfl, ?v22_y23⟩) (by assumption) ?v22_r23
           case v22_y23 => (intro w hSw; (try dsimp only at hSw); go_simp; (try with_reducible rfl))
           simp only [Act.put, List.setIfInBounds_toArray, List.set_cons_zero, List.set_cons_succ]
           refine take_at (i := 9) (v := ?v22_v24) rfl (by kernel_rfl) (by kernel_rfl) (by kernel_rfl) (fun _ _ _ h => h) (Or.inl ⟨by rfl, ?v22_y24⟩) (by assumption) ?v22_r24
           case v22_y24 => (intro w hSw; (try dsimp only at hSw); go_simp; (try with_reducible rfl))
           simp only [Act.put, List.setIfInBounds_toArray, List.set_cons_zero, List.set_cons_succ]
           refine wpAnyH_ready (rs := [11]) (by kernel_rfl) (by simp) ?_
           refine cons_at (i := 11) rfl (fun K hK => ?_) AllReadyH.nil
           obtain ⟨f0, f1, f2, f3, f4, f5, f6, f7⟩ := fr_cells Kv22_v22_b10_1821.out
           go_simp
           clear f0 f1 f2 f3 f4 f5 f6 f7
           obtain ⟨v22_w25, hw⟩ : ∃ W', W' = (((v22_w20.setCell ⟨v22_b10_18, 0, none⟩ (.int .i64 spv22_3)).setCell ⟨v22_b10_18, 1, none⟩ (.slice Apv22_3 npv22_3 cpv22_3)).setCell ⟨v22_b10_18, 2, none⟩ (.int .i64 sqv22_3)).setCell ⟨v22_b10_18, 3, none⟩ (.slice Aqv22_3 nqv22_3 cqv22_3) := ⟨_, rfl⟩
           rw [← hw]
           have Bv22_25 := Lib.hid (below_4 Bv22_21.out lov22_b10_18 (u := .int .i64 spv22_3) (v := .slice Apv22_3 npv22_3 cpv22_3) (x := .int .i64 sqv22_3) (y := .slice Aqv22_3 nqv22_3 cqv22_3))
           rw [← hw] at Bv22_25
           have Kv22_v22_b10_18_25 := Lib.hid (Kv22_v22_b10_1821.out.set4 (a := .int .i64 spv22_3) (b := .slice Apv22_3 npv22_3 cpv22_3) (c := .int .i64 sqv22_3) (d := .slice Aqv22_3 nqv22_3 cqv22_3))
           rw [← hw] at Kv22_v22_b10_18_25
           have FGv22_2_25 := Lib.hid (FGv22_2_21.out.far4 of2v22_b10_18.out (a := .int .i64 spv22_3) (b := .slice Apv22_3 npv22_3 cpv22_3) (c := .int .i64 sqv22_3) (d := .slice Aqv22_3 nqv22_3 cqv22_3))
           rw [← hw] at FGv22_2_25
           have FGv22_3_25 := Lib.hid (FGv22_3_21.out.far4 of3v22_b10_18.out (a := .int .i64 spv22_3) (b := .slice Apv22_3 npv22_3 cpv22_3) (c := .int .i64 sqv22_3) (d := .slice Aqv22_3 nqv22_3 cqv22_3))
           rw [← hw] at FGv22_3_25
           refine hK.out _ _ ?_ (fun hHeld => ?_)
           · exact Bv22_25.out
           clear Bv22_21 Kv22_v22_b10_1821 FGv22_2_21 FGv22_3_21 hw
           clear hK K
           (try simp only [Act.put, uA, uB, uC])
           refine take_at (i := 12) (v := ?v22_v26) rfl (by kernel_rfl) (by kernel_rfl) (by kernel_rfl) (fun _ _ _ h => h) (Or.inl ⟨by rfl, ?v22_y26⟩) (by assumption) ?v22_r26
           case v22_y26 => (intro w hSw; (try dsimp only at hSw); go_simp; (try with_reducible rfl))
           simp only [Act.put, List.setIfInBounds_toArray, List.set_cons_zero, List.set_cons_succ]
           refine wpAnyH_done (by kernel_rfl) ?_ _
           go_wp2_with fail
           go_meet
           exact ⟨rfl, v22_b10_18, rfl, (show OneF _ _ _ _ _ from ⟨⟨spv22_3, Apv22_3, npv22_3, cpv22_3, sqv22_3, Aqv22_3, nqv22_3, cqv22_3⟩, Kv22_v22_b10_18_25.out, lov22_b10_18, FGv22_3_25.out, FAv22_3.out, FBv22_3.out, of3v22_b10_18.out, Bv22_25.out⟩)⟩
           refine cons_at (i := 10) rfl (fun K hK => ?_) AllReadyH.nil
           go_simp
           obtain ⟨v22_w27, hw⟩ : ∃ W', W' = v22_w3.alloc (.cells #[.int .i64 0, .slice none 0 0, .int .i64 0, .slice none 0 0] 26) := ⟨_, rfl⟩
           obtain ⟨v22_b10_27, hb⟩ : ∃ b, b = v22_w3.heap.size := ⟨_, rfl⟩
           have X27 := Lib.hid (bal (Below.refl v22_w3.heap.size v22_w3) (o := .cells #[.int .i64 0, .slice none 0 0, .int .i64 0, .slice none 0 0] 26))
           have Kv22_v22_b10_270 := Lib.hid (Blk.new v22_w3 26 #[.int .i64 0, .slice none 0 0, .int .i64 0, .slice none 0 0])
           rw [← hw] at X27 Kv22_v22_b10_270
           rw [← hb] at Kv22_v22_b10_270
           rw [← hw, ← hb]
           have lov22_b10_27 : w22_.heap.size ≤ v22_b10_27 := by rw [hb]; exact Bv22_4.out.size
           have of2v22_b10_27 := Lib.hid (FGv22_2_3.out.off_new (g := v22_b10_27) (by rw [hb]; exact Nat.le_refl _))
           have Bv22_28 := Lib.hid (Bv22_4.out.trans (X27.out.mono Bv22_4.out.size))
           have FGv22_2_28 := Lib.hid (FGv22_2_3.out.past X27.out)
           refine hK.out _ _ ?_ (fun hHeld => ?_)
           · exact Bv22_28.out
           clear Bv22_4 FGv22_2_3 X27 hw hb
           clear hK K
           (try simp only [Act.put, uA, uB, uC])
           refine wpAnyH_ready (rs := [3]) (by kernel_rfl) (by simp) ?_
           refine cons_at (i := 3) rfl (fun K hK => ?_) AllReadyH.nil
           go_simp
           refine (add_R (k := 12) ⟨s1a, A1a, n1a, c1a, s2a, A2a, n2a, c2a⟩ ⟨spv22_2, Apv22_2, npv22_2, cpv22_2, sqv22_2, Aqv22_2, nqv22_2, cqv22_2⟩ (Ga.out.past Bv22_28.out) FGv22_2_28.out (HT.out.on (S198.out.call Bv22_28.out).bl) (by decide)).mono ?_
           rintro e v22_w29 ⟨⟨spv22_3, Apv22_3, npv22_3, cpv22_3, sqv22_3, Aqv22_3, nqv22_3, cqv22_3⟩, rfl, hc1, hc2, hf, f1, f2, hb⟩
           try dsimp only [frV]
           try dsimp only
           have X29 := Lib.hid hb
           have FGv22_3_29 := Lib.hid hf
           have FAv22_3 : Hid (Fresh w22_ Apv22_3 npv22_3) := fun hp ad e => Nat.le_trans Bv22_28.out.size (f1 hp ad e)
           have FBv22_3 : Hid (Fresh w22_ Aqv22_3 nqv22_3) := fun hp ad e => Nat.le_trans Bv22_28.out.size (f2 hp ad e)
           have HCAv22_3 := Lib.hid hc1
           have HCBv22_3 := Lib.hid hc2
           have of3v22_b10_27 := Lib.hid (off_old f1 f2 Kv22_v22_b10_270.out.lt)
           have Bv22_30 := Lib.hid (Bv22_28.out.trans (X29.out.mono Bv22_28.out.size))
           have Kv22_v22_b10_2730 := Lib.hid (Kv22_v22_b10_270.out.below X29.out Kv22_v22_b10_270.out.lt)
           have FGv22_2_30 := Lib.hid (FGv22_2_28.out.past X29.out)
           refine hK.out _ _ ?_ (fun hHeld => ?_)
           · exact Bv22_30.out
           clear Bv22_28 Kv22_v22_b10_270 FGv22_2_28 X29 hc1 hc2 hf f1 f2 hb
           clear hK K
           (try simp only [Act.put, uA, uB, uC])
           refine take_at (i := 4) (v := ?v22_v31) rfl (by kernel_rfl) (by kernel_rfl) (by kernel_rfl) (fun _ _ _ h => h) (Or.inl ⟨by rfl, ?v22_y31⟩) (by assumption) ?v22_r31
           case v22_y31 => (intro w hSw; (try dsimp only at hSw); go_simp; (try with_reducible rfl))
           simp only [Act.put, List.setIfInBounds_toArray, List.set_cons_zero, List.set_cons_succ]
           refine take_at (i := 5) (v := ?v22_v32) rfl (by kernel_rfl) (by kernel_rfl) (by kernel_rfl) (fun _ _ _ h => h) (Or.inl ⟨by rfl, ?v22_y32⟩) (by assumption) ?v22_r32
           case v22_y32 => (intro w hSw; (try dsimp only at hSw); go_simp; (try with_reducible rfl))
           simp only [Act.put, List.setIfInBounds_toArray, List.set_cons_zero, List.set_cons_succ]
           refine wpAnyH_ready (rs := [6]) (by kernel_rfl) (by simp) ?_
           refine cons_at (i := 6) rfl (fun K hK => ?_) AllReadyH.nil
           go_simp
           refine (right5_R ⟨spv22_3, Apv22_3, npv22_3, cpv22_3, sqv22_3, Aqv22_3, nqv22_3, cqv22_3⟩ FGv22_3_29.out (HT.out.on (S198.out.call Bv22_30.out).bl) (by decide)).mono ?_
           rintro e v22_w33 ⟨rfl, hb⟩
           try dsimp only
           try dsimp only [frV]
           have X33 := Lib.hid hb
           have Bv22_34 := Lib.hid (Bv22_30.out.trans (X33.out.mono Bv22_30.out.size))
           have Kv22_v22_b10_2734 := Lib.hid (Kv22_v22_b10_2730.out.below X33.out Kv22_v22_b10_2730.out.lt)
           have FGv22_2_34 := Lib.hid (FGv22_2_30.out.past X33.out)
           have FGv22_3_34 := Lib.hid (FGv22_3_29.out.past X33.out)
           refine hK.out _ _ ?_ (fun hHeld => ?_)
           · exact Bv22_34.out
           clear Bv22_30 Kv22_v22_b10_2730 FGv22_2_30 FGv22_3_29 X33 hb
           clear hK K
           (try simp only [Act.put, uA, uB, uC])
           refine take_at (i := 7) (v := ?v22_v35) rfl (by kernel_rfl) (by kernel_rfl) (by kernel_rfl) (fun _ _ _ h => h) (Or.inl ⟨by rfl, ?v22_y35⟩) (by assumption) ?v22_r35
           case v22_y35 => (intro w hSw; (try dsimp only at hSw); go_simp; (try with_reducible rfl))
           simp only [Act.put, List.setIfInBounds_toArray, List.set_cons_zero, List.set_cons_succ]
           refine take_at (i := 8) (v := ?v22_v36) rfl (by kernel_rfl) (by kernel_rfl) (by kernel_rfl) (fun _ _ _ h => h) (Or.inl ⟨by rfl, ?v22_y36⟩) (by assumption) ?v22_r36
           case v22_y36 => (intro w hSw; (try dsimp only at hSw); go_simp; (try with_reducible rfl))
           simp only [Act.put, List.setIfInBounds_toArray, List.set_cons_zero, List.set_cons_succ]
           refine take_at (i := 9) (v := ?v22_v37) rfl (by kernel_rfl) (by kernel_rfl) (by kernel_rfl) (fun _ _ _ h => h) (Or.inl ⟨by rfl, ?v22_y37⟩) (by assumption) ?v22_r37
           case v22_y37 => (intro w hSw; (try dsimp only at hSw); go_simp; (try with_reducible rfl))
           simp only [Act.put, List.setIfInBounds_toArray, List.set_cons_zero, List.set_cons_succ]
           refine wpAnyH_ready (rs := [11]) (by kernel_rfl) (by simp) ?_
           refine cons_at (i := 11) rfl (fun K hK => ?_) AllReadyH.nil
           obtain ⟨f0, f1, f2, f3, f4, f5, f6, f7⟩ := fr_cells Kv22_v22_b10_2734.out
           go_simp
           clear f0 f1 f2 f3 f4 f5 f6 f7
           obtain ⟨v22_w38, hw⟩ : ∃ W', W' = (((v22_w33.setCell ⟨v22_b10_27, 0, none⟩ (.int .i64 spv22_3)).setCell ⟨v22_b10_27, 1, none⟩ (.slice Apv22_3 npv22_3 cpv22_3)).setCell ⟨v22_b10_27, 2, none⟩ (.int .i64 sqv22_3)).setCell ⟨v22_b10_27, 3, none⟩ (.slice Aqv22_3 nqv22_3 cqv22_3) := ⟨_, rfl⟩
           rw [← hw]
           have Bv22_38 := Lib.hid (below_4 Bv22_34.out lov22_b10_27 (u := .int .i64 spv22_3) (v := .slice Apv22_3 npv22_3 cpv22_3) (x := .int .i64 sqv22_3) (y := .slice Aqv22_3 nqv22_3 cqv22_3))
           rw [← hw] at Bv22_38
           have Kv22_v22_b10_27_38 := Lib.hid (Kv22_v22_b10_2734.out.set4 (a := .int .i64 spv22_3) (b := .slice Apv22_3 npv22_3 cpv22_3) (c := .int .i64 sqv22_3) (d := .slice Aqv22_3 nqv22_3 cqv22_3))
           rw [← hw] at Kv22_v22_b10_27_38
           have FGv22_2_38 := Lib.hid (FGv22_2_34.out.far4 of2v22_b10_27.out (a := .int .i64 spv22_3) (b := .slice Apv22_3 npv22_3 cpv22_3) (c := .int .i64 sqv22_3) (d := .slice Aqv22_3 nqv22_3 cqv22_3))
           rw [← hw] at FGv22_2_38
           have FGv22_3_38 := Lib.hid (FGv22_3_34.out.far4 of3v22_b10_27.out (a := .int .i64 spv22_3) (b := .slice Apv22_3 npv22_3 cpv22_3) (c := .int .i64 sqv22_3) (d := .slice Aqv22_3 nqv22_3 cqv22_3))
           rw [← hw] at FGv22_3_38
           refine hK.out _ _ ?_ (fun hHeld => ?_)
           · exact Bv22_38.out
           clear Bv22_34 Kv22_v22_b10_2734 FGv22_2_34 FGv22_3_34 hw
           clear hK K
           (try simp only [Act.put, uA, uB, uC])
           refine take_at (i := 12) (v := ?v22_v39) rfl (by kernel_rfl) (by kernel_rfl) (by kernel_rfl) (fun _ _ _ h => h) (Or.inl ⟨by rfl, ?v22_y39⟩) (by assumption) ?v22_r39
           case v22_y39 => (intro w hSw; (try dsimp only at hSw); go_simp; (try with_reducible rfl))
           simp only [Act.put, List.setIfInBounds_toArray, List.set_cons_zero, List.set_cons_succ]
           refine wpAnyH_done (by kernel_rfl) ?_ _
           go_wp2_with fail
           go_meet
           exact ⟨rfl, v22_b10_27, rfl, (show OneF _ _ _ _ _ from ⟨⟨spv22_3, Apv22_3, npv22_3, cpv22_3, sqv22_3, Aqv22_3, nqv22_3, cqv22_3⟩, Kv22_v22_b10_27_38.out, lov22_b10_27, FGv22_3_38.out, FAv22_3.out, FBv22_3.out, of3v22_b10_27.out, Bv22_38.out⟩)⟩
           refine cons_at (i := 10) rfl (fun K hK => ?_) AllReadyH.nil
           go_simp
           obtain ⟨v22_w40, hw⟩ : ∃ W', W' = v22_w0.alloc (.cells #[.int .i64 0, .slice none 0 0, .int .i64 0, .slice none 0 0] 26) := ⟨_, rfl⟩
           obtain ⟨v22_b10_40, hb⟩ : ∃ b, b = v22_w0.heap.size := ⟨_, rfl⟩
           have X40 := Lib.hid (bal (Below.refl v22_w0.heap.size v22_w0) (o := .cells #[.int .i64 0, .slice none 0 0, .int .i64 0, .slice none 0 0] 26))
           have Kv22_v22_b10_400 := Lib.hid (Blk.new v22_w0 26 #[.int .i64 0, .slice none 0 0, .int .i64 0, .slice none 0 0])
           rw [← hw] at X40 Kv22_v22_b10_400
           rw [← hb] at Kv22_v22_b10_400
           rw [← hw, ← hb]
           have lov22_b10_40 : w22_.heap.size ≤ v22_b10_40 := by rw [hb]; exact Bv22_0.out.size
           have Bv22_41 := Lib.hid (Bv22_0.out.trans (X40.out.mono Bv22_0.out.size))
           refine hK.out _ _ ?_ (fun hHeld => ?_)
           · exact Bv22_41.out
           clear Bv22_0 X40 hw hb
           clear hK K
           (try simp only [Act.put, uA, uB, uC])
           refine wpAnyH_ready (rs := [2]) (by kernel_rfl) (by simp) ?_
           refine cons_at (i := 2) rfl (fun K hK => ?_) AllReadyH.nil
           go_simp
           refine (neg_R ⟨s1a, A1a, n1a, c1a, s2a, A2a, n2a, c2a⟩ (Ga.out.past Bv22_41.out) (HT.out.on (S198.out.call Bv22_41.out).bl) (by decide)).mono ?_
           rintro e v22_w42 ⟨⟨spv22_2, Apv22_2, npv22_2, cpv22_2, sqv22_2, Aqv22_2, nqv22_2, cqv22_2⟩, rfl, hc1, hc2, hf, f1, f2, hb⟩
           try dsimp only [frV]
           try dsimp only
           have X42 := Lib.hid hb
           have FGv22_2_42 := Lib.hid hf
           have FAv22_2 : Hid (Fresh w22_ Apv22_2 npv22_2) := fun hp ad e => Nat.le_trans Bv22_41.out.size (f1 hp ad e)
           have FBv22_2 : Hid (Fresh w22_ Aqv22_2 nqv22_2) := fun hp ad e => Nat.le_trans Bv22_41.out.size (f2 hp ad e)
           have HCAv22_2 := Lib.hid hc1
           have HCBv22_2 := Lib.hid hc2
           have of2v22_b10_40 := Lib.hid (off_old f1 f2 Kv22_v22_b10_400.out.lt)
           have Bv22_43 := Lib.hid (Bv22_41.out.trans (X42.out.mono Bv22_41.out.size))
           have Kv22_v22_b10_4043 := Lib.hid (Kv22_v22_b10_400.out.below X42.out Kv22_v22_b10_400.out.lt)
           refine hK.out _ _ ?_ (fun hHeld => ?_)
           · exact Bv22_43.out
           clear Bv22_41 Kv22_v22_b10_400 X42 hc1 hc2 hf f1 f2 hb
           clear hK K
           (try simp only [Act.put, uA, uB, uC])
           refine wpAnyH_ready (rs := [3]) (by kernel_rfl) (by simp) ?_
           refine cons_at (i := 3) rfl (fun K hK => ?_) AllReadyH.nil
           go_simp
           refine (add_R (k := 12) ⟨s1a, A1a, n1a, c1a, s2a, A2a, n2a, c2a⟩ ⟨spv22_2, Apv22_2, npv22_2, cpv22_2, sqv22_2, Aqv22_2, nqv22_2, cqv22_2⟩ (Ga.out.past Bv22_43.out) FGv22_2_42.out (HT.out.on (S198.out.call Bv22_43.out).bl) (by decide)).mono ?_
           rintro e v22_w44 ⟨⟨spv22_3, Apv22_3, npv22_3, cpv22_3, sqv22_3, Aqv22_3, nqv22_3, cqv22_3⟩, rfl, hc1, hc2, hf, f1, f2, hb⟩
           try dsimp only [frV]
           try dsimp only
           have X44 := Lib.hid hb
           have FGv22_3_44 := Lib.hid hf
           have FAv22_3 : Hid (Fresh w22_ Apv22_3 npv22_3) := fun hp ad e => Nat.le_trans Bv22_43.out.size (f1 hp ad e)
           have FBv22_3 : Hid (Fresh w22_ Aqv22_3 nqv22_3) := fun hp ad e => Nat.le_trans Bv22_43.out.size (f2 hp ad e)
           have HCAv22_3 := Lib.hid hc1
           have HCBv22_3 := Lib.hid hc2
           have of3v22_b10_40 := Lib.hid (off_old f1 f2 Kv22_v22_b10_4043.out.lt)
           have Bv22_45 := Lib.hid (Bv22_43.out.trans (X44.out.mono Bv22_43.out.size))
           have Kv22_v22_b10_4045 := Lib.hid (Kv22_v22_b10_4043.out.below X44.out Kv22_v22_b10_4043.out.lt)
           have FGv22_2_45 := Lib.hid (FGv22_2_42.out.past X44.out)
           refine hK.out _ _ ?_ (fun hHeld => ?_)
           · exact Bv22_45.out
           clear Bv22_43 Kv22_v22_b10_4043 FGv22_2_42 X44 hc1 hc2 hf f1 f2 hb
           clear hK K
           (try simp only [Act.put, uA, uB, uC])
           refine take_at (i := 4) (v := ?v22_v46) rfl (by kernel_rfl) (by kernel_rfl) (by kernel_rfl) (fun _ _ _ h => h) (Or.inl ⟨by rfl, ?v22_y46⟩) (by assumption) ?v22_r46
           case v22_y46 => (intro w hSw; (try dsimp only at hSw); go_simp; (try with_reducible rfl))
           simp only [Act.put, List.setIfInBounds_toArray, List.set_cons_zero, List.set_cons_succ]
           refine take_at (i := 5) (v := ?v22_v47) rfl (by kernel_rfl) (by kernel_rfl) (by kernel_rfl) (fun _ _ _ h => h) (Or.inl ⟨by rfl, ?v22_y47⟩) (by assumption) ?v22_r47
           case v22_y47 => (intro w hSw; (try dsimp only at hSw); go_simp; (try with_reducible rfl))
           simp only [Act.put, List.setIfInBounds_toArray, List.set_cons_zero, List.set_cons_succ]
           refine wpAnyH_ready (rs := [6]) (by kernel_rfl) (by simp) ?_
           refine cons_at (i := 6) rfl (fun K hK => ?_) AllReadyH.nil
           go_simp
           refine (right5_R ⟨spv22_3, Apv22_3, npv22_3, cpv22_3, sqv22_3, Aqv22_3, nqv22_3, cqv22_3⟩ FGv22_3_44.out (HT.out.on (S198.out.call Bv22_45.out).bl) (by decide)).mono ?_
           rintro e v22_w48 ⟨rfl, hb⟩
           try dsimp only
           try dsimp only [frV]
           have X48 := Lib.hid hb
           have Bv22_49 := Lib.hid (Bv22_45.out.trans (X48.out.mono Bv22_45.out.size))
           have Kv22_v22_b10_4049 := Lib.hid (Kv22_v22_b10_4045.out.below X48.out Kv22_v22_b10_4045.out.lt)
           have FGv22_2_49 := Lib.hid (FGv22_2_45.out.past X48.out)
           have FGv22_3_49 := Lib.hid (FGv22_3_44.out.past X48.out)
           refine hK.out _ _ ?_ (fun hHeld => ?_)
           · exact Bv22_49.out
           clear Bv22_45 Kv22_v22_b10_4045 FGv22_2_45 FGv22_3_44 X48 hb
           clear hK K
           (try simp only [Act.put, uA, uB, uC])
           refine take_at (i := 7) (v := ?v22_v50) rfl (by kernel_rfl) (by kernel_rfl) (by kernel_rfl) (fun _ _ _ h => h) (Or.inl ⟨by rfl, ?v22_y50⟩) (by assumption) ?v22_r50
           case v22_y50 => (intro w hSw; (try dsimp only at hSw); go_simp; (try with_reducible rfl))
           simp only [Act.put, List.setIfInBounds_toArray, List.set_cons_zero, List.set_cons_succ]
           refine take_at (i := 8) (v := ?v22_v51) rfl (by kernel_rfl) (by kernel_rfl) (by kernel_rfl) (fun _ _ _ h => h) (Or.inl ⟨by rfl, ?v22_y51⟩) (by assumption) ?v22_r51
           case v22_y51 => (intro w hSw; (try dsimp only at hSw); go_simp; (try with_reducible rfl))
           simp only [Act.put, List.setIfInBounds_toArray, List.set_cons_zero, List.set_cons_succ]
           refine take_at (i := 9) (v := ?v22_v52) rfl (by kernel_rfl) (by kernel_rfl) (by kernel_rfl) (fun _ _ _ h => h) (Or.inl ⟨by rfl, ?v22_y52⟩) (by assumption) ?v22_r52
           case v22_y52 => (intro w hSw; (try dsimp only at hSw); go_simp; (try with_reducible rfl))
           simp only [Act.put, List.setIfInBounds_toArray, List.set_cons_zero, List.set_cons_succ]
           refine wpAnyH_ready (rs := [11]) (by kernel_rfl) (by simp) ?_
           refine cons_at (i := 11) rfl (fun K hK => ?_) AllReadyH.nil
           obtain ⟨f0, f1, f2, f3, f4, f5, f6, f7⟩ := fr_cells Kv22_v22_b10_4049.out
           go_simp
           clear f0 f1 f2 f3 f4 f5 f6 f7
           obtain ⟨v22_w53, hw⟩ : ∃ W', W' = (((v22_w48.setCell ⟨v22_b10_40, 0, none⟩ (.int .i64 spv22_3)).setCell ⟨v22_b10_40, 1, none⟩ (.slice Apv22_3 npv22_3 cpv22_3)).setCell ⟨v22_b10_40, 2, none⟩ (.int .i64 sqv22_3)).setCell ⟨v22_b10_40, 3, none⟩ (.slice Aqv22_3 nqv22_3 cqv22_3) := ⟨_, rfl⟩
           rw [← hw]
           have Bv22_53 := Lib.hid (below_4 Bv22_49.out lov22_b10_40 (u := .int .i64 spv22_3) (v := .slice Apv22_3 npv22_3 cpv22_3) (x := .int .i64 sqv22_3) (y := .slice Aqv22_3 nqv22_3 cqv22_3))
           rw [← hw] at Bv22_53
           have Kv22_v22_b10_40_53 := Lib.hid (Kv22_v22_b10_4049.out.set4 (a := .int .i64 spv22_3) (b := .slice Apv22_3 npv22_3 cpv22_3) (c := .int .i64 sqv22_3) (d := .slice Aqv22_3 nqv22_3 cqv22_3))
           rw [← hw] at Kv22_v22_b10_40_53
           have FGv22_2_53 := Lib.hid (FGv22_2_49.out.far4 of2v22_b10_40.out (a := .int .i64 spv22_3) (b := .slice Apv22_3 npv22_3 cpv22_3) (c := .int .i64 sqv22_3) (d := .slice Aqv22_3 nqv22_3 cqv22_3))
           rw [← hw] at FGv22_2_53
           have FGv22_3_53 := Lib.hid (FGv22_3_49.out.far4 of3v22_b10_40.out (a := .int .i64 spv22_3) (b := .slice Apv22_3 npv22_3 cpv22_3) (c := .int .i64 sqv22_3) (d := .slice Aqv22_3 nqv22_3 cqv22_3))
           rw [← hw] at FGv22_3_53
           refine hK.out _ _ ?_ (fun hHeld => ?_)
           · exact Bv22_53.out
           clear Bv22_49 Kv22_v22_b10_4049 FGv22_2_49 FGv22_3_49 hw
           clear hK K
           (try simp only [Act.put, uA, uB, uC])
           refine take_at (i := 12) (v := ?v22_v54) rfl (by kernel_rfl) (by kernel_rfl) (by kernel_rfl) (fun _ _ _ h => h) (Or.inl ⟨by rfl, ?v22_y54⟩) (by assumption) ?v22_r54
           case v22_y54 => (intro w hSw; (try dsimp only at hSw); go_simp; (try with_reducible rfl))
           simp only [Act.put, List.setIfInBounds_toArray, List.set_cons_zero, List.set_cons_succ]
           refine wpAnyH_done (by kernel_rfl) ?_ _
           go_wp2_with fail
           go_meet
           exact ⟨rfl, v22_b10_40, rfl, (show OneF _ _ _ _ _ from ⟨⟨spv22_3, Apv22_3, npv22_3, cpv22_3, sqv22_3, Aqv22_3, nqv22_3, cqv22_3⟩, Kv22_v22_b10_40_53.out, lov22_b10_40, FGv22_3_53.out, FAv22_3.out, FBv22_3.out, of3v22_b10_40.out, Bv22_53.out⟩)⟩
         case rest => as_aux_lemma =>
          obtain ⟨rfl, b22_, rfl, HX⟩ := hcut
          obtain ⟨w199, rfl⟩ : ∃ W : World, W = wc := ⟨_, rfl⟩
          obtain ⟨⟨s1_22_, A1_22_, n1_22_, c1_22_, s2_22_, A2_22_, n2_22_, c2_22_⟩, hk, hlo, hg, f1, f2, ho, hb⟩ := HX.out
          have S199 := Lib.hid (S198.out.add hb hk hlo ho hg f1 f2)
          clear HX hk hlo hg f1 f2 ho hb S198
          clear za0 za1 za2 za3 Ga
          go_upto_region 23 with (fail)
          go_cut [24] (fun p1 wc => p1 = .bool true ∧ Hid (StF w wc [⟨b22_, 25, xa + -xa, ⟨s1_22_, A1_22_, n1_22_, c1_22_, s2_22_, A2_22_, n2_22_, c2_22_⟩⟩, ⟨w197.heap.size, 25, (xa + xb), ⟨s1_196, A1_196, n1_196, c1_196, s2_196, A2_196, n2_196, c2_196⟩⟩, ⟨w194.heap.size, 25, ((lowR xa xb) + (highR xa xb)), ⟨s1_193, A1_193, n1_193, c1_193, s2_193, A2_193, n2_193, c2_193⟩⟩, ⟨w191.heap.size, 12, (highR xa xb), ⟨s1_190, A1_190, n1_190, c1_190, s2_190, A2_190, n2_190, c2_190⟩⟩, ⟨w188.heap.size, 12, (lowR xa xb), ⟨s1_187, A1_187, n1_187, c1_187, s2_187, A2_187, n2_187, c2_187⟩⟩, ⟨w133.heap.size, 24, (xb * xc), ⟨s1_132, A1_132, n1_132, c1_132, s2_132, A2_132, n2_132, c2_132⟩⟩, ⟨w130.heap.size, 24, (xa * xc), ⟨s1_129, A1_129, n1_129, c1_129, s2_129, A2_129, n2_129, c2_129⟩⟩, ⟨w127.heap.size, 25, (xb + xc), ⟨s1_126, A1_126, n1_126, c1_126, s2_126, A2_126, n2_126, c2_126⟩⟩, ⟨w124.heap.size, 25, (xa + xc), ⟨s1_123, A1_123, n1_123, c1_123, s2_123, A2_123, n2_123, c2_123⟩⟩, ⟨w121.heap.size, 25, (xa - xb), ⟨s1_120, A1_120, n1_120, c1_120, s2_120, A2_120, n2_120, c2_120⟩⟩, ⟨w.heap.size, 12, xa, ⟨s1a, A1a, n1a, c1a, s2a, A2a, n2a, c2a⟩⟩, ⟨w.heap.size + 1, 12, xb, ⟨s1b, A1b, n1b, c1b, s2b, A2b, n2b, c2b⟩⟩, ⟨w.heap.size + 1 + 1, 12, xc, ⟨s1c, A1c, n1c, c1c, s2c, A2c, n2c, c2c⟩⟩]))
          case first => as_aux_lemma =>
           rcases low_high xa xb with ⟨-, e1, e2, hne⟩ | ⟨-, e1, e2⟩
           · skip
             have F := S199.out.bx _ (List.mem_of_getElem? (i := 4) rfl)
             dsimp only [frC] at F
             obtain ⟨zlo0, zlo1, zlo2, zlo3, -, -, -, -⟩ := fr_cells F.1
             have Glo := Lib.hid F.2
             clear F
             have F := S199.out.bx _ (List.mem_of_getElem? (i := 10) rfl)
             dsimp only [frC] at F
             obtain ⟨za0, za1, za2, za3, -, -, -, -⟩ := fr_cells F.1
             have Ga := Lib.hid F.2
             clear F
             have M := Lib.hid (same5_R (k := 12) ⟨s1_187, A1_187, n1_187, c1_187, s2_187, A2_187, n2_187, c2_187⟩ ⟨s1a, A1a, n1a, c1a, s2a, A2a, n2a, c2a⟩ Glo.out Ga.out (by decide) (o := false) (decide_eq_false (by rw [e1]; exact fun g => hne g.symm)))
             (try dsimp only [frV] at M)
             go_wp2_with fail
             refine M.out.mono ?_
             rintro e w200 ⟨rfl, hb⟩
             have S200 := Lib.hid (S199.out.call hb)
             clear hb M S199
             clear zlo0 zlo1 zlo2 zlo3 Glo za0 za1 za2 za3 Ga
             have F := S200.out.bx _ (List.mem_of_getElem? (i := 4) rfl)
             dsimp only [frC] at F
             obtain ⟨zlo0, zlo1, zlo2, zlo3, -, -, -, -⟩ := fr_cells F.1
             have Glo := Lib.hid F.2
             clear F
             have F := S200.out.bx _ (List.mem_of_getElem? (i := 11) rfl)
             dsimp only [frC] at F
             obtain ⟨zb0, zb1, zb2, zb3, -, -, -, -⟩ := fr_cells F.1
             have Gb := Lib.hid F.2
             clear F
             have M := Lib.hid (same5_R (k := 12) ⟨s1_187, A1_187, n1_187, c1_187, s2_187, A2_187, n2_187, c2_187⟩ ⟨s1b, A1b, n1b, c1b, s2b, A2b, n2b, c2b⟩ Glo.out Gb.out (by decide) (o := true) (decide_eq_true (e1)))
             (try dsimp only [frV] at M)
             go_wp2_with fail
             refine M.out.mono ?_
             rintro e w201 ⟨rfl, hb⟩
             have S201 := Lib.hid (S200.out.call hb)
             clear hb M S200
             clear zlo0 zlo1 zlo2 zlo3 Glo zb0 zb1 zb2 zb3 Gb
             have F := S201.out.bx _ (List.mem_of_getElem? (i := 3) rfl)
             dsimp only [frC] at F
             obtain ⟨zhi0, zhi1, zhi2, zhi3, -, -, -, -⟩ := fr_cells F.1
             have Ghi := Lib.hid F.2
             clear F
             have F := S201.out.bx _ (List.mem_of_getElem? (i := 10) rfl)
             dsimp only [frC] at F
             obtain ⟨za0, za1, za2, za3, -, -, -, -⟩ := fr_cells F.1
             have Ga := Lib.hid F.2
             clear F
             have M := Lib.hid (same5_R (k := 12) ⟨s1_190, A1_190, n1_190, c1_190, s2_190, A2_190, n2_190, c2_190⟩ ⟨s1a, A1a, n1a, c1a, s2a, A2a, n2a, c2a⟩ Ghi.out Ga.out (by decide) (o := true) (decide_eq_true (e2)))
             (try dsimp only [frV] at M)
             go_wp2_with fail
             refine M.out.mono ?_
             rintro e w202 ⟨rfl, hb⟩
             have S202 := Lib.hid (S201.out.call hb)
             clear hb M S201
             clear zhi0 zhi1 zhi2 zhi3 Ghi za0 za1 za2 za3 Ga
             go_wp2_with fail
             go_meet
             exact ⟨rfl, S202.out⟩
           · skip
             have F := S199.out.bx _ (List.mem_of_getElem? (i := 4) rfl)
             dsimp only [frC] at F
             obtain ⟨zlo0, zlo1, zlo2, zlo3, -, -, -, -⟩ := fr_cells F.1
             have Glo := Lib.hid F.2
             clear F
             have F := S199.out.bx _ (List.mem_of_getElem? (i := 10) rfl)
             dsimp only [frC] at F
             obtain ⟨za0, za1, za2, za3, -, -, -, -⟩ := fr_cells F.1
             have Ga := Lib.hid F.2
             clear F
             have M := Lib.hid (same5_R (k := 12) ⟨s1_187, A1_187, n1_187, c1_187, s2_187, A2_187, n2_187, c2_187⟩ ⟨s1a, A1a, n1a, c1a, s2a, A2a, n2a, c2a⟩ Glo.out Ga.out (by decide) (o := true) (decide_eq_true (e1)))
             (try dsimp only [frV] at M)
             go_wp2_with fail
             refine M.out.mono ?_
             rintro e w203 ⟨rfl, hb⟩
             have S203 := Lib.hid (S199.out.call hb)
             clear hb M S199
             clear zlo0 zlo1 zlo2 zlo3 Glo za0 za1 za2 za3 Ga
             have F := S203.out.bx _ (List.mem_of_getElem? (i := 3) rfl)
             dsimp only [frC] at F
             obtain ⟨zhi0, zhi1, zhi2, zhi3, -, -, -, -⟩ := fr_cells F.1
             have Ghi := Lib.hid F.2
             clear F
             have F := S203.out.bx _ (List.mem_of_getElem? (i := 11) rfl)
             dsimp only [frC] at F
             obtain ⟨zb0, zb1, zb2, zb3, -, -, -, -⟩ := fr_cells F.1
             have Gb := Lib.hid F.2
             clear F
             have M := Lib.hid (same5_R (k := 12) ⟨s1_190, A1_190, n1_190, c1_190, s2_190, A2_190, n2_190, c2_190⟩ ⟨s1b, A1b, n1b, c1b, s2b, A2b, n2b, c2b⟩ Ghi.out Gb.out (by decide) (o := true) (decide_eq_true (e2)))
             (try dsimp only [frV] at M)
             go_wp2_with fail
             refine M.out.mono ?_
             rintro e w204 ⟨rfl, hb⟩
             have S204 := Lib.hid (S203.out.call hb)
             clear hb M S203
             clear zhi0 zhi1 zhi2 zhi3 Ghi zb0 zb1 zb2 zb3 Gb
             go_wp2_with fail
             go_meet
             exact ⟨rfl, S204.out⟩
          case rest => as_aux_lemma =>
           obtain ⟨rfl, HX⟩ := hcut
           obtain ⟨w255, rfl⟩ : ∃ W : World, W = wc := ⟨_, rfl⟩
           have S255 := HX
           clear HX S199
           obtain ⟨ol, hol⟩ : ∃ x, x = ordR (lowR xa xb) (highR xa xb) := ⟨_, rfl⟩
           have hle : ol ≤ 0 := by rw [hol]; exact low_le _ _
           have HOL := Lib.hid hol
           clear hol
           go_upto_region 24 with (fail)
           have F := S255.out.bx _ (List.mem_of_getElem? (i := 2) rfl)
           dsimp only [frC] at F
           obtain ⟨zs0, zs1, zs2, zs3, -, -, -, -⟩ := fr_cells F.1
           have Gs := Lib.hid F.2
           clear F
           have F := S255.out.bx _ (List.mem_of_getElem? (i := 1) rfl)
           dsimp only [frC] at F
           obtain ⟨zall0, zall1, zall2, zall3, -, -, -, -⟩ := fr_cells F.1
           have Gall := Lib.hid F.2
           clear F
           have F := S255.out.bx _ (List.mem_of_getElem? (i := 4) rfl)
           dsimp only [frC] at F
           obtain ⟨zlo0, zlo1, zlo2, zlo3, -, -, -, -⟩ := fr_cells F.1
           have Glo := Lib.hid F.2
           clear F
           have F := S255.out.bx _ (List.mem_of_getElem? (i := 3) rfl)
           dsimp only [frC] at F
           obtain ⟨zhi0, zhi1, zhi2, zhi3, -, -, -, -⟩ := fr_cells F.1
           have Ghi := Lib.hid F.2
           clear F
           have F := S255.out.bx _ (List.mem_of_getElem? (i := 0) rfl)
           dsimp only [frC] at F
           obtain ⟨zz0, zz1, zz2, zz3, -, -, -, -⟩ := fr_cells F.1
           have Gz := Lib.hid F.2
           clear F
           have HC := Lib.hid (fun (w' : World) (h : Below w255.heap.size w255 w') => (⟨(h.cell (p := ⟨w194.heap.size, 0, none⟩) (World.block_lt_of_cell? _ _ zs0)).trans zs0, (h.cell (p := ⟨w194.heap.size, 1, none⟩) (World.block_lt_of_cell? _ _ zs1)).trans zs1, (h.cell (p := ⟨w194.heap.size, 2, none⟩) (World.block_lt_of_cell? _ _ zs2)).trans zs2, (h.cell (p := ⟨w194.heap.size, 3, none⟩) (World.block_lt_of_cell? _ _ zs3)).trans zs3, (h.cell (p := ⟨w197.heap.size, 0, none⟩) (World.block_lt_of_cell? _ _ zall0)).trans zall0, (h.cell (p := ⟨w197.heap.size, 1, none⟩) (World.block_lt_of_cell? _ _ zall1)).trans zall1, (h.cell (p := ⟨w197.heap.size, 2, none⟩) (World.block_lt_of_cell? _ _ zall2)).trans zall2, (h.cell (p := ⟨w197.heap.size, 3, none⟩) (World.block_lt_of_cell? _ _ zall3)).trans zall3, (h.cell (p := ⟨w188.heap.size, 0, none⟩) (World.block_lt_of_cell? _ _ zlo0)).trans zlo0, (h.cell (p := ⟨w188.heap.size, 1, none⟩) (World.block_lt_of_cell? _ _ zlo1)).trans zlo1, (h.cell (p := ⟨w188.heap.size, 2, none⟩) (World.block_lt_of_cell? _ _ zlo2)).trans zlo2, (h.cell (p := ⟨w188.heap.size, 3, none⟩) (World.block_lt_of_cell? _ _ zlo3)).trans zlo3, (h.cell (p := ⟨w191.heap.size, 0, none⟩) (World.block_lt_of_cell? _ _ zhi0)).trans zhi0, (h.cell (p := ⟨w191.heap.size, 1, none⟩) (World.block_lt_of_cell? _ _ zhi1)).trans zhi1, (h.cell (p := ⟨w191.heap.size, 2, none⟩) (World.block_lt_of_cell? _ _ zhi2)).trans zhi2, (h.cell (p := ⟨w191.heap.size, 3, none⟩) (World.block_lt_of_cell? _ _ zhi3)).trans zhi3, (h.cell (p := ⟨b22_, 0, none⟩) (World.block_lt_of_cell? _ _ zz0)).trans zz0, (h.cell (p := ⟨b22_, 1, none⟩) (World.block_lt_of_cell? _ _ zz1)).trans zz1, (h.cell (p := ⟨b22_, 2, none⟩) (World.block_lt_of_cell? _ _ zz2)).trans zz2, (h.cell (p := ⟨b22_, 3, none⟩) (World.block_lt_of_cell? _ _ zz3)).trans zz3⟩ : w'.cell? ⟨w194.heap.size, 0, none⟩ = some (.int .i64 s1_193) ∧ w'.cell? ⟨w194.heap.size, 1, none⟩ = some (.slice A1_193 n1_193 c1_193) ∧ w'.cell? ⟨w194.heap.size, 2, none⟩ = some (.int .i64 s2_193) ∧ w'.cell? ⟨w194.heap.size, 3, none⟩ = some (.slice A2_193 n2_193 c2_193) ∧ w'.cell? ⟨w197.heap.size, 0, none⟩ = some (.int .i64 s1_196) ∧ w'.cell? ⟨w197.heap.size, 1, none⟩ = some (.slice A1_196 n1_196 c1_196) ∧ w'.cell? ⟨w197.heap.size, 2, none⟩ = some (.int .i64 s2_196) ∧ w'.cell? ⟨w197.heap.size, 3, none⟩ = some (.slice A2_196 n2_196 c2_196) ∧ w'.cell? ⟨w188.heap.size, 0, none⟩ = some (.int .i64 s1_187) ∧ w'.cell? ⟨w188.heap.size, 1, none⟩ = some (.slice A1_187 n1_187 c1_187) ∧ w'.cell? ⟨w188.heap.size, 2, none⟩ = some (.int .i64 s2_187) ∧ w'.cell? ⟨w188.heap.size, 3, none⟩ = some (.slice A2_187 n2_187 c2_187) ∧ w'.cell? ⟨w191.heap.size, 0, none⟩ = some (.int .i64 s1_190) ∧ w'.cell? ⟨w191.heap.size, 1, none⟩ = some (.slice A1_190 n1_190 c1_190) ∧ w'.cell? ⟨w191.heap.size, 2, none⟩ = some (.int .i64 s2_190) ∧ w'.cell? ⟨w191.heap.size, 3, none⟩ = some (.slice A2_190 n2_190 c2_190) ∧ w'.cell? ⟨b22_, 0, none⟩ = some (.int .i64 s1_22_) ∧ w'.cell? ⟨b22_, 1, none⟩ = some (.slice A1_22_ n1_22_ c1_22_) ∧ w'.cell? ⟨b22_, 2, none⟩ = some (.int .i64 s2_22_) ∧ w'.cell? ⟨b22_, 3, none⟩ = some (.slice A2_22_ n2_22_ c2_22_)))
           clear zs0 zs1 zs2 zs3 zall0 zall1 zall2 zall3 zlo0 zlo1 zlo2 zlo3 zhi0 zhi1 zhi2 zhi3 zz0 zz1 zz2 zz3
           have Bv24_0 := Lib.hid (Below.refl w255.heap.size w255).drew
           refine wp_region_held_drew (S := fun w' => Below w255.heap.size w255 w') (by kernel_rfl) Bv24_0.out (fun hHeld => ?_)
           obtain ⟨v24_w0, hw⟩ : ∃ W, W = w255.drew := ⟨_, rfl⟩
           rw [← hw] at hHeld Bv24_0 ⊢
           clear hw
           refine take_at (i := 0) (v := ?v24_v1) rfl (by kernel_rfl) (by kernel_rfl) (by kernel_rfl) (fun _ _ _ h => h) (Or.inl ⟨by rfl, ?v24_y1⟩) (by assumption) ?v24_r1
           case v24_y1 => (intro w hSw; (try dsimp only at hSw); go_simp; (try with_reducible rfl))
           simp only [Act.put, List.setIfInBounds_toArray, List.set_cons_zero, List.set_cons_succ]
           refine take_at (i := 1) (v := ?v24_v2) rfl (by kernel_rfl) (by kernel_rfl) (by kernel_rfl) (fun _ _ _ h => h) (Or.inl ⟨by rfl, ?v24_y2⟩) (by assumption) ?v24_r2
           case v24_y2 => (intro w hSw; (try dsimp only at hSw); go_simp; (try with_reducible rfl))
           simp only [Act.put, List.setIfInBounds_toArray, List.set_cons_zero, List.set_cons_succ]
           refine take_at (i := 2) (v := ?v24_v3) rfl (by kernel_rfl) (by kernel_rfl) (by kernel_rfl) (fun _ _ _ h => h) (Or.inl ⟨by rfl, ?v24_y3⟩) (by assumption) ?v24_r3
           case v24_y3 => (intro w hSw; (try dsimp only at hSw); go_simp; (try with_reducible rfl))
           simp only [Act.put, List.setIfInBounds_toArray, List.set_cons_zero, List.set_cons_succ]
           refine take_at (i := 3) (v := ?v24_v4) rfl (by kernel_rfl) (by kernel_rfl) (by kernel_rfl) (fun _ _ _ h => h) (Or.inl ⟨by rfl, ?v24_y4⟩) (by assumption) ?v24_r4
           case v24_y4 => (intro w hSw; (try dsimp only at hSw); go_simp; (try with_reducible rfl))
           simp only [Act.put, List.setIfInBounds_toArray, List.set_cons_zero, List.set_cons_succ]
           refine take_at (i := 4) (v := ?v24_v5) rfl (by kernel_rfl) (by kernel_rfl) (by kernel_rfl) (fun _ _ _ h => h) (Or.inl ⟨by rfl, ?v24_y5⟩) (by assumption) ?v24_r5
           case v24_y5 => (intro w hSw; (try dsimp only at hSw); go_simp; (try with_reducible rfl))
           simp only [Act.put, List.setIfInBounds_toArray, List.set_cons_zero, List.set_cons_succ]
           refine take_at (i := 5) (v := ?v24_v6) rfl (by kernel_rfl) (by kernel_rfl) (by kernel_rfl) (fun _ _ _ h => h) (Or.inl ⟨by rfl, ?v24_y6⟩) (by assumption) ?v24_r6
           case v24_y6 => (intro w hSw; (try dsimp only at hSw); go_simp; (try with_reducible rfl))
           simp only [Act.put, List.setIfInBounds_toArray, List.set_cons_zero, List.set_cons_succ]
           refine take_at (i := 6) (v := ?v24_v7) rfl (by kernel_rfl) (by kernel_rfl) (by kernel_rfl) (fun _ _ _ h => h) (Or.inl ⟨by rfl, ?v24_y7⟩) (by assumption) ?v24_r7
           case v24_y7 => (intro w hSw; (try dsimp only at hSw); go_simp; (try with_reducible rfl))
           simp only [Act.put, List.setIfInBounds_toArray, List.set_cons_zero, List.set_cons_succ]
           refine take_at (i := 7) (v := ?v24_v8) rfl (by kernel_rfl) (by kernel_rfl) (by kernel_rfl) (fun _ _ _ h => h) (Or.inl ⟨by rfl, ?v24_y8⟩) (by assumption) ?v24_r8
           case v24_y8 => (intro w hSw; (try dsimp only at hSw); go_simp; (try with_reducible rfl))
           simp only [Act.put, List.setIfInBounds_toArray, List.set_cons_zero, List.set_cons_succ]
           refine take_at (i := 8) (v := ?v24_v9) rfl (by kernel_rfl) (by kernel_rfl) (by kernel_rfl) (fun _ _ _ h => h) (Or.inl ⟨by rfl, ?v24_y9⟩) (by assumption) ?v24_r9
           case v24_y9 => (intro w hSw; (try dsimp only at hSw); go_simp; (try with_reducible rfl))
           simp only [Act.put, List.setIfInBounds_toArray, List.set_cons_zero, List.set_cons_succ]
           refine take_at (i := 9) (v := ?v24_v10) rfl (by kernel_rfl) (by kernel_rfl) (by kernel_rfl) (fun _ _ _ h => h) (Or.inl ⟨by rfl, ?v24_y10⟩) (by assumption) ?v24_r10
           case v24_y10 => (intro w hSw; (try dsimp only at hSw); go_simp; (try with_reducible rfl))
           simp only [Act.put, List.setIfInBounds_toArray, List.set_cons_zero, List.set_cons_succ]
           refine take_at (i := 10) (v := ?v24_v11) rfl (by kernel_rfl) (by kernel_rfl) (by kernel_rfl) (fun _ _ _ h => h) (Or.inl ⟨by rfl, ?v24_y11⟩) (by assumption) ?v24_r11
           case v24_y11 => (intro w hSw; (try dsimp only at hSw); go_simp; (try with_reducible rfl))
           simp only [Act.put, List.setIfInBounds_toArray, List.set_cons_zero, List.set_cons_succ]
           refine take_at (i := 11) (v := ?v24_v12) rfl (by kernel_rfl) (by kernel_rfl) (by kernel_rfl) (fun _ _ _ h => h) (Or.inl ⟨by rfl, ?v24_y12⟩) (by assumption) ?v24_r12
           case v24_y12 => (intro w hSw; (try dsimp only at hSw); go_simp; (try with_reducible rfl))
           simp only [Act.put, List.setIfInBounds_toArray, List.set_cons_zero, List.set_cons_succ]
           refine take_at (i := 12) (v := ?v24_v13) rfl (by kernel_rfl) (by kernel_rfl) (by kernel_rfl) (fun _ _ _ h => h) (Or.inl ⟨by rfl, ?v24_y13⟩) (by assumption) ?v24_r13
           case v24_y13 => (intro w hSw; (try dsimp only at hSw); go_simp; (try with_reducible rfl))
           simp only [Act.put, List.setIfInBounds_toArray, List.set_cons_zero, List.set_cons_succ]
           refine take_at (i := 13) (v := ?v24_v14) rfl (by kernel_rfl) (by kernel_rfl) (by kernel_rfl) (fun _ _ _ h => h) (Or.inl ⟨by rfl, ?v24_y14⟩) (by assumption) ?v24_r14
           case v24_y14 => (intro w hSw; (try dsimp only at hSw); go_simp; (try with_reducible rfl))
           simp only [Act.put, List.setIfInBounds_toArray, List.set_cons_zero, List.set_cons_succ]
           refine take_at (i := 14) (v := ?v24_v15) rfl (by kernel_rfl) (by kernel_rfl) (by kernel_rfl) (fun _ _ _ h => h) (Or.inl ⟨by rfl, ?v24_y15⟩) (by assumption) ?v24_r15
           case v24_y15 => (intro w hSw; (try dsimp only at hSw); go_simp; (try with_reducible rfl))
           simp only [Act.put, List.setIfInBounds_toArray, List.set_cons_zero, List.set_cons_succ]
           refine take_at (i := 15) (v := ?v24_v16) rfl (by kernel_rfl) (by kernel_rfl) (by kernel_rfl) (fun _ _ _ h => h) (Or.inl ⟨by rfl, ?v24_y16⟩) (by assumption) ?v24_r16
           case v24_y16 => (intro w hSw; (try dsimp only at hSw); go_simp; (try with_reducible rfl))
           simp only [Act.put, List.setIfInBounds_toArray, List.set_cons_zero, List.set_cons_succ]
           refine take_at (i := 16) (v := ?v24_v17) rfl (by kernel_rfl) (by kernel_rfl) (by kernel_rfl) (fun _ _ _ h => h) (Or.inl ⟨by rfl, ?v24_y17⟩) (by assumption) ?v24_r17
           case v24_y17 => (intro w hSw; (try dsimp only at hSw); go_simp; (try with_reducible rfl))
           simp only [Act.put, List.setIfInBounds_toArray, List.set_cons_zero, List.set_cons_succ]
           refine take_at (i := 17) (v := ?v24_v18) rfl (by kernel_rfl) (by kernel_rfl) (by kernel_rfl) (fun _ _ _ h => h) (Or.inl ⟨by rfl, ?v24_y18⟩) (by assumption) ?v24_r18
           case v24_y18 => (intro w hSw; (try dsimp only at hSw); go_simp; (try with_reducible rfl))
           simp only [Act.put, List.setIfInBounds_toArray, List.set_cons_zero, List.set_cons_succ]
           refine take_at (i := 18) (v := ?v24_v19) rfl (by kernel_rfl) (by kernel_rfl) (by kernel_rfl) (fun _ _ _ h => h) (Or.inl ⟨by rfl, ?v24_y19⟩) (by assumption) ?v24_r19
           case v24_y19 => (intro w hSw; (try dsimp only at hSw); go_simp; (try with_reducible rfl))
           simp only [Act.put, List.setIfInBounds_toArray, List.set_cons_zero, List.set_cons_succ]
           refine take_at (i := 19) (v := ?v24_v20) rfl (by kernel_rfl) (by kernel_rfl) (by kernel_rfl) (fun _ _ _ h => h) (Or.inl ⟨by rfl, ?v24_y20⟩) (by assumption) ?v24_r20
           case v24_y20 => (intro w hSw; (try dsimp only at hSw); go_simp; (try with_reducible rfl))
           simp only [Act.put, List.setIfInBounds_toArray, List.set_cons_zero, List.set_cons_succ]
           refine take_at (i := 20) (v := ?v24_v21) rfl (by kernel_rfl) (by kernel_rfl) (by kernel_rfl) (fun _ _ _ h => h) (Or.inl ⟨by rfl, ?v24_y21⟩) (by assumption) ?v24_r21
           case v24_y21 => (intro w hSw; (try dsimp only at hSw); obtain ⟨cc0, cc1, cc2, cc3, cc4, cc5, cc6, cc7, cc8, cc9, cc10, cc11, cc12, cc13, cc14, cc15, cc16, cc17, cc18, cc19⟩ := HC.out _ hSw; go_simp; (try with_reducible rfl))
           simp only [Act.put, List.setIfInBounds_toArray, List.set_cons_zero, List.set_cons_succ]
           refine take_at (i := 21) (v := ?v24_v22) rfl (by kernel_rfl) (by kernel_rfl) (by kernel_rfl) (fun _ _ _ h => h) (Or.inl ⟨by rfl, ?v24_y22⟩) (by assumption) ?v24_r22
           case v24_y22 => (intro w hSw; (try dsimp only at hSw); obtain ⟨cc0, cc1, cc2, cc3, cc4, cc5, cc6, cc7, cc8, cc9, cc10, cc11, cc12, cc13, cc14, cc15, cc16, cc17, cc18, cc19⟩ := HC.out _ hSw; go_simp; (try with_reducible rfl))
           simp only [Act.put, List.setIfInBounds_toArray, List.set_cons_zero, List.set_cons_succ]
           refine wpAnyH_ready (rs := [22]) (by kernel_rfl) (by simp) ?_
           refine cons_at (i := 22) rfl (fun K hK => ?_) AllReadyH.nil
           go_simp
           refine (same5_R (k := 25) ⟨s1_193, A1_193, n1_193, c1_193, s2_193, A2_193, n2_193, c2_193⟩ ⟨s1_196, A1_196, n1_196, c1_196, s2_196, A2_196, n2_196, c2_196⟩ (Gs.out.past Bv24_0.out) (Gall.out.past Bv24_0.out) (by decide) (o := true) (decide_eq_true (low_add xa xb))).mono ?_
           rintro e v24_w23 ⟨rfl, hb⟩
           try dsimp only
           have X23 := Lib.hid hb
           have Bv24_24 := Lib.hid (Bv24_0.out.trans (X23.out.mono Bv24_0.out.size))
           refine hK.out _ _ ?_ (fun hHeld => ?_)
           · exact Bv24_24.out
           clear Bv24_0 X23 hb
           clear hK K
           (try simp only [Act.put, uA, uB, uC])
           refine take_at (i := 23) (v := ?v24_v25) rfl (by kernel_rfl) (by kernel_rfl) (by kernel_rfl) (fun _ _ _ h => h) (Or.inl ⟨by rfl, ?v24_y25⟩) (by assumption) ?v24_r25
           case v24_y25 => (intro w hSw; (try dsimp only at hSw); go_simp; (try with_reducible rfl))
           simp only [Act.put, List.setIfInBounds_toArray, List.set_cons_zero, List.set_cons_succ]
           refine take_at (i := 24) (v := ?v24_v26) rfl (by kernel_rfl) (by kernel_rfl) (by kernel_rfl) (fun _ _ _ h => h) (Or.inl ⟨by rfl, ?v24_y26⟩) (by assumption) ?v24_r26
           case v24_y26 => (intro w hSw; (try dsimp only at hSw); go_simp; (try with_reducible rfl))
           simp only [Act.put, List.setIfInBounds_toArray, List.set_cons_zero, List.set_cons_succ]
           refine take_at (i := 25) (v := ?v24_v27) rfl (by kernel_rfl) (by kernel_rfl) (by kernel_rfl) (fun _ _ _ h => h) (Or.inl ⟨by rfl, ?v24_y27⟩) (by assumption) ?v24_r27
           case v24_y27 => (intro w hSw; (try dsimp only at hSw); obtain ⟨cc0, cc1, cc2, cc3, cc4, cc5, cc6, cc7, cc8, cc9, cc10, cc11, cc12, cc13, cc14, cc15, cc16, cc17, cc18, cc19⟩ := HC.out _ hSw; go_simp; (try with_reducible rfl))
           simp only [Act.put, List.setIfInBounds_toArray, List.set_cons_zero, List.set_cons_succ]
           refine take_at (i := 26) (v := ?v24_v28) rfl (by kernel_rfl) (by kernel_rfl) (by kernel_rfl) (fun _ _ _ h => h) (Or.inl ⟨by rfl, ?v24_y28⟩) (by assumption) ?v24_r28
           case v24_y28 => (intro w hSw; (try dsimp only at hSw); obtain ⟨cc0, cc1, cc2, cc3, cc4, cc5, cc6, cc7, cc8, cc9, cc10, cc11, cc12, cc13, cc14, cc15, cc16, cc17, cc18, cc19⟩ := HC.out _ hSw; go_simp; (try with_reducible rfl))
           simp only [Act.put, List.setIfInBounds_toArray, List.set_cons_zero, List.set_cons_succ]
           refine wpAnyH_ready (rs := [27]) (by kernel_rfl) (by simp) ?_
           refine cons_at (i := 27) rfl (fun K hK => ?_) AllReadyH.nil
           go_simp
           refine (compare_R (k := 12) ⟨s1_187, A1_187, n1_187, c1_187, s2_187, A2_187, n2_187, c2_187⟩ ⟨s1_190, A1_190, n1_190, c1_190, s2_190, A2_190, n2_190, c2_190⟩ (Glo.out.past Bv24_24.out) (Ghi.out.past Bv24_24.out) (HT.out.on (S255.out.call Bv24_24.out).bl) (by decide) (o := ol) HOL.out.symm).mono ?_
           rintro e v24_w29 ⟨rfl, hb⟩
           try dsimp only
           have X29 := Lib.hid hb
           have Bv24_30 := Lib.hid (Bv24_24.out.trans (X29.out.mono Bv24_24.out.size))
           refine hK.out _ _ ?_ (fun hHeld => ?_)
           · exact Bv24_30.out
           clear Bv24_24 X29 hb
           clear hK K
           (try simp only [Act.put, uA, uB, uC])
           refine take_at (i := 28) (v := ?v24_v31) rfl (by kernel_rfl) (by kernel_rfl) (by kernel_rfl) (fun _ _ _ h => h) (Or.inl ⟨by rfl, ?v24_y31⟩) (by assumption) ?v24_r31
           case v24_y31 => (intro w hSw; (try dsimp only at hSw); go_simp; (try with_reducible rfl))
           simp only [Act.put, List.setIfInBounds_toArray, List.set_cons_zero, List.set_cons_succ]
           refine take_at (i := 29) (v := ?v24_v32) rfl (by kernel_rfl) (by kernel_rfl) (by kernel_rfl) (fun _ _ _ h => h) (Or.inl ⟨by rfl, ?v24_y32⟩) (by assumption) ?v24_r32
           case v24_y32 => (intro w hSw; (try dsimp only at hSw); go_simp; (try with_reducible rfl))
           simp only [Act.put, List.setIfInBounds_toArray, List.set_cons_zero, List.set_cons_succ]
           refine take_at (i := 30) (v := ?v24_v33) rfl (by kernel_rfl) (by kernel_rfl) (by kernel_rfl) (fun _ _ _ h => h) (Or.inl ⟨by rfl, ?v24_y33⟩) (by assumption) ?v24_r33
           case v24_y33 => (intro w hSw; (try dsimp only at hSw); go_simp; (try with_reducible rfl))
           simp only [Act.put, List.setIfInBounds_toArray, List.set_cons_zero, List.set_cons_succ]
           refine take_at (i := 31) (v := ?v24_v34) rfl (by kernel_rfl) (by kernel_rfl) (by kernel_rfl) (fun _ _ _ h => h) (Or.inl ⟨by rfl, ?v24_y34⟩) (by assumption) ?v24_r34
           case v24_y34 => (intro w hSw; (try dsimp only at hSw); obtain ⟨cc0, cc1, cc2, cc3, cc4, cc5, cc6, cc7, cc8, cc9, cc10, cc11, cc12, cc13, cc14, cc15, cc16, cc17, cc18, cc19⟩ := HC.out _ hSw; go_simp; (try with_reducible rfl))
           simp only [Act.put, List.setIfInBounds_toArray, List.set_cons_zero, List.set_cons_succ]
           refine wpAnyH_ready (rs := [32]) (by kernel_rfl) (by simp) ?_
           refine cons_at (i := 32) rfl (fun K hK => ?_) AllReadyH.nil
           go_simp
           refine (int_R 0 v24_w29 (by decide) (by decide)).mono ?_
           rintro e v24_w35 ⟨⟨spv24_32, Apv24_32, npv24_32, cpv24_32, sqv24_32, Aqv24_32, nqv24_32, cqv24_32⟩, rfl, hc1, hc2, hf, f1, f2, hb⟩
           try dsimp only [frV]
           try dsimp only
           have X35 := Lib.hid hb
           have FGv24_32_35 := Lib.hid hf
           have FAv24_32 : Hid (Fresh w255 Apv24_32 npv24_32) := fun hp ad e => Nat.le_trans Bv24_30.out.size (f1 hp ad e)
           have FBv24_32 : Hid (Fresh w255 Aqv24_32 nqv24_32) := fun hp ad e => Nat.le_trans Bv24_30.out.size (f2 hp ad e)
           have HCAv24_32 := Lib.hid hc1
           have HCBv24_32 := Lib.hid hc2
           have Bv24_36 := Lib.hid (Bv24_30.out.trans (X35.out.mono Bv24_30.out.size))
           refine hK.out _ _ ?_ (fun hHeld => ?_)
           · exact Bv24_36.out
           clear Bv24_30 X35 hc1 hc2 hf f1 f2 hb
           clear hK K
           (try simp only [Act.put, uA, uB, uC])
           refine wpAnyH_ready (rs := [33]) (by kernel_rfl) (by simp) ?_
           refine cons_at (i := 33) rfl (fun K hK => ?_) AllReadyH.nil
           go_simp
           refine (same5_R (k := 25) ⟨s1_22_, A1_22_, n1_22_, c1_22_, s2_22_, A2_22_, n2_22_, c2_22_⟩ ⟨spv24_32, Apv24_32, npv24_32, cpv24_32, sqv24_32, Aqv24_32, nqv24_32, cqv24_32⟩ (Gz.out.past Bv24_36.out) (FGv24_32_35.out.more (by decide)) (by decide) (o := true) (decide_eq_true zero_add_neg)).mono ?_
           rintro e v24_w37 ⟨rfl, hb⟩
           try dsimp only
           have X37 := Lib.hid hb
           have Bv24_38 := Lib.hid (Bv24_36.out.trans (X37.out.mono Bv24_36.out.size))
           have FGv24_32_38 := Lib.hid (FGv24_32_35.out.past X37.out)
           refine hK.out _ _ ?_ (fun hHeld => ?_)
           · exact Bv24_38.out
           clear Bv24_36 FGv24_32_35 X37 hb
           clear hK K
           (try simp only [Act.put, uA, uB, uC])
           refine take_at (i := 34) (v := ?v24_v39) rfl (by kernel_rfl) (by kernel_rfl) (by kernel_rfl) (fun _ _ _ h => h) (Or.inl ⟨by rfl, ?v24_y39⟩) (by assumption) ?v24_r39
           case v24_y39 => (intro w hSw; (try dsimp only at hSw); go_simp; (try with_reducible rfl))
           simp only [Act.put, List.setIfInBounds_toArray, List.set_cons_zero, List.set_cons_succ]
           refine take_at (i := 35) (v := ?v24_v40) rfl (by kernel_rfl) (by kernel_rfl) (by kernel_rfl) (fun _ _ _ h => h) (Or.inl ⟨by rfl, ?v24_y40⟩) (by assumption) ?v24_r40
           case v24_y40 => (intro w hSw; (try dsimp only at hSw); go_simp; (try with_reducible rfl))
           simp only [Act.put, List.setIfInBounds_toArray, List.set_cons_zero, List.set_cons_succ]
           refine wpAnyH_done (by kernel_rfl) ?_ _
           go_wp2_with fail
           go_ret
           exact ⟨rfl, (S255.out.call Bv24_38.out).bl⟩
theorem order_walk (ra : FrR) (l1a l2a : List Int) (rb : FrR) (l1b l2b : List Int) (rc : FrR) (l1c l2c : List Int) (w : World) (haa : FrArg w ra l1a l2a) (hab : FrArg w rb l1b l2b) (hac : FrArg w rc l1c l2c) (hT : TabZ w) (hS : Tab w) (hM : MaxL w) :
    Calls Tryz.prog 4 #[frV ra, frV rb, frV rc] w fun e w' => e = .returned (.bool true) ∧ Below w.heap.size w w' := by
  by_cases t0 : (ra.n1 : Int) ≤ 12 ∧ (ra.n2 : Int) ≤ 12
  case neg => exact order_e0 ra l1a l2a rb l1b l2b rc l1c l2c w haa hab hac hT hS hM (by omega)
  by_cases t1 : (rb.n1 : Int) ≤ 12 ∧ (rb.n2 : Int) ≤ 12
  case neg => exact order_e1 ra l1a l2a rb l1b l2b rc l1c l2c w haa hab hac hT hS hM t0 (by omega)
  by_cases t2 : (rc.n1 : Int) ≤ 12 ∧ (rc.n2 : Int) ≤ 12
  case neg => exact order_e2 ra l1a l2a rb l1b l2b rc l1c l2c w haa hab hac hT hS hM t0 t1 (by omega)
  by_cases u3 : ∃ x, IsFr w ra x
  case neg => exact order_e3 ra l1a l2a rb l1b l2b rc l1c l2c w haa hab hac hT hS hM t0 t1 t2 (fun x hx => u3 ⟨x, hx⟩)
  obtain ⟨xa, t3⟩ := u3
  by_cases u4 : ∃ x, IsFr w rb x
  case neg => exact order_e4 ra l1a l2a rb l1b l2b rc l1c l2c w haa hab hac hT hS hM t0 t1 t2 xa t3 (fun x hx => u4 ⟨x, hx⟩)
  obtain ⟨xb, t4⟩ := u4
  by_cases u5 : ∃ x, IsFr w rc x
  case neg => exact order_e5 ra l1a l2a rb l1b l2b rc l1c l2c w haa hab hac hT hS hM t0 t1 t2 xa t3 xb t4 (fun x hx => u5 ⟨x, hx⟩)
  obtain ⟨xc, t5⟩ := u5
  exact order_main ra l1a l2a rb l1b l2b rc l1c l2c w haa hab hac hT hS hM t0 t1 t2 xa t3 xb t4 xc t5
end Go.Proofs.YtmkhoofeekollaaGreatDoor
