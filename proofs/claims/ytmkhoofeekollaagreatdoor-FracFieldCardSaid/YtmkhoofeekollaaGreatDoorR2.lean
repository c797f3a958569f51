/- The walk of the law FracField. Conditions: the arguments' memory; the tables of math/bits and strconv as their texts lay them; the variable MaxLen of internal/bytealg holds an int. -/
import Derived.Test.YtmkhoofeekollaaGreatDoorR1
import Derived.Test.YtmkhoofeekollaaGreatDoorR0
import Derived.Deep.DeepCutAuto
namespace Go.Proofs.YtmkhoofeekollaaGreatDoor
set_option maxRecDepth 20000
open Go.RowKit

set_option maxHeartbeats 16000000 in
theorem field_nz (ra : FrR) (l1a l2a : List Int) (rb : FrR) (l1b l2b : List Int) (rc : FrR) (l1c l2c : List Int) (w : World) (_haa : FrArg w ra l1a l2a) (_hab : FrArg w rb l1b l2b) (_hac : FrArg w rc l1c l2c) (hT : TabZ w) (hS : Tab w) (hM : MaxL w) (t0 : (ra.n1 : Int) ≤ 12 ∧ (ra.n2 : Int) ≤ 12) (t1 : (rb.n1 : Int) ≤ 12 ∧ (rb.n2 : Int) ≤ 12) (t2 : (rc.n1 : Int) ≤ 12 ∧ (rc.n2 : Int) ≤ 12) (xa : Rat) (t3 : IsFr w ra xa) (xb : Rat) (t4 : IsFr w rb xb) (xc : Rat) (t5 : IsFr w rc xc) (hy : xb ≠ 0) :
    Calls Tryz.prog 3 #[frV ra, frV rb, frV rc] w fun e w' => e = .returned (.bool true) ∧ Below w.heap.size w w' := by
  have HR0 := Lib.hid t0
  have HR1 := Lib.hid t1
  have HR2 := Lib.hid t2
  have HR3 := Lib.hid t3
  have HR4 := Lib.hid t4
  have HR5 := Lib.hid t5
  have HXa : Hid (Fg w 12 xa ra) := ⟨t3.1.as (by have h := t3.1; have hl := h.len; exact few_sz h (by omega)), t3.2.as (by have h := t3.2; exact few_sz h (by omega))⟩
  have HXb : Hid (Fg w 12 xb rb) := ⟨t4.1.as (by have h := t4.1; have hl := h.len; exact few_sz h (by omega)), t4.2.as (by have h := t4.2; exact few_sz h (by omega))⟩
  have HXc : Hid (Fg w 12 xc rc) := ⟨t5.1.as (by have h := t5.1; have hl := h.len; exact few_sz h (by omega)), t5.2.as (by have h := t5.2; exact few_sz h (by omega))⟩
  clear t0 t1 t2 t3 t4 t5 _haa _hab _hac
  obtain ⟨W0, hW0⟩ : ∃ W0, W0 = ((w.alloc (.cells (frC ra) 26)).alloc (.cells (frC rb) 26)).alloc (.cells (frC rc) 26) := ⟨_, rfl⟩
  have B0 : Hid (Below w.heap.size w W0) := by show Below _ _ _; rw [hW0]; exact (bal (bal (bal (Below.refl w.heap.size w))))
  have Ka : Hid (Blk W0 (w.heap.size) 26 (frC ra)) := by show Blk _ _ _ _; rw [hW0]; exact (((Blk.new_ (by simp)).alloc _).alloc _)
  have Kb : Hid (Blk W0 (w.heap.size + 1) 26 (frC rb)) := by show Blk _ _ _ _; rw [hW0]; exact ((Blk.new_ (by simp)).alloc _)
  have Kc : Hid (Blk W0 (w.heap.size + 1 + 1) 26 (frC rc)) := by show Blk _ _ _ _; rw [hW0]; exact (Blk.new_ (by simp))
  have HT := Lib.hid hT
  have HS := Lib.hid hS
  have HM := Lib.hid hM
  obtain ⟨s1a, A1a, n1a, c1a, s2a, A2a, n2a, c2a⟩ := ra
  obtain ⟨s1b, A1b, n1b, c1b, s2b, A2b, n2b, c2b⟩ := rb
  obtain ⟨s1c, A1c, n1c, c1c, s2c, A2c, n2c, c2c⟩ := rc
  dsimp only [frV, frC] at *
  clear hT hS hM
  go_enter Tryz.func3, Tryz.ntmps3
  go_wp2_with fail
  rw [← hW0]
  clear hW0
  have M := Lib.hid (small5_any W0 (HT.out.on B0.out) (HS.out.on B0.out) (HM.out.on B0.out HM.out.pos))
  (try dsimp only [frV] at M)
  go_wp2_with fail
  refine M.out.mono ?_
  rintro e wa1 ⟨rfl, hb⟩
  clear M
  have X := Lib.hid hb
  clear hb
  have Ba2 := Lib.hid (B0.out.trans (X.out.mono B0.out.size))
  have Kaa2 := Lib.hid (Ka.out.below X.out Ka.out.lt)
  have Kab2 := Lib.hid (Kb.out.below X.out Kb.out.lt)
  have Kac2 := Lib.hid (Kc.out.below X.out Kc.out.lt)
  clear X B0 Ka Kb Kc
  obtain ⟨za0, za1, za2, za3, -, -, -, -⟩ := fr_cells Kaa2.out
  have M := Lib.hid (few5_T ⟨s1a, A1a, n1a, c1a, s2a, A2a, n2a, c2a⟩ 12 wa1 HR0.out.1 HR0.out.2)
  (try dsimp only [frV] at M)
  go_wp2_with fail
  refine M.out.mono ?_
  rintro e wa3 ⟨rfl, hb⟩
  clear M
  have X := Lib.hid hb
  clear hb
  have Ba4 := Lib.hid (Ba2.out.trans (X.out.mono Ba2.out.size))
  have Kaa4 := Lib.hid (Kaa2.out.below X.out Kaa2.out.lt)
  have Kab4 := Lib.hid (Kab2.out.below X.out Kab2.out.lt)
  have Kac4 := Lib.hid (Kac2.out.below X.out Kac2.out.lt)
  clear X Ba2 Kaa2 Kab2 Kac2
  clear za0 za1 za2 za3
  obtain ⟨zb0, zb1, zb2, zb3, -, -, -, -⟩ := fr_cells Kab4.out
  have M := Lib.hid (few5_T ⟨s1b, A1b, n1b, c1b, s2b, A2b, n2b, c2b⟩ 12 wa3 HR1.out.1 HR1.out.2)
  (try dsimp only [frV] at M)
  go_wp2_with fail
  refine M.out.mono ?_
  rintro e wa5 ⟨rfl, hb⟩
  clear M
  have X := Lib.hid hb
  clear hb
  have Ba6 := Lib.hid (Ba4.out.trans (X.out.mono Ba4.out.size))
  have Kaa6 := Lib.hid (Kaa4.out.below X.out Kaa4.out.lt)
  have Kab6 := Lib.hid (Kab4.out.below X.out Kab4.out.lt)
  have Kac6 := Lib.hid (Kac4.out.below X.out Kac4.out.lt)
  clear X Ba4 Kaa4 Kab4 Kac4
  clear zb0 zb1 zb2 zb3
  obtain ⟨zc0, zc1, zc2, zc3, -, -, -, -⟩ := fr_cells Kac6.out
  have M := Lib.hid (few5_T ⟨s1c, A1c, n1c, c1c, s2c, A2c, n2c, c2c⟩ 12 wa5 HR2.out.1 HR2.out.2)
  (try dsimp only [frV] at M)
  go_wp2_with fail
  refine M.out.mono ?_
  rintro e wa7 ⟨rfl, hb⟩
  clear M
  have X := Lib.hid hb
  clear hb
  have Ba8 := Lib.hid (Ba6.out.trans (X.out.mono Ba6.out.size))
  have Kaa8 := Lib.hid (Kaa6.out.below X.out Kaa6.out.lt)
  have Kab8 := Lib.hid (Kab6.out.below X.out Kab6.out.lt)
  have Kac8 := Lib.hid (Kac6.out.below X.out Kac6.out.lt)
  clear X Ba6 Kaa6 Kab6 Kac6
  clear zc0 zc1 zc2 zc3
  obtain ⟨za0, za1, za2, za3, -, -, -, -⟩ := fr_cells Kaa8.out
  have M := Lib.hid (right_T ⟨s1a, A1a, n1a, c1a, s2a, A2a, n2a, c2a⟩ (HR3.out.past Ba8.out) (HT.out.on Ba8.out) (by dsimp only; have := HR0.out; have := HR0.out; omega))
  (try dsimp only [frV] at M)
  go_wp2_with fail
  refine M.out.mono ?_
  rintro e wa9 ⟨rfl, hb⟩
  clear M
  have X := Lib.hid hb
  clear hb
  have Ba10 := Lib.hid (Ba8.out.trans (X.out.mono Ba8.out.size))
  have Kaa10 := Lib.hid (Kaa8.out.below X.out Kaa8.out.lt)
  have Kab10 := Lib.hid (Kab8.out.below X.out Kab8.out.lt)
  have Kac10 := Lib.hid (Kac8.out.below X.out Kac8.out.lt)
  clear X Ba8 Kaa8 Kab8 Kac8
  clear za0 za1 za2 za3
  obtain ⟨zb0, zb1, zb2, zb3, -, -, -, -⟩ := fr_cells Kab10.out
  have M := Lib.hid (right_T ⟨s1b, A1b, n1b, c1b, s2b, A2b, n2b, c2b⟩ (HR4.out.past Ba10.out) (HT.out.on Ba10.out) (by dsimp only; have := HR1.out; have := HR1.out; omega))
  (try dsimp only [frV] at M)
  go_wp2_with fail
  refine M.out.mono ?_
  rintro e wa11 ⟨rfl, hb⟩
  clear M
  have X := Lib.hid hb
  clear hb
  have Ba12 := Lib.hid (Ba10.out.trans (X.out.mono Ba10.out.size))
  have Kaa12 := Lib.hid (Kaa10.out.below X.out Kaa10.out.lt)
  have Kab12 := Lib.hid (Kab10.out.below X.out Kab10.out.lt)
  have Kac12 := Lib.hid (Kac10.out.below X.out Kac10.out.lt)
  clear X Ba10 Kaa10 Kab10 Kac10
  clear zb0 zb1 zb2 zb3
  obtain ⟨zc0, zc1, zc2, zc3, -, -, -, -⟩ := fr_cells Kac12.out
  have M := Lib.hid (right_T ⟨s1c, A1c, n1c, c1c, s2c, A2c, n2c, c2c⟩ (HR5.out.past Ba12.out) (HT.out.on Ba12.out) (by dsimp only; have := HR2.out; have := HR2.out; omega))
  (try dsimp only [frV] at M)
  go_wp2_with fail
  refine M.out.mono ?_
  rintro e wa13 ⟨rfl, hb⟩
  clear M
  have X := Lib.hid hb
  clear hb
  have Ba14 := Lib.hid (Ba12.out.trans (X.out.mono Ba12.out.size))
  have Kaa14 := Lib.hid (Kaa12.out.below X.out Kaa12.out.lt)
  have Kab14 := Lib.hid (Kab12.out.below X.out Kab12.out.lt)
  have Kac14 := Lib.hid (Kac12.out.below X.out Kac12.out.lt)
  clear X Ba12 Kaa12 Kab12 Kac12
  clear zc0 zc1 zc2 zc3
  have S0 := Lib.hid (StF.args3 (a := ⟨s1a, A1a, n1a, c1a, s2a, A2a, n2a, c2a⟩) (b := ⟨s1b, A1b, n1b, c1b, s2b, A2b, n2b, c2b⟩) (c := ⟨s1c, A1c, n1c, c1c, s2c, A2c, n2c, c2c⟩) Ba14.out Kaa14.out Kab14.out Kac14.out HXa.out HXb.out HXc.out)
  have HY := Lib.hid hy
  have hsb : s1b = sgnR xb := HXb.out.1.sgn
  have hnz : (s1b == 0) = false := by rw [hsb]; rcases sgnR_cases xb with ⟨-, h⟩ | ⟨h, -⟩ | ⟨-, h⟩; (rw [h]; rfl); exact absurd h hy; (rw [h]; rfl)
  have HNZ := Lib.hid hnz
  clear hy hsb hnz
  clear HXa HXb HXc HR0 HR1 HR2 HR3 HR4 HR5 HS HM Ba14 Kaa14 Kab14 Kac14
  as_aux_lemma =>
   have F := S0.out.bx _ (List.mem_of_getElem? (i := 0) rfl)
   dsimp only [frC] at F
   obtain ⟨za0, za1, za2, za3, -, -, -, -⟩ := fr_cells F.1
   have Ga := Lib.hid F.2
   clear F
   have F := S0.out.bx _ (List.mem_of_getElem? (i := 1) rfl)
   dsimp only [frC] at F
   obtain ⟨zb0, zb1, zb2, zb3, -, -, -, -⟩ := fr_cells F.1
   have Gb := Lib.hid F.2
   clear F
   have M := Lib.hid (add_R (k := 12) ⟨s1a, A1a, n1a, c1a, s2a, A2a, n2a, c2a⟩ ⟨s1b, A1b, n1b, c1b, s2b, A2b, n2b, c2b⟩ Ga.out Gb.out (HT.out.on S0.out.bl) (by decide))
   (try dsimp only [frV] at M)
   go_wp2_with fail
   refine M.out.mono ?_
   rintro e w1 ⟨⟨s1_1, A1_1, n1_1, c1_1, s2_1, A2_1, n2_1, c2_1⟩, rfl, -, -, hg, hf1, hf2, hb⟩
   have HG := Lib.hid hg
   have HF1 := Lib.hid hf1
   have HF2 := Lib.hid hf2
   have HB := Lib.hid hb
   clear hg hf1 hf2 hb M
   clear za0 za1 za2 za3 Ga zb0 zb1 zb2 zb3 Gb
   (try dsimp only [frV])
   have M := Lib.hid (right5_R ⟨s1_1, A1_1, n1_1, c1_1, s2_1, A2_1, n2_1, c2_1⟩ HG.out (HT.out.on (S0.out.call HB.out).bl) (by decide))
   (try dsimp only [frV] at M)
   go_wp2_with fail
   refine M.out.mono ?_
   rintro e w2 ⟨rfl, hb⟩
   have HG2 := Lib.hid (HG.out.past hb)
   have HB2 := Lib.hid (HB.out.trans (hb.mono HB.out.size))
   clear HG HB hb M
   have HG := HG2
   have HB := HB2
   clear HG2 HB2
   have S3 := Lib.hid (S0.out.made HB.out HG.out HF1.out HF2.out)
   clear HG HB HF1 HF2 S0
   have F := S3.out.bx _ (List.mem_of_getElem? (i := 2) rfl)
   dsimp only [frC] at F
   obtain ⟨zb0, zb1, zb2, zb3, -, -, -, -⟩ := fr_cells F.1
   have Gb := Lib.hid F.2
   clear F
   have F := S3.out.bx _ (List.mem_of_getElem? (i := 1) rfl)
   dsimp only [frC] at F
   obtain ⟨za0, za1, za2, za3, -, -, -, -⟩ := fr_cells F.1
   have Ga := Lib.hid F.2
   clear F
   have M := Lib.hid (add_R (k := 12) ⟨s1b, A1b, n1b, c1b, s2b, A2b, n2b, c2b⟩ ⟨s1a, A1a, n1a, c1a, s2a, A2a, n2a, c2a⟩ Gb.out Ga.out (HT.out.on S3.out.bl) (by decide))
   (try dsimp only [frV] at M)
   go_wp2_with fail
   refine M.out.mono ?_
   rintro e w4 ⟨⟨s1_4, A1_4, n1_4, c1_4, s2_4, A2_4, n2_4, c2_4⟩, rfl, -, -, hg, hf1, hf2, hb⟩
   have HG := Lib.hid hg
   have HF1 := Lib.hid hf1
   have HF2 := Lib.hid hf2
   have HB := Lib.hid hb
   clear hg hf1 hf2 hb M
   clear zb0 zb1 zb2 zb3 Gb za0 za1 za2 za3 Ga
   (try dsimp only [frV])
   have M := Lib.hid (right5_R ⟨s1_4, A1_4, n1_4, c1_4, s2_4, A2_4, n2_4, c2_4⟩ HG.out (HT.out.on (S3.out.call HB.out).bl) (by decide))
   (try dsimp only [frV] at M)
   go_wp2_with fail
   refine M.out.mono ?_
   rintro e w5 ⟨rfl, hb⟩
   have HG2 := Lib.hid (HG.out.past hb)
   have HB2 := Lib.hid (HB.out.trans (hb.mono HB.out.size))
   clear HG HB hb M
   have HG := HG2
   have HB := HB2
   clear HG2 HB2
   have S6 := Lib.hid (S3.out.made HB.out HG.out HF1.out HF2.out)
   clear HG HB HF1 HF2 S3
   have F := S6.out.bx _ (List.mem_of_getElem? (i := 3) rfl)
   dsimp only [frC] at F
   obtain ⟨zb0, zb1, zb2, zb3, -, -, -, -⟩ := fr_cells F.1
   have Gb := Lib.hid F.2
   clear F
   have F := S6.out.bx _ (List.mem_of_getElem? (i := 4) rfl)
   dsimp only [frC] at F
   obtain ⟨zc0, zc1, zc2, zc3, -, -, -, -⟩ := fr_cells F.1
   have Gc := Lib.hid F.2
   clear F
   have M := Lib.hid (add_R (k := 12) ⟨s1b, A1b, n1b, c1b, s2b, A2b, n2b, c2b⟩ ⟨s1c, A1c, n1c, c1c, s2c, A2c, n2c, c2c⟩ Gb.out Gc.out (HT.out.on S6.out.bl) (by decide))
   (try dsimp only [frV] at M)
   go_wp2_with fail
   refine M.out.mono ?_
   rintro e w7 ⟨⟨s1_7, A1_7, n1_7, c1_7, s2_7, A2_7, n2_7, c2_7⟩, rfl, -, -, hg, hf1, hf2, hb⟩
   have HG := Lib.hid hg
   have HF1 := Lib.hid hf1
   have HF2 := Lib.hid hf2
   have HB := Lib.hid hb
   clear hg hf1 hf2 hb M
   clear zb0 zb1 zb2 zb3 Gb zc0 zc1 zc2 zc3 Gc
   (try dsimp only [frV])
   have M := Lib.hid (right5_R ⟨s1_7, A1_7, n1_7, c1_7, s2_7, A2_7, n2_7, c2_7⟩ HG.out (HT.out.on (S6.out.call HB.out).bl) (by decide))
   (try dsimp only [frV] at M)
   go_wp2_with fail
   refine M.out.mono ?_
   rintro e w8 ⟨rfl, hb⟩
   have HG2 := Lib.hid (HG.out.past hb)
   have HB2 := Lib.hid (HB.out.trans (hb.mono HB.out.size))
   clear HG HB hb M
   have HG := HG2
   have HB := HB2
   clear HG2 HB2
   have S9 := Lib.hid (S6.out.made HB.out HG.out HF1.out HF2.out)
   clear HG HB HF1 HF2 S6
   as_aux_lemma =>
    have F := S9.out.bx _ (List.mem_of_getElem? (i := 2) rfl)
    dsimp only [frC] at F
    obtain ⟨zab0, zab1, zab2, zab3, -, -, -, -⟩ := fr_cells F.1
    have Gab := Lib.hid F.2
    clear F
    have F := S9.out.bx _ (List.mem_of_getElem? (i := 5) rfl)
    dsimp only [frC] at F
    obtain ⟨zc0, zc1, zc2, zc3, -, -, -, -⟩ := fr_cells F.1
    have Gc := Lib.hid F.2
    clear F
    have M := Lib.hid (add_R (k := 25) ⟨s1_1, A1_1, n1_1, c1_1, s2_1, A2_1, n2_1, c2_1⟩ ⟨s1c, A1c, n1c, c1c, s2c, A2c, n2c, c2c⟩ Gab.out (Gc.out.more (by decide)) (HT.out.on S9.out.bl) (by decide))
    (try dsimp only [frV] at M)
    go_wp2_with fail
    refine M.out.mono ?_
    rintro e w10 ⟨⟨s1_10, A1_10, n1_10, c1_10, s2_10, A2_10, n2_10, c2_10⟩, rfl, -, -, hg, hf1, hf2, hb⟩
    have HG := Lib.hid hg
    have HF1 := Lib.hid hf1
    have HF2 := Lib.hid hf2
    have HB := Lib.hid hb
    clear hg hf1 hf2 hb M
    clear zab0 zab1 zab2 zab3 Gab zc0 zc1 zc2 zc3 Gc
    (try dsimp only [frV])
    have M := Lib.hid (right5_R ⟨s1_10, A1_10, n1_10, c1_10, s2_10, A2_10, n2_10, c2_10⟩ HG.out (HT.out.on (S9.out.call HB.out).bl) (by decide))
    (try dsimp only [frV] at M)
    go_wp2_with fail
    refine M.out.mono ?_
    rintro e w11 ⟨rfl, hb⟩
    have HG2 := Lib.hid (HG.out.past hb)
    have HB2 := Lib.hid (HB.out.trans (hb.mono HB.out.size))
    clear HG HB hb M
    have HG := HG2
    have HB := HB2
    clear HG2 HB2
    have S12 := Lib.hid (S9.out.made HB.out HG.out HF1.out HF2.out)
    clear HG HB HF1 HF2 S9
    have F := S12.out.bx _ (List.mem_of_getElem? (i := 4) rfl)
    dsimp only [frC] at F
    obtain ⟨za0, za1, za2, za3, -, -, -, -⟩ := fr_cells F.1
    have Ga := Lib.hid F.2
    clear F
    have F := S12.out.bx _ (List.mem_of_getElem? (i := 1) rfl)
    dsimp only [frC] at F
    obtain ⟨zbc0, zbc1, zbc2, zbc3, -, -, -, -⟩ := fr_cells F.1
    have Gbc := Lib.hid F.2
    clear F
    have M := Lib.hid (add_R (k := 25) ⟨s1a, A1a, n1a, c1a, s2a, A2a, n2a, c2a⟩ ⟨s1_7, A1_7, n1_7, c1_7, s2_7, A2_7, n2_7, c2_7⟩ (Ga.out.more (by decide)) Gbc.out (HT.out.on S12.out.bl) (by decide))
    (try dsimp only [frV] at M)
    go_wp2_with fail
    refine M.out.mono ?_
    rintro e w13 ⟨⟨s1_13, A1_13, n1_13, c1_13, s2_13, A2_13, n2_13, c2_13⟩, rfl, -, -, hg, hf1, hf2, hb⟩
    have HG := Lib.hid hg
    have HF1 := Lib.hid hf1
    have HF2 := Lib.hid hf2
    have HB := Lib.hid hb
    clear hg hf1 hf2 hb M
    clear za0 za1 za2 za3 Ga zbc0 zbc1 zbc2 zbc3 Gbc
    (try dsimp only [frV])
    have M := Lib.hid (right5_R ⟨s1_13, A1_13, n1_13, c1_13, s2_13, A2_13, n2_13, c2_13⟩ HG.out (HT.out.on (S12.out.call HB.out).bl) (by decide))
    (try dsimp only [frV] at M)
    go_wp2_with fail
    refine M.out.mono ?_
    rintro e w14 ⟨rfl, hb⟩
    have HG2 := Lib.hid (HG.out.past hb)
    have HB2 := Lib.hid (HB.out.trans (hb.mono HB.out.size))
    clear HG HB hb M
    have HG := HG2
    have HB := HB2
    clear HG2 HB2
    have S15 := Lib.hid (S12.out.made HB.out HG.out HF1.out HF2.out)
    clear HG HB HF1 HF2 S12
    have F := S15.out.bx _ (List.mem_of_getElem? (i := 4) rfl)
    dsimp only [frC] at F
    obtain ⟨zab0, zab1, zab2, zab3, -, -, -, -⟩ := fr_cells F.1
    have Gab := Lib.hid F.2
    clear F
    have F := S15.out.bx _ (List.mem_of_getElem? (i := 3) rfl)
    dsimp only [frC] at F
    obtain ⟨zba0, zba1, zba2, zba3, -, -, -, -⟩ := fr_cells F.1
    have Gba := Lib.hid F.2
    clear F
    have M := Lib.hid (same5_R (k := 25) ⟨s1_1, A1_1, n1_1, c1_1, s2_1, A2_1, n2_1, c2_1⟩ ⟨s1_4, A1_4, n1_4, c1_4, s2_4, A2_4, n2_4, c2_4⟩ Gab.out Gba.out (by decide) (o := true) (decide_eq_true (by grind)))
    (try dsimp only [frV] at M)
    go_wp2_with fail
    refine M.out.mono ?_
    rintro e w16 ⟨rfl, hb⟩
    have S16 := Lib.hid (S15.out.call hb)
    clear hb M S15
    clear zab0 zab1 zab2 zab3 Gab zba0 zba1 zba2 zba3 Gba
    have F := S16.out.bx _ (List.mem_of_getElem? (i := 1) rfl)
    dsimp only [frC] at F
    obtain ⟨zx0, zx1, zx2, zx3, -, -, -, -⟩ := fr_cells F.1
    have Gx := Lib.hid F.2
    clear F
    have F := S16.out.bx _ (List.mem_of_getElem? (i := 0) rfl)
    dsimp only [frC] at F
    obtain ⟨zy0, zy1, zy2, zy3, -, -, -, -⟩ := fr_cells F.1
    have Gy := Lib.hid F.2
    clear F
    have M := Lib.hid (same5_R (k := 51) ⟨s1_10, A1_10, n1_10, c1_10, s2_10, A2_10, n2_10, c2_10⟩ ⟨s1_13, A1_13, n1_13, c1_13, s2_13, A2_13, n2_13, c2_13⟩ Gx.out Gy.out (by decide) (o := true) (decide_eq_true (by grind)))
    (try dsimp only [frV] at M)
    go_wp2_with fail
    refine M.out.mono ?_
    rintro e w17 ⟨rfl, hb⟩
    have S17 := Lib.hid (S16.out.call hb)
    clear hb M S16
    clear zx0 zx1 zx2 zx3 Gx zy0 zy1 zy2 zy3 Gy
    as_aux_lemma =>
     have F := S17.out.bx _ (List.mem_of_getElem? (i := 5) rfl)
     dsimp only [frC] at F
     obtain ⟨za0, za1, za2, za3, -, -, -, -⟩ := fr_cells F.1
     have Ga := Lib.hid F.2
     clear F
     have F := S17.out.bx _ (List.mem_of_getElem? (i := 6) rfl)
     dsimp only [frC] at F
     obtain ⟨zb0, zb1, zb2, zb3, -, -, -, -⟩ := fr_cells F.1
     have Gb := Lib.hid F.2
     clear F
     have M := Lib.hid (mul_R (k := 12) ⟨s1a, A1a, n1a, c1a, s2a, A2a, n2a, c2a⟩ ⟨s1b, A1b, n1b, c1b, s2b, A2b, n2b, c2b⟩ Ga.out Gb.out (HT.out.on S17.out.bl) (by decide))
     (try dsimp only [frV] at M)
     go_wp2_with fail
     refine M.out.mono ?_
     rintro e w18 ⟨⟨s1_18, A1_18, n1_18, c1_18, s2_18, A2_18, n2_18, c2_18⟩, rfl, -, -, hg, hf1, hf2, hb⟩
     have HG := Lib.hid hg
     have HF1 := Lib.hid hf1
     have HF2 := Lib.hid hf2
     have HB := Lib.hid hb
     clear hg hf1 hf2 hb M
     clear za0 za1 za2 za3 Ga zb0 zb1 zb2 zb3 Gb
     (try dsimp only [frV])
     have M := Lib.hid (right5_R ⟨s1_18, A1_18, n1_18, c1_18, s2_18, A2_18, n2_18, c2_18⟩ HG.out (HT.out.on (S17.out.call HB.out).bl) (by decide))
     (try dsimp only [frV] at M)
     go_wp2_with fail
     refine M.out.mono ?_
     rintro e w19 ⟨rfl, hb⟩
     have HG2 := Lib.hid (HG.out.past hb)
     have HB2 := Lib.hid (HB.out.trans (hb.mono HB.out.size))
     clear HG HB hb M
     have HG := HG2
     have HB := HB2
     clear HG2 HB2
     have S20 := Lib.hid (S17.out.made HB.out HG.out HF1.out HF2.out)
     clear HG HB HF1 HF2 S17
     have F := S20.out.bx _ (List.mem_of_getElem? (i := 7) rfl)
     dsimp only [frC] at F
     obtain ⟨zb0, zb1, zb2, zb3, -, -, -, -⟩ := fr_cells F.1
     have Gb := Lib.hid F.2
     clear F
     have F := S20.out.bx _ (List.mem_of_getElem? (i := 6) rfl)
     dsimp only [frC] at F
     obtain ⟨za0, za1, za2, za3, -, -, -, -⟩ := fr_cells F.1
     have Ga := Lib.hid F.2
     clear F
     have M := Lib.hid (mul_R (k := 12) ⟨s1b, A1b, n1b, c1b, s2b, A2b, n2b, c2b⟩ ⟨s1a, A1a, n1a, c1a, s2a, A2a, n2a, c2a⟩ Gb.out Ga.out (HT.out.on S20.out.bl) (by decide))
     (try dsimp only [frV] at M)
     go_wp2_with fail
     refine M.out.mono ?_
     rintro e w21 ⟨⟨s1_21, A1_21, n1_21, c1_21, s2_21, A2_21, n2_21, c2_21⟩, rfl, -, -, hg, hf1, hf2, hb⟩
     have HG := Lib.hid hg
     have HF1 := Lib.hid hf1
     have HF2 := Lib.hid hf2
     have HB := Lib.hid hb
     clear hg hf1 hf2 hb M
     clear zb0 zb1 zb2 zb3 Gb za0 za1 za2 za3 Ga
     (try dsimp only [frV])
     have M := Lib.hid (right5_R ⟨s1_21, A1_21, n1_21, c1_21, s2_21, A2_21, n2_21, c2_21⟩ HG.out (HT.out.on (S20.out.call HB.out).bl) (by decide))
     (try dsimp only [frV] at M)
     go_wp2_with fail
     refine M.out.mono ?_
     rintro e w22 ⟨rfl, hb⟩
     have HG2 := Lib.hid (HG.out.past hb)
     have HB2 := Lib.hid (HB.out.trans (hb.mono HB.out.size))
     clear HG HB hb M
     have HG := HG2
     have HB := HB2
     clear HG2 HB2
     have S23 := Lib.hid (S20.out.made HB.out HG.out HF1.out HF2.out)
     clear HG HB HF1 HF2 S20
     have F := S23.out.bx _ (List.mem_of_getElem? (i := 8) rfl)
     dsimp only [frC] at F
     obtain ⟨zb0, zb1, zb2, zb3, -, -, -, -⟩ := fr_cells F.1
     have Gb := Lib.hid F.2
     clear F
     have F := S23.out.bx _ (List.mem_of_getElem? (i := 9) rfl)
     dsimp only [frC] at F
     obtain ⟨zc0, zc1, zc2, zc3, -, -, -, -⟩ := fr_cells F.1
     have Gc := Lib.hid F.2
     clear F
     have M := Lib.hid (mul_R (k := 12) ⟨s1b, A1b, n1b, c1b, s2b, A2b, n2b, c2b⟩ ⟨s1c, A1c, n1c, c1c, s2c, A2c, n2c, c2c⟩ Gb.out Gc.out (HT.out.on S23.out.bl) (by decide))
     (try dsimp only [frV] at M)
     go_wp2_with fail
     refine M.out.mono ?_
     rintro e w24 ⟨⟨s1_24, A1_24, n1_24, c1_24, s2_24, A2_24, n2_24, c2_24⟩, rfl, -, -, hg, hf1, hf2, hb⟩
     have HG := Lib.hid hg
     have HF1 := Lib.hid hf1
     have HF2 := Lib.hid hf2
     have HB := Lib.hid hb
     clear hg hf1 hf2 hb M
     clear zb0 zb1 zb2 zb3 Gb zc0 zc1 zc2 zc3 Gc
     (try dsimp only [frV])
     have M := Lib.hid (right5_R ⟨s1_24, A1_24, n1_24, c1_24, s2_24, A2_24, n2_24, c2_24⟩ HG.out (HT.out.on (S23.out.call HB.out).bl) (by decide))
     (try dsimp only [frV] at M)
     go_wp2_with fail
     refine M.out.mono ?_
     rintro e w25 ⟨rfl, hb⟩
     have HG2 := Lib.hid (HG.out.past hb)
     have HB2 := Lib.hid (HB.out.trans (hb.mono HB.out.size))
     clear HG HB hb M
     have HG := HG2
     have HB := HB2
     clear HG2 HB2
     have S26 := Lib.hid (S23.out.made HB.out HG.out HF1.out HF2.out)
     clear HG HB HF1 HF2 S23
     as_aux_lemma =>
      have F := S26.out.bx _ (List.mem_of_getElem? (i := 2) rfl)
      dsimp only [frC] at F
      obtain ⟨zm0, zm1, zm2, zm3, -, -, -, -⟩ := fr_cells F.1
      have Gm := Lib.hid F.2
      clear F
      have F := S26.out.bx _ (List.mem_of_getElem? (i := 10) rfl)
      dsimp only [frC] at F
      obtain ⟨zc0, zc1, zc2, zc3, -, -, -, -⟩ := fr_cells F.1
      have Gc := Lib.hid F.2
      clear F
      have M := Lib.hid (mul_R (k := 24) ⟨s1_18, A1_18, n1_18, c1_18, s2_18, A2_18, n2_18, c2_18⟩ ⟨s1c, A1c, n1c, c1c, s2c, A2c, n2c, c2c⟩ Gm.out (Gc.out.more (by decide)) (HT.out.on S26.out.bl) (by decide))
      (try dsimp only [frV] at M)
      go_wp2_with fail
      refine M.out.mono ?_
      rintro e w27 ⟨⟨s1_27, A1_27, n1_27, c1_27, s2_27, A2_27, n2_27, c2_27⟩, rfl, -, -, hg, hf1, hf2, hb⟩
      have HG := Lib.hid hg
      have HF1 := Lib.hid hf1
      have HF2 := Lib.hid hf2
      have HB := Lib.hid hb
      clear hg hf1 hf2 hb M
      clear zm0 zm1 zm2 zm3 Gm zc0 zc1 zc2 zc3 Gc
      (try dsimp only [frV])
      have M := Lib.hid (right5_R ⟨s1_27, A1_27, n1_27, c1_27, s2_27, A2_27, n2_27, c2_27⟩ HG.out (HT.out.on (S26.out.call HB.out).bl) (by decide))
      (try dsimp only [frV] at M)
      go_wp2_with fail
      refine M.out.mono ?_
      rintro e w28 ⟨rfl, hb⟩
      have HG2 := Lib.hid (HG.out.past hb)
      have HB2 := Lib.hid (HB.out.trans (hb.mono HB.out.size))
      clear HG HB hb M
      have HG := HG2
      have HB := HB2
      clear HG2 HB2
      have cz := (S26.out.call HB.out).bx _ (List.mem_of_getElem? (i := 4) rfl)
      dsimp only [frC] at cz
      obtain ⟨cz0, cz1, cz2, cz3, cz4, cz5, cz6, cz7⟩ := fr_cells cz.1
      clear cz
      have S29 := Lib.hid (S26.out.put HB.out HG.out HF1.out HF2.out (i := 4) rfl)
      simp only [List.set_cons_zero, List.set_cons_succ] at S29
      clear HG HB HF1 HF2 S26
      have F := S29.out.bx _ (List.mem_of_getElem? (i := 8) rfl)
      dsimp only [frC] at F
      obtain ⟨za0, za1, za2, za3, -, -, -, -⟩ := fr_cells F.1
      have Ga := Lib.hid F.2
      clear F
      have F := S29.out.bx _ (List.mem_of_getElem? (i := 0) rfl)
      dsimp only [frC] at F
      obtain ⟨zp0, zp1, zp2, zp3, -, -, -, -⟩ := fr_cells F.1
      have Gp := Lib.hid F.2
      clear F
      have M := Lib.hid (mul_R (k := 24) ⟨s1a, A1a, n1a, c1a, s2a, A2a, n2a, c2a⟩ ⟨s1_24, A1_24, n1_24, c1_24, s2_24, A2_24, n2_24, c2_24⟩ (Ga.out.more (by decide)) Gp.out (HT.out.on S29.out.bl) (by decide))
      (try dsimp only [frV] at M)
      go_wp2_with fail
      clear cz0 cz1 cz2 cz3 cz4 cz5 cz6 cz7
      refine M.out.mono ?_
      rintro e w30 ⟨⟨s1_30, A1_30, n1_30, c1_30, s2_30, A2_30, n2_30, c2_30⟩, rfl, -, -, hg, hf1, hf2, hb⟩
      have HG := Lib.hid hg
      have HF1 := Lib.hid hf1
      have HF2 := Lib.hid hf2
      have HB := Lib.hid hb
      clear hg hf1 hf2 hb M
      clear za0 za1 za2 za3 Ga zp0 zp1 zp2 zp3 Gp
      (try dsimp only [frV])
      have M := Lib.hid (right5_R ⟨s1_30, A1_30, n1_30, c1_30, s2_30, A2_30, n2_30, c2_30⟩ HG.out (HT.out.on (S29.out.call HB.out).bl) (by decide))
      (try dsimp only [frV] at M)
      go_wp2_with fail
      refine M.out.mono ?_
      rintro e w31 ⟨rfl, hb⟩
      have HG2 := Lib.hid (HG.out.past hb)
      have HB2 := Lib.hid (HB.out.trans (hb.mono HB.out.size))
      clear HG HB hb M
      have HG := HG2
      have HB := HB2
      clear HG2 HB2
      have cz := (S29.out.call HB.out).bx _ (List.mem_of_getElem? (i := 3) rfl)
      dsimp only [frC] at cz
      obtain ⟨cz0, cz1, cz2, cz3, cz4, cz5, cz6, cz7⟩ := fr_cells cz.1
      clear cz
      have S32 := Lib.hid (S29.out.put HB.out HG.out HF1.out HF2.out (i := 3) rfl)
      simp only [List.set_cons_zero, List.set_cons_succ] at S32
      clear HG HB HF1 HF2 S29
      have F := S32.out.bx _ (List.mem_of_getElem? (i := 2) rfl)
      dsimp only [frC] at F
      obtain ⟨zm0, zm1, zm2, zm3, -, -, -, -⟩ := fr_cells F.1
      have Gm := Lib.hid F.2
      clear F
      have F := S32.out.bx _ (List.mem_of_getElem? (i := 1) rfl)
      dsimp only [frC] at F
      obtain ⟨zn0, zn1, zn2, zn3, -, -, -, -⟩ := fr_cells F.1
      have Gn := Lib.hid F.2
      clear F
      have M := Lib.hid (same5_R (k := 24) ⟨s1_18, A1_18, n1_18, c1_18, s2_18, A2_18, n2_18, c2_18⟩ ⟨s1_21, A1_21, n1_21, c1_21, s2_21, A2_21, n2_21, c2_21⟩ Gm.out Gn.out (by decide) (o := true) (decide_eq_true (by grind)))
      (try dsimp only [frV] at M)
      go_wp2_with fail
      clear cz0 cz1 cz2 cz3 cz4 cz5 cz6 cz7
      refine M.out.mono ?_
      rintro e w33 ⟨rfl, hb⟩
      have S33 := Lib.hid (S32.out.call hb)
      clear hb M S32
      clear zm0 zm1 zm2 zm3 Gm zn0 zn1 zn2 zn3 Gn
      have F := S33.out.bx _ (List.mem_of_getElem? (i := 4) rfl)
      dsimp only [frC] at F
      obtain ⟨zx0, zx1, zx2, zx3, -, -, -, -⟩ := fr_cells F.1
      have Gx := Lib.hid F.2
      clear F
      have F := S33.out.bx _ (List.mem_of_getElem? (i := 3) rfl)
      dsimp only [frC] at F
      obtain ⟨zy0, zy1, zy2, zy3, -, -, -, -⟩ := fr_cells F.1
      have Gy := Lib.hid F.2
      clear F
      have M := Lib.hid (same5_R (k := 48) ⟨s1_27, A1_27, n1_27, c1_27, s2_27, A2_27, n2_27, c2_27⟩ ⟨s1_30, A1_30, n1_30, c1_30, s2_30, A2_30, n2_30, c2_30⟩ Gx.out Gy.out (by decide) (o := true) (decide_eq_true (by grind)))
      (try dsimp only [frV] at M)
      go_wp2_with fail
      refine M.out.mono ?_
      rintro e w34 ⟨rfl, hb⟩
      have S34 := Lib.hid (S33.out.call hb)
      clear hb M S33
      clear zx0 zx1 zx2 zx3 Gx zy0 zy1 zy2 zy3 Gy
      as_aux_lemma =>
       have F := S34.out.bx _ (List.mem_of_getElem? (i := 8) rfl)
       dsimp only [frC] at F
       obtain ⟨za0, za1, za2, za3, -, -, -, -⟩ := fr_cells F.1
       have Ga := Lib.hid F.2
       clear F
       have F := S34.out.bx _ (List.mem_of_getElem? (i := 10) rfl)
       dsimp only [frC] at F
       obtain ⟨zc0, zc1, zc2, zc3, -, -, -, -⟩ := fr_cells F.1
       have Gc := Lib.hid F.2
       clear F
       have M := Lib.hid (mul_R (k := 12) ⟨s1a, A1a, n1a, c1a, s2a, A2a, n2a, c2a⟩ ⟨s1c, A1c, n1c, c1c, s2c, A2c, n2c, c2c⟩ Ga.out Gc.out (HT.out.on S34.out.bl) (by decide))
       (try dsimp only [frV] at M)
       go_wp2_with fail
       refine M.out.mono ?_
       rintro e w35 ⟨⟨s1_35, A1_35, n1_35, c1_35, s2_35, A2_35, n2_35, c2_35⟩, rfl, -, -, hg, hf1, hf2, hb⟩
       have HG := Lib.hid hg
       have HF1 := Lib.hid hf1
       have HF2 := Lib.hid hf2
       have HB := Lib.hid hb
       clear hg hf1 hf2 hb M
       clear za0 za1 za2 za3 Ga zc0 zc1 zc2 zc3 Gc
       (try dsimp only [frV])
       have M := Lib.hid (right5_R ⟨s1_35, A1_35, n1_35, c1_35, s2_35, A2_35, n2_35, c2_35⟩ HG.out (HT.out.on (S34.out.call HB.out).bl) (by decide))
       (try dsimp only [frV] at M)
       go_wp2_with fail
       refine M.out.mono ?_
       rintro e w36 ⟨rfl, hb⟩
       have HG2 := Lib.hid (HG.out.past hb)
       have HB2 := Lib.hid (HB.out.trans (hb.mono HB.out.size))
       clear HG HB hb M
       have HG := HG2
       have HB := HB2
       clear HG2 HB2
       have S37 := Lib.hid (S34.out.made HB.out HG.out HF1.out HF2.out)
       clear HG HB HF1 HF2 S34
       have F := S37.out.bx _ (List.mem_of_getElem? (i := 8) rfl)
       dsimp only [frC] at F
       obtain ⟨zab0, zab1, zab2, zab3, -, -, -, -⟩ := fr_cells F.1
       have Gab := Lib.hid F.2
       clear F
       have F := S37.out.bx _ (List.mem_of_getElem? (i := 11) rfl)
       dsimp only [frC] at F
       obtain ⟨zc0, zc1, zc2, zc3, -, -, -, -⟩ := fr_cells F.1
       have Gc := Lib.hid F.2
       clear F
       have M := Lib.hid (mul_R (k := 25) ⟨s1_1, A1_1, n1_1, c1_1, s2_1, A2_1, n2_1, c2_1⟩ ⟨s1c, A1c, n1c, c1c, s2c, A2c, n2c, c2c⟩ Gab.out (Gc.out.more (by decide)) (HT.out.on S37.out.bl) (by decide))
       (try dsimp only [frV] at M)
       go_wp2_with fail
       refine M.out.mono ?_
       rintro e w38 ⟨⟨s1_38, A1_38, n1_38, c1_38, s2_38, A2_38, n2_38, c2_38⟩, rfl, -, -, hg, hf1, hf2, hb⟩
       have HG := Lib.hid hg
       have HF1 := Lib.hid hf1
       have HF2 := Lib.hid hf2
       have HB := Lib.hid hb
       clear hg hf1 hf2 hb M
       clear zab0 zab1 zab2 zab3 Gab zc0 zc1 zc2 zc3 Gc
       (try dsimp only [frV])
       have M := Lib.hid (right5_R ⟨s1_38, A1_38, n1_38, c1_38, s2_38, A2_38, n2_38, c2_38⟩ HG.out (HT.out.on (S37.out.call HB.out).bl) (by decide))
       (try dsimp only [frV] at M)
       go_wp2_with fail
       refine M.out.mono ?_
       rintro e w39 ⟨rfl, hb⟩
       have HG2 := Lib.hid (HG.out.past hb)
       have HB2 := Lib.hid (HB.out.trans (hb.mono HB.out.size))
       clear HG HB hb M
       have HG := HG2
       have HB := HB2
       clear HG2 HB2
       have cz := (S37.out.call HB.out).bx _ (List.mem_of_getElem? (i := 5) rfl)
       dsimp only [frC] at cz
       obtain ⟨cz0, cz1, cz2, cz3, cz4, cz5, cz6, cz7⟩ := fr_cells cz.1
       clear cz
       have S40 := Lib.hid (S37.out.put HB.out HG.out HF1.out HF2.out (i := 5) rfl)
       simp only [List.set_cons_zero, List.set_cons_succ] at S40
       clear HG HB HF1 HF2 S37
       have F := S40.out.bx _ (List.mem_of_getElem? (i := 0) rfl)
       dsimp only [frC] at F
       obtain ⟨zac0, zac1, zac2, zac3, -, -, -, -⟩ := fr_cells F.1
       have Gac := Lib.hid F.2
       clear F
       have F := S40.out.bx _ (List.mem_of_getElem? (i := 1) rfl)
       dsimp only [frC] at F
       obtain ⟨zp0, zp1, zp2, zp3, -, -, -, -⟩ := fr_cells F.1
       have Gp := Lib.hid F.2
       clear F
       have M := Lib.hid (add_R (k := 24) ⟨s1_35, A1_35, n1_35, c1_35, s2_35, A2_35, n2_35, c2_35⟩ ⟨s1_24, A1_24, n1_24, c1_24, s2_24, A2_24, n2_24, c2_24⟩ Gac.out Gp.out (HT.out.on S40.out.bl) (by decide))
       (try dsimp only [frV] at M)
       go_wp2_with fail
       clear cz0 cz1 cz2 cz3 cz4 cz5 cz6 cz7
       refine M.out.mono ?_
       rintro e w41 ⟨⟨s1_41, A1_41, n1_41, c1_41, s2_41, A2_41, n2_41, c2_41⟩, rfl, -, -, hg, hf1, hf2, hb⟩
       have HG := Lib.hid hg
       have HF1 := Lib.hid hf1
       have HF2 := Lib.hid hf2
       have HB := Lib.hid hb
       clear hg hf1 hf2 hb M
       clear zac0 zac1 zac2 zac3 Gac zp0 zp1 zp2 zp3 Gp
       (try dsimp only [frV])
       have M := Lib.hid (right5_R ⟨s1_41, A1_41, n1_41, c1_41, s2_41, A2_41, n2_41, c2_41⟩ HG.out (HT.out.on (S40.out.call HB.out).bl) (by decide))
       (try dsimp only [frV] at M)
       go_wp2_with fail
       refine M.out.mono ?_
       rintro e w42 ⟨rfl, hb⟩
       have HG2 := Lib.hid (HG.out.past hb)
       have HB2 := Lib.hid (HB.out.trans (hb.mono HB.out.size))
       clear HG HB hb M
       have HG := HG2
       have HB := HB2
       clear HG2 HB2
       have cz := (S40.out.call HB.out).bx _ (List.mem_of_getElem? (i := 4) rfl)
       dsimp only [frC] at cz
       obtain ⟨cz0, cz1, cz2, cz3, cz4, cz5, cz6, cz7⟩ := fr_cells cz.1
       clear cz
       have S43 := Lib.hid (S40.out.put HB.out HG.out HF1.out HF2.out (i := 4) rfl)
       simp only [List.set_cons_zero, List.set_cons_succ] at S43
       clear HG HB HF1 HF2 S40
       go_upto_region 21 with (fail)
       clear cz0 cz1 cz2 cz3 cz4 cz5 cz6 cz7
       obtain ⟨w21_, hw⟩ : ∃ W, W = (((w42.setCell ⟨w14.heap.size, 0, none⟩ (.int .i64 s1_41)).setCell ⟨w14.heap.size, 1, none⟩ (.slice A1_41 n1_41 c1_41)).setCell ⟨w14.heap.size, 2, none⟩ (.int .i64 s2_41)).setCell ⟨w14.heap.size, 3, none⟩ (.slice A2_41 n2_41 c2_41) := ⟨_, rfl⟩
       rw [← hw] at S43 ⊢
       clear hw
       have F := S43.out.bx _ (List.mem_of_getElem? (i := 9) rfl)
       dsimp only [frC] at F
       obtain ⟨za0, za1, za2, za3, -, -, -, -⟩ := fr_cells F.1
       have Ga := Lib.hid F.2
       clear F
       go_cut [22, 15] (fun p1 p2 wc => p2 = .bool true ∧ ∃ b, p1 = .pointer (some ⟨b, 0, none⟩) ∧ Hid (OneF w21_ wc b (12 + 12 + 1) (xa + ratio 0 1)))
       case first => as_aux_lemma =>
         have HC := Lib.hid (fun (w' : World) (h : Below w21_.heap.size w21_ w') => (⟨(h.cell (p := ⟨w.heap.size, 0, none⟩) (World.block_lt_of_cell? _ _ za0)).trans za0, (h.cell (p := ⟨w.heap.size, 1, none⟩) (World.block_lt_of_cell? _ _ za1)).trans za1, (h.cell (p := ⟨w.heap.size, 2, none⟩) (World.block_lt_of_cell? _ _ za2)).trans za2, (h.cell (p := ⟨w.heap.size, 3, none⟩) (World.block_lt_of_cell? _ _ za3)).trans za3⟩ : w'.cell? ⟨w.heap.size, 0, none⟩ = some (.int .i64 s1a) ∧ w'.cell? ⟨w.heap.size, 1, none⟩ = some (.slice A1a n1a c1a) ∧ w'.cell? ⟨w.heap.size, 2, none⟩ = some (.int .i64 s2a) ∧ w'.cell? ⟨w.heap.size, 3, none⟩ = some (.slice A2a n2a c2a)))
         clear za0 za1 za2 za3
         have Bv21_0 := Lib.hid (Below.refl w21_.heap.size w21_).drew
         refine wp_region_held_drew (S := fun w' => Below w21_.heap.size w21_ w') (by kernel_rfl) Bv21_0.out (fun hHeld => ?_)
         obtain ⟨v21_w0, hw⟩ : ∃ W, W = w21_.drew := ⟨_, rfl⟩
         rw [← hw] at hHeld Bv21_0 ⊢
         clear hw
         refine take_at (i := 0) (v := ?v21_v1) rfl (by kernel_rfl) (by kernel_rfl) (by kernel_rfl) (fun _ _ _ h => h) (Or.inl ⟨by rfl, ?v21_y1⟩) (by assumption) ?v21_r1
         case v21_y1 => (intro w hSw; (try dsimp only at hSw); obtain ⟨cc0, cc1, cc2, cc3⟩ := HC.out _ hSw; go_simp; (try with_reducible rfl))
         simp only [Act.put, uA, uB, uC]
         refine wpAnyH_ready (rs := [1, 9]) (by kernel_rfl) (by simp) ?_
         refine cons_at (i := 1) rfl (fun K hK => ?_) ?_
         go_simp
         refine (lof5 0 1 v21_w0 (by decide) (by decide) (by decide) (by decide) (by decide) (HT.out.on (S43.out.call Bv21_0.out).bl)).mono ?_
         rintro e v21_w2 ⟨⟨spv21_1, Apv21_1, npv21_1, cpv21_1, sqv21_1, Aqv21_1, nqv21_1, cqv21_1⟩, rfl, hc1, hc2, hf, f1, f2, hb⟩
         try dsimp only [frV]
         try dsimp only
         have X2 := Lib.hid hb
         have FGv21_1_2 := Lib.hid hf
         have FAv21_1 : Hid (Fresh w21_ Apv21_1 npv21_1) := fun hp ad e => Nat.le_trans Bv21_0.out.size (f1 hp ad e)
         have FBv21_1 : Hid (Fresh w21_ Aqv21_1 nqv21_1) := fun hp ad e => Nat.le_trans Bv21_0.out.size (f2 hp ad e)
         have HCAv21_1 := Lib.hid hc1
         have HCBv21_1 := Lib.hid hc2
         have Bv21_3 := Lib.hid (Bv21_0.out.trans (X2.out.mono Bv21_0.out.size))
         refine hK.out _ _ ?_ (fun hHeld => ?_)
         · exact Bv21_3.out
         clear Bv21_0 X2 hc1 hc2 hf f1 f2 hb
         clear hK K
         (try simp only [Act.put, uA, uB, uC])
         refine wpAnyH_ready (rs := [2, 9]) (by kernel_rfl) (by simp) ?_
         refine cons_at (i := 2) rfl (fun K hK => ?_) ?_
         go_simp
         refine (add_R (k := 12) ⟨s1a, A1a, n1a, c1a, s2a, A2a, n2a, c2a⟩ ⟨spv21_1, Apv21_1, npv21_1, cpv21_1, sqv21_1, Aqv21_1, nqv21_1, cqv21_1⟩ (Ga.out.past Bv21_3.out) (FGv21_1_2.out.more (by decide)) (HT.out.on (S43.out.call Bv21_3.out).bl) (by decide)).mono ?_
         rintro e v21_w4 ⟨⟨spv21_2, Apv21_2, npv21_2, cpv21_2, sqv21_2, Aqv21_2, nqv21_2, cqv21_2⟩, rfl, hc1, hc2, hf, f1, f2, hb⟩
         try dsimp only [frV]
         try dsimp only
         have X4 := Lib.hid hb
         have FGv21_2_4 := Lib.hid hf
         have FAv21_2 : Hid (Fresh w21_ Apv21_2 npv21_2) := fun hp ad e => Nat.le_trans Bv21_3.out.size (f1 hp ad e)
         have FBv21_2 : Hid (Fresh w21_ Aqv21_2 nqv21_2) := fun hp ad e => Nat.le_trans Bv21_3.out.size (f2 hp ad e)
         have HCAv21_2 := Lib.hid hc1
         have HCBv21_2 := Lib.hid hc2
         have Bv21_5 := Lib.hid (Bv21_3.out.trans (X4.out.mono Bv21_3.out.size))
         have FGv21_1_5 := Lib.hid (FGv21_1_2.out.past X4.out)
         refine hK.out _ _ ?_ (fun hHeld => ?_)
         · exact Bv21_5.out
         clear Bv21_3 FGv21_1_2 X4 hc1 hc2 hf f1 f2 hb
         clear hK K
         (try simp only [Act.put, uA, uB, uC])
         refine take_at (i := 3) (v := ?v21_v6) rfl (by kernel_rfl) (by kernel_rfl) (by kernel_rfl) (fun _ _ _ h => h) (Or.inl ⟨by rfl, ?v21_y6⟩) (by assumption) ?v21_r6
         case v21_y6 => (intro w hSw; (try dsimp only at hSw); go_simp; (try with_reducible rfl))
         simp only [Act.put, uA, uB, uC]
         refine take_at (i := 4) (v := ?v21_v7) rfl (by kernel_rfl) (by kernel_rfl) (by kernel_rfl) (fun _ _ _ h => h) (Or.inl ⟨by rfl, ?v21_y7⟩) (by assumption) ?v21_r7
         case v21_y7 => (intro w hSw; (try dsimp only at hSw); go_simp; (try with_reducible rfl))
         simp only [Act.put, uA, uB, uC]
         refine wpAnyH_ready (rs := [5, 9]) (by kernel_rfl) (by simp) ?_
         refine cons_at (i := 5) rfl (fun K hK => ?_) ?_
         go_simp
         refine (right5_R ⟨spv21_2, Apv21_2, npv21_2, cpv21_2, sqv21_2, Aqv21_2, nqv21_2, cqv21_2⟩ FGv21_2_4.out (HT.out.on (S43.out.call Bv21_5.out).bl) (by decide)).mono ?_
         rintro e v21_w8 ⟨rfl, hb⟩
         try dsimp only
         try dsimp only [frV]
         have X8 := Lib.hid hb
         have Bv21_9 := Lib.hid (Bv21_5.out.trans (X8.out.mono Bv21_5.out.size))
         have FGv21_1_9 := Lib.hid (FGv21_1_5.out.past X8.out)
         have FGv21_2_9 := Lib.hid (FGv21_2_4.out.past X8.out)
         refine hK.out _ _ ?_ (fun hHeld => ?_)
         · exact Bv21_9.out
         clear Bv21_5 FGv21_1_5 FGv21_2_4 X8 hb
         clear hK K
         (try simp only [Act.put, uA, uB, uC])
         refine take_at (i := 6) (v := ?v21_v10) rfl (by kernel_rfl) (by kernel_rfl) (by kernel_rfl) (fun _ _ _ h => h) (Or.inl ⟨by rfl, ?v21_y10⟩) (by assumption) ?v21_r10
         case v21_y10 => (intro w hSw; (try dsimp only at hSw); go_simp; (try with_reducible rfl))
         simp only [Act.put, uA, uB, uC]
         refine take_at (i := 7) (v := ?v21_v11) rfl (by kernel_rfl) (by kernel_rfl) (by kernel_rfl) (fun _ _ _ h => h) (Or.inl ⟨by rfl, ?v21_y11⟩) (by assumption) ?v21_r11
         case v21_y11 => (intro w hSw; (try dsimp only at hSw); go_simp; (try with_reducible rfl))
         simp only [Act.put, uA, uB, uC]
         refine take_at (i := 8) (v := ?v21_v12) rfl (by kernel_rfl) (by kernel_rfl) (by kernel_rfl) (fun _ _ _ h => h) (Or.inl ⟨by rfl, ?v21_y12⟩) (by assumption) ?v21_r12
         case v21_y12 => (intro w hSw; (try dsimp only at hSw); go_simp; (try with_reducible rfl))
         simp only [Act.put, uA, uB, uC]
         refine wpAnyH_ready (rs := [9]) (by kernel_rfl) (by simp) ?_
         refine cons_at (i := 9) rfl (fun K hK => ?_) AllReadyH.nil
         go_simp
         obtain ⟨v21_w13, hw⟩ : ∃ W', W' = v21_w8.alloc (.cells #[.int .i64 0, .slice none 0 0, .int .i64 0, .slice none 0 0] 26) := ⟨_, rfl⟩
         obtain ⟨v21_b9_13, hb⟩ : ∃ b, b = v21_w8.heap.size := ⟨_, rfl⟩
         have X13 := Lib.hid (bal (Below.refl v21_w8.heap.size v21_w8) (o := .cells #[.int .i64 0, .slice none 0 0, .int .i64 0, .slice none 0 0] 26))
         have Kv21_v21_b9_130 := Lib.hid (Blk.new v21_w8 26 #[.int .i64 0, .slice none 0 0, .int .i64 0, .slice none 0 0])
         rw [← hw] at X13 Kv21_v21_b9_130
         rw [← hb] at Kv21_v21_b9_130
         rw [← hw, ← hb]
         have lov21_b9_13 : w21_.heap.size ≤ v21_b9_13 := by rw [hb]; exact Bv21_9.out.size
         have of1v21_b9_13 := Lib.hid (FGv21_1_9.out.off_new (g := v21_b9_13) (by rw [hb]; exact Nat.le_refl _))
         have of2v21_b9_13 := Lib.hid (FGv21_2_9.out.off_new (g := v21_b9_13) (by rw [hb]; exact Nat.le_refl _))
         have Bv21_14 := Lib.hid (Bv21_9.out.trans (X13.out.mono Bv21_9.out.size))
         have FGv21_1_14 := Lib.hid (FGv21_1_9.out.past X13.out)
         have FGv21_2_14 := Lib.hid (FGv21_2_9.out.past X13.out)
         refine hK.out _ _ ?_ (fun hHeld => ?_)
         · exact Bv21_14.out
         clear Bv21_9 FGv21_1_9 FGv21_2_9 X13 hw hb
         clear hK K
         (try simp only [Act.put, uA, uB, uC])
         refine wpAnyH_ready (rs := [10]) (by kernel_rfl) (by simp) ?_
         refine cons_at (i := 10) rfl (fun K hK => ?_) AllReadyH.nil
         obtain ⟨f0, f1, f2, f3, f4, f5, f6, f7⟩ := fr_cells Kv21_v21_b9_130.out
         go_simp
         clear f0 f1 f2 f3 f4 f5 f6 f7
         obtain ⟨v21_w15, hw⟩ : ∃ W', W' = (((v21_w13.setCell ⟨v21_b9_13, 0, none⟩ (.int .i64 spv21_2)).setCell ⟨v21_b9_13, 1, none⟩ (.slice Apv21_2 npv21_2 cpv21_2)).setCell ⟨v21_b9_13, 2, none⟩ (.int .i64 sqv21_2)).setCell ⟨v21_b9_13, 3, none⟩ (.slice Aqv21_2 nqv21_2 cqv21_2) := ⟨_, rfl⟩
         rw [← hw]
         have Bv21_15 := Lib.hid (below_4 Bv21_14.out lov21_b9_13 (u := .int .i64 spv21_2) (v := .slice Apv21_2 npv21_2 cpv21_2) (x := .int .i64 sqv21_2) (y := .slice Aqv21_2 nqv21_2 cqv21_2))
         rw [← hw] at Bv21_15
         have Kv21_v21_b9_13_15 := Lib.hid (Kv21_v21_b9_130.out.set4 (a := .int .i64 spv21_2) (b := .slice Apv21_2 npv21_2 cpv21_2) (c := .int .i64 sqv21_2) (d := .slice Aqv21_2 nqv21_2 cqv21_2))
         rw [← hw] at Kv21_v21_b9_13_15
         have FGv21_1_15 := Lib.hid (FGv21_1_14.out.far4 of1v21_b9_13.out (a := .int .i64 spv21_2) (b := .slice Apv21_2 npv21_2 cpv21_2) (c := .int .i64 sqv21_2) (d := .slice Aqv21_2 nqv21_2 cqv21_2))
         rw [← hw] at FGv21_1_15
         have FGv21_2_15 := Lib.hid (FGv21_2_14.out.far4 of2v21_b9_13.out (a := .int .i64 spv21_2) (b := .slice Apv21_2 npv21_2 cpv21_2) (c := .int .i64 sqv21_2) (d := .slice Aqv21_2 nqv21_2 cqv21_2))
         rw [← hw] at FGv21_2_15
         refine hK.out _ _ ?_ (fun hHeld => ?_)
         · exact Bv21_15.out
         clear Bv21_14 Kv21_v21_b9_130 FGv21_1_14 FGv21_2_14 hw
         clear hK K
         (try simp only [Act.put, uA, uB, uC])
         refine take_at (i := 11) (v := ?v21_v16) rfl (by kernel_rfl) (by kernel_rfl) (by kernel_rfl) (fun _ _ _ h => h) (Or.inl ⟨by rfl, ?v21_y16⟩) (by assumption) ?v21_r16
         case v21_y16 => (intro w hSw; (try dsimp only at hSw); go_simp; (try with_reducible rfl))
         simp only [Act.put, uA, uB, uC]
         refine wpAnyH_done (by kernel_rfl) ?_ _
         go_wp2_with fail
         go_meet
         exact ⟨rfl, v21_b9_13, rfl, (show OneF _ _ _ _ _ from ⟨⟨spv21_2, Apv21_2, npv21_2, cpv21_2, sqv21_2, Aqv21_2, nqv21_2, cqv21_2⟩, Kv21_v21_b9_13_15.out, lov21_b9_13, FGv21_2_15.out, FAv21_2.out, FBv21_2.out, of2v21_b9_13.out, Bv21_15.out⟩)⟩
         refine cons_at (i := 9) rfl (fun K hK => ?_) AllReadyH.nil
         go_simp
         obtain ⟨v21_w17, hw⟩ : ∃ W', W' = v21_w4.alloc (.cells #[.int .i64 0, .slice none 0 0, .int .i64 0, .slice none 0 0] 26) := ⟨_, rfl⟩
         obtain ⟨v21_b9_17, hb⟩ : ∃ b, b = v21_w4.heap.size := ⟨_, rfl⟩
         have X17 := Lib.hid (bal (Below.refl v21_w4.heap.size v21_w4) (o := .cells #[.int .i64 0, .slice none 0 0, .int .i64 0, .slice none 0 0] 26))
         have Kv21_v21_b9_170 := Lib.hid (Blk.new v21_w4 26 #[.int .i64 0, .slice none 0 0, .int .i64 0, .slice none 0 0])
         rw [← hw] at X17 Kv21_v21_b9_170
         rw [← hb] at Kv21_v21_b9_170
         rw [← hw, ← hb]
         have lov21_b9_17 : w21_.heap.size ≤ v21_b9_17 := by rw [hb]; exact Bv21_5.out.size
         have of1v21_b9_17 := Lib.hid (FGv21_1_5.out.off_new (g := v21_b9_17) (by rw [hb]; exact Nat.le_refl _))
         have of2v21_b9_17 := Lib.hid (FGv21_2_4.out.off_new (g := v21_b9_17) (by rw [hb]; exact Nat.le_refl _))
         have Bv21_18 := Lib.hid (Bv21_5.out.trans (X17.out.mono Bv21_5.out.size))
         have FGv21_1_18 := Lib.hid (FGv21_1_5.out.past X17.out)
         have FGv21_2_18 := Lib.hid (FGv21_2_4.out.past X17.out)
         refine hK.out _ _ ?_ (fun hHeld => ?_)
         · exact Bv21_18.out
         clear Bv21_5 FGv21_1_5 FGv21_2_4 X17 hw hb
         clear hK K
         (try simp only [Act.put, uA, uB, uC])
         refine wpAnyH_ready (rs := [5]) (by kernel_rfl) (by simp) ?_
         refine cons_at (i := 5) rfl (fun K hK => ?_) AllReadyH.nil
         go_simp
         refine (right5_R ⟨spv21_2, Apv21_2, npv21_2, cpv21_2, sqv21_2, Aqv21_2, nqv21_2, cqv21_2⟩ FGv21_2_18.out (HT.out.on (S43.out.call Bv21_18.out).bl) (by decide)).mono ?_
         rintro e v21_w19 ⟨rfl, hb⟩
         try dsimp only
         try dsimp only [frV]
         have X19 := Lib.hid hb
         have Bv21_20 := Lib.hid (Bv21_18.out.trans (X19.out.mono Bv21_18.out.size))
         have Kv21_v21_b9_1720 := Lib.hid (Kv21_v21_b9_170.out.below X19.out Kv21_v21_b9_170.out.lt)
         have FGv21_1_20 := Lib.hid (FGv21_1_18.out.past X19.out)
         have FGv21_2_20 := Lib.hid (FGv21_2_18.out.past X19.out)
         refine hK.out _ _ ?_ (fun hHeld => ?_)
         · exact Bv21_20.out
         clear Bv21_18 Kv21_v21_b9_170 FGv21_1_18 FGv21_2_18 X19 hb
         clear hK K
         (try simp only [Act.put, uA, uB, uC])
         refine take_at (i := 6) (v := ?v21_v21) rfl (by kernel_rfl) (by kernel_rfl) (by kernel_rfl) (fun _ _ _ h => h) (Or.inl ⟨by rfl, ?v21_y21⟩) (by assumption) ?v21_r21
         case v21_y21 => (intro w hSw; (try dsimp only at hSw); go_simp; (try with_reducible rfl))
         simp only [Act.put, uA, uB, uC]
         refine take_at (i := 7) (v := ?v21_v22) rfl (by kernel_rfl) (by kernel_rfl) (by kernel_rfl) (fun _ _ _ h => h) (Or.inl ⟨by rfl, ?v21_y22⟩) (by assumption) ?v21_r22
         case v21_y22 => (intro w hSw; (try dsimp only at hSw); go_simp; (try with_reducible rfl))
         simp only [Act.put, uA, uB, uC]
         refine take_at (i := 8) (v := ?v21_v23) rfl (by kernel_rfl) (by kernel_rfl) (by kernel_rfl) (fun _ _ _ h => h) (Or.inl ⟨by rfl, ?v21_y23⟩) (by assumption) ?v21_r23
         case v21_y23 => (intro w hSw; (try dsimp only at hSw); go_simp; (try with_reducible rfl))
         simp only [Act.put, uA, uB, uC]
         refine wpAnyH_ready (rs := [10]) (by kernel_rfl) (by simp) ?_
         refine cons_at (i := 10) rfl (fun K hK => ?_) AllReadyH.nil
         obtain ⟨f0, f1, f2, f3, f4, f5, f6, f7⟩ := fr_cells Kv21_v21_b9_1720.out
         go_simp
         clear f0 f1 f2 f3 f4 f5 f6 f7
         obtain ⟨v21_w24, hw⟩ : ∃ W', W' = (((v21_w19.setCell ⟨v21_b9_17, 0, none⟩ (.int .i64 spv21_2)).setCell ⟨v21_b9_17, 1, none⟩ (.slice Apv21_2 npv21_2 cpv21_2)).setCell ⟨v21_b9_17, 2, none⟩ (.int .i64 sqv21_2)).setCell ⟨v21_b9_17, 3, none⟩ (.slice Aqv21_2 nqv21_2 cqv21_2) := ⟨_, rfl⟩
         rw [← hw]
         have Bv21_24 := Lib.hid (below_4 Bv21_20.out lov21_b9_17 (u := .int .i64 spv21_2) (v := .slice Apv21_2 npv21_2 cpv21_2) (x := .int .i64 sqv21_2) (y := .slice Aqv21_2 nqv21_2 cqv21_2))
         rw [← hw] at Bv21_24
         have Kv21_v21_b9_17_24 := Lib.hid (Kv21_v21_b9_1720.out.set4 (a := .int .i64 spv21_2) (b := .slice Apv21_2 npv21_2 cpv21_2) (c := .int .i64 sqv21_2) (d := .slice Aqv21_2 nqv21_2 cqv21_2))
         rw [← hw] at Kv21_v21_b9_17_24
         have FGv21_1_24 := Lib.hid (FGv21_1_20.out.far4 of1v21_b9_17.out (a := .int .i64 spv21_2) (b := .slice Apv21_2 npv21_2 cpv21_2) (c := .int .i64 sqv21_2) (d := .slice Aqv21_2 nqv21_2 cqv21_2))
         rw [← hw] at FGv21_1_24
         have FGv21_2_24 := Lib.hid (FGv21_2_20.out.far4 of2v21_b9_17.out (a := .int .i64 spv21_2) (b := .slice Apv21_2 npv21_2 cpv21_2) (c := .int .i64 sqv21_2) (d := .slice Aqv21_2 nqv21_2 cqv21_2))
         rw [← hw] at FGv21_2_24
         refine hK.out _ _ ?_ (fun hHeld => ?_)
         · exact Bv21_24.out
         clear Bv21_20 Kv21_v21_b9_1720 FGv21_1_20 FGv21_2_20 hw
         clear hK K
         (try simp only [Act.put, uA, uB, uC])
         refine take_at (i := 11) (v := ?v21_v25) rfl (by kernel_rfl) (by kernel_rfl) (by kernel_rfl) (fun _ _ _ h => h) (Or.inl ⟨by rfl, ?v21_y25⟩) (by assumption) ?v21_r25
         case v21_y25 => (intro w hSw; (try dsimp only at hSw); go_simp; (try with_reducible rfl))
         simp only [Act.put, uA, uB, uC]
         refine wpAnyH_done (by kernel_rfl) ?_ _
         go_wp2_with fail
         go_meet
         exact ⟨rfl, v21_b9_17, rfl, (show OneF _ _ _ _ _ from ⟨⟨spv21_2, Apv21_2, npv21_2, cpv21_2, sqv21_2, Aqv21_2, nqv21_2, cqv21_2⟩, Kv21_v21_b9_17_24.out, lov21_b9_17, FGv21_2_24.out, FAv21_2.out, FBv21_2.out, of2v21_b9_17.out, Bv21_24.out⟩)⟩
         refine cons_at (i := 9) rfl (fun K hK => ?_) AllReadyH.nil
         go_simp
         obtain ⟨v21_w26, hw⟩ : ∃ W', W' = v21_w2.alloc (.cells #[.int .i64 0, .slice none 0 0, .int .i64 0, .slice none 0 0] 26) := ⟨_, rfl⟩
         obtain ⟨v21_b9_26, hb⟩ : ∃ b, b = v21_w2.heap.size := ⟨_, rfl⟩
         have X26 := Lib.hid (bal (Below.refl v21_w2.heap.size v21_w2) (o := .cells #[.int .i64 0, .slice none 0 0, .int .i64 0, .slice none 0 0] 26))
         have Kv21_v21_b9_260 := Lib.hid (Blk.new v21_w2 26 #[.int .i64 0, .slice none 0 0, .int .i64 0, .slice none 0 0])
         rw [← hw] at X26 Kv21_v21_b9_260
         rw [← hb] at Kv21_v21_b9_260
         rw [← hw, ← hb]
         have lov21_b9_26 : w21_.heap.size ≤ v21_b9_26 := by rw [hb]; exact Bv21_3.out.size
         have of1v21_b9_26 := Lib.hid (FGv21_1_2.out.off_new (g := v21_b9_26) (by rw [hb]; exact Nat.le_refl _))
         have Bv21_27 := Lib.hid (Bv21_3.out.trans (X26.out.mono Bv21_3.out.size))
         have FGv21_1_27 := Lib.hid (FGv21_1_2.out.past X26.out)
         refine hK.out _ _ ?_ (fun hHeld => ?_)
         · exact Bv21_27.out
         clear Bv21_3 FGv21_1_2 X26 hw hb
         clear hK K
         (try simp only [Act.put, uA, uB, uC])
         refine wpAnyH_ready (rs := [2]) (by kernel_rfl) (by simp) ?_
         refine cons_at (i := 2) rfl (fun K hK => ?_) AllReadyH.nil
         go_simp
         refine (add_R (k := 12) ⟨s1a, A1a, n1a, c1a, s2a, A2a, n2a, c2a⟩ ⟨spv21_1, Apv21_1, npv21_1, cpv21_1, sqv21_1, Aqv21_1, nqv21_1, cqv21_1⟩ (Ga.out.past Bv21_27.out) (FGv21_1_27.out.more (by decide)) (HT.out.on (S43.out.call Bv21_27.out).bl) (by decide)).mono ?_
         rintro e v21_w28 ⟨⟨spv21_2, Apv21_2, npv21_2, cpv21_2, sqv21_2, Aqv21_2, nqv21_2, cqv21_2⟩, rfl, hc1, hc2, hf, f1, f2, hb⟩
         try dsimp only [frV]
         try dsimp only
         have X28 := Lib.hid hb
         have FGv21_2_28 := Lib.hid hf
         have FAv21_2 : Hid (Fresh w21_ Apv21_2 npv21_2) := fun hp ad e => Nat.le_trans Bv21_27.out.size (f1 hp ad e)
         have FBv21_2 : Hid (Fresh w21_ Aqv21_2 nqv21_2) := fun hp ad e => Nat.le_trans Bv21_27.out.size (f2 hp ad e)
         have HCAv21_2 := Lib.hid hc1
         have HCBv21_2 := Lib.hid hc2
         have of2v21_b9_26 := Lib.hid (off_old f1 f2 Kv21_v21_b9_260.out.lt)
         have Bv21_29 := Lib.hid (Bv21_27.out.trans (X28.out.mono Bv21_27.out.size))
         have Kv21_v21_b9_2629 := Lib.hid (Kv21_v21_b9_260.out.below X28.out Kv21_v21_b9_260.out.lt)
         have FGv21_1_29 := Lib.hid (FGv21_1_27.out.past X28.out)
         refine hK.out _ _ ?_ (fun hHeld => ?_)
         · exact Bv21_29.out
         clear Bv21_27 Kv21_v21_b9_260 FGv21_1_27 X28 hc1 hc2 hf f1 f2 hb
         clear hK K
         (try simp only [Act.put, uA, uB, uC])
         refine take_at (i := 3) (v := ?v21_v30) rfl (by kernel_rfl) (by kernel_rfl) (by kernel_rfl) (fun _ _ _ h => h) (Or.inl ⟨by rfl, ?v21_y30⟩) (by assumption) ?v21_r30
         case v21_y30 => (intro w hSw; (try dsimp only at hSw); go_simp; (try with_reducible rfl))
         simp only [Act.put, uA, uB, uC]
         refine take_at (i := 4) (v := ?v21_v31) rfl (by kernel_rfl) (by kernel_rfl) (by kernel_rfl) (fun _ _ _ h => h) (Or.inl ⟨by rfl, ?v21_y31⟩) (by assumption) ?v21_r31
         case v21_y31 => (intro w hSw; (try dsimp only at hSw); go_simp; (try with_reducible rfl))
         simp only [Act.put, uA, uB, uC]
         refine wpAnyH_ready (rs := [5]) (by kernel_rfl) (by simp) ?_
         refine cons_at (i := 5) rfl (fun K hK => ?_) AllReadyH.nil
         go_simp
         refine (right5_R ⟨spv21_2, Apv21_2, npv21_2, cpv21_2, sqv21_2, Aqv21_2, nqv21_2, cqv21_2⟩ FGv21_2_28.out (HT.out.on (S43.out.call Bv21_29.out).bl) (by decide)).mono ?_
         rintro e v21_w32 ⟨rfl, hb⟩
         try dsimp only
         try dsimp only [frV]
         have X32 := Lib.hid hb
         have Bv21_33 := Lib.hid (Bv21_29.out.trans (X32.out.mono Bv21_29.out.size))
         have Kv21_v21_b9_2633 := Lib.hid (Kv21_v21_b9_2629.out.below X32.out Kv21_v21_b9_2629.out.lt)
         have FGv21_1_33 := Lib.hid (FGv21_1_29.out.past X32.out)
         have FGv21_2_33 := Lib.hid (FGv21_2_28.out.past X32.out)
         refine hK.out _ _ ?_ (fun hHeld => ?_)
         · exact Bv21_33.out
         clear Bv21_29 Kv21_v21_b9_2629 FGv21_1_29 FGv21_2_28 X32 hb
         clear hK K
         (try simp only [Act.put, uA, uB, uC])
         refine take_at (i := 6) (v := ?v21_v34) rfl (by kernel_rfl) (by kernel_rfl) (by kernel_rfl) (fun _ _ _ h => h) (Or.inl ⟨by rfl, ?v21_y34⟩) (by assumption) ?v21_r34
         case v21_y34 => (intro w hSw; (try dsimp only at hSw); go_simp; (try with_reducible rfl))
         simp only [Act.put, uA, uB, uC]
         refine take_at (i := 7) (v := ?v21_v35) rfl (by kernel_rfl) (by kernel_rfl) (by kernel_rfl) (fun _ _ _ h => h) (Or.inl ⟨by rfl, ?v21_y35⟩) (by assumption) ?v21_r35
         case v21_y35 => (intro w hSw; (try dsimp only at hSw); go_simp; (try with_reducible rfl))
         simp only [Act.put, uA, uB, uC]
         refine take_at (i := 8) (v := ?v21_v36) rfl (by kernel_rfl) (by kernel_rfl) (by kernel_rfl) (fun _ _ _ h => h) (Or.inl ⟨by rfl, ?v21_y36⟩) (by assumption) ?v21_r36
         case v21_y36 => (intro w hSw; (try dsimp only at hSw); go_simp; (try with_reducible rfl))
         simp only [Act.put, uA, uB, uC]
         refine wpAnyH_ready (rs := [10]) (by kernel_rfl) (by simp) ?_
         refine cons_at (i := 10) rfl (fun K hK => ?_) AllReadyH.nil
         obtain ⟨f0, f1, f2, f3, f4, f5, f6, f7⟩ := fr_cells Kv21_v21_b9_2633.out
         go_simp
         clear f0 f1 f2 f3 f4 f5 f6 f7
         obtain ⟨v21_w37, hw⟩ : ∃ W', W' = (((v21_w32.setCell ⟨v21_b9_26, 0, none⟩ (.int .i64 spv21_2)).setCell ⟨v21_b9_26, 1, none⟩ (.slice Apv21_2 npv21_2 cpv21_2)).setCell ⟨v21_b9_26, 2, none⟩ (.int .i64 sqv21_2)).setCell ⟨v21_b9_26, 3, none⟩ (.slice Aqv21_2 nqv21_2 cqv21_2) := ⟨_, rfl⟩
         rw [← hw]
         have Bv21_37 := Lib.hid (below_4 Bv21_33.out lov21_b9_26 (u := .int .i64 spv21_2) (v := .slice Apv21_2 npv21_2 cpv21_2) (x := .int .i64 sqv21_2) (y := .slice Aqv21_2 nqv21_2 cqv21_2))
         rw [← hw] at Bv21_37
         have Kv21_v21_b9_26_37 := Lib.hid (Kv21_v21_b9_2633.out.set4 (a := .int .i64 spv21_2) (b := .slice Apv21_2 npv21_2 cpv21_2) (c := .int .i64 sqv21_2) (d := .slice Aqv21_2 nqv21_2 cqv21_2))
         rw [← hw] at Kv21_v21_b9_26_37
         have FGv21_1_37 := Lib.hid (FGv21_1_33.out.far4 of1v21_b9_26.out (a := .int .i64 spv21_2) (b := .slice Apv21_2 npv21_2 cpv21_2) (c := .int .i64 sqv21_2) (d := .slice Aqv21_2 nqv21_2 cqv21_2))
         rw [← hw] at FGv21_1_37
         have FGv21_2_37 := Lib.hid (FGv21_2_33.out.far4 of2v21_b9_26.out (a := .int .i64 spv21_2) (b := .slice Apv21_2 npv21_2 cpv21_2) (c := .int .i64 sqv21_2) (d := .slice Aqv21_2 nqv21_2 cqv21_2))
         rw [← hw] at FGv21_2_37
         refine hK.out _ _ ?_ (fun hHeld => ?_)
         · exact Bv21_37.out
         clear Bv21_33 Kv21_v21_b9_2633 FGv21_1_33 FGv21_2_33 hw
         clear hK K
         (try simp only [Act.put, uA, uB, uC])
         refine take_at (i := 11) (v := ?v21_v38) rfl (by kernel_rfl) (by kernel_rfl) (by kernel_rfl) (fun _ _ _ h => h) (Or.inl ⟨by rfl, ?v21_y38⟩) (by assumption) ?v21_r38
         case v21_y38 => (intro w hSw; (try dsimp only at hSw); go_simp; (try with_reducible rfl))
         simp only [Act.put, uA, uB, uC]
         refine wpAnyH_done (by kernel_rfl) ?_ _
         go_wp2_with fail
         go_meet
         exact ⟨rfl, v21_b9_26, rfl, (show OneF _ _ _ _ _ from ⟨⟨spv21_2, Apv21_2, npv21_2, cpv21_2, sqv21_2, Aqv21_2, nqv21_2, cqv21_2⟩, Kv21_v21_b9_26_37.out, lov21_b9_26, FGv21_2_37.out, FAv21_2.out, FBv21_2.out, of2v21_b9_26.out, Bv21_37.out⟩)⟩
         refine cons_at (i := 9) rfl (fun K hK => ?_) AllReadyH.nil
         go_simp
         obtain ⟨v21_w39, hw⟩ : ∃ W', W' = v21_w0.alloc (.cells #[.int .i64 0, .slice none 0 0, .int .i64 0, .slice none 0 0] 26) := ⟨_, rfl⟩
         obtain ⟨v21_b9_39, hb⟩ : ∃ b, b = v21_w0.heap.size := ⟨_, rfl⟩
         have X39 := Lib.hid (bal (Below.refl v21_w0.heap.size v21_w0) (o := .cells #[.int .i64 0, .slice none 0 0, .int .i64 0, .slice none 0 0] 26))
         have Kv21_v21_b9_390 := Lib.hid (Blk.new v21_w0 26 #[.int .i64 0, .slice none 0 0, .int .i64 0, .slice none 0 0])
         rw [← hw] at X39 Kv21_v21_b9_390
         rw [← hb] at Kv21_v21_b9_390
         rw [← hw, ← hb]
         have lov21_b9_39 : w21_.heap.size ≤ v21_b9_39 := by rw [hb]; exact Bv21_0.out.size
         have Bv21_40 := Lib.hid (Bv21_0.out.trans (X39.out.mono Bv21_0.out.size))
         refine hK.out _ _ ?_ (fun hHeld => ?_)
         · exact Bv21_40.out
         clear Bv21_0 X39 hw hb
         clear hK K
         (try simp only [Act.put, uA, uB, uC])
         refine wpAnyH_ready (rs := [1]) (by kernel_rfl) (by simp) ?_
         refine cons_at (i := 1) rfl (fun K hK => ?_) AllReadyH.nil
         go_simp
         refine (lof5 0 1 v21_w39 (by decide) (by decide) (by decide) (by decide) (by decide) (HT.out.on (S43.out.call Bv21_40.out).bl)).mono ?_
         rintro e v21_w41 ⟨⟨spv21_1, Apv21_1, npv21_1, cpv21_1, sqv21_1, Aqv21_1, nqv21_1, cqv21_1⟩, rfl, hc1, hc2, hf, f1, f2, hb⟩
         try dsimp only [frV]
         try dsimp only
         have X41 := Lib.hid hb
         have FGv21_1_41 := Lib.hid hf
         have FAv21_1 : Hid (Fresh w21_ Apv21_1 npv21_1) := fun hp ad e => Nat.le_trans Bv21_40.out.size (f1 hp ad e)
         have FBv21_1 : Hid (Fresh w21_ Aqv21_1 nqv21_1) := fun hp ad e => Nat.le_trans Bv21_40.out.size (f2 hp ad e)
         have HCAv21_1 := Lib.hid hc1
         have HCBv21_1 := Lib.hid hc2
         have of1v21_b9_39 := Lib.hid (off_old f1 f2 Kv21_v21_b9_390.out.lt)
         have Bv21_42 := Lib.hid (Bv21_40.out.trans (X41.out.mono Bv21_40.out.size))
         have Kv21_v21_b9_3942 := Lib.hid (Kv21_v21_b9_390.out.below X41.out Kv21_v21_b9_390.out.lt)
         refine hK.out _ _ ?_ (fun hHeld => ?_)
         · exact Bv21_42.out
         clear Bv21_40 Kv21_v21_b9_390 X41 hc1 hc2 hf f1 f2 hb
         clear hK K
         (try simp only [Act.put, uA, uB, uC])
         refine wpAnyH_ready (rs := [2]) (by kernel_rfl) (by simp) ?_
         refine cons_at (i := 2) rfl (fun K hK => ?_) AllReadyH.nil
         go_simp
         refine (add_R (k := 12) ⟨s1a, A1a, n1a, c1a, s2a, A2a, n2a, c2a⟩ ⟨spv21_1, Apv21_1, npv21_1, cpv21_1, sqv21_1, Aqv21_1, nqv21_1, cqv21_1⟩ (Ga.out.past Bv21_42.out) (FGv21_1_41.out.more (by decide)) (HT.out.on (S43.out.call Bv21_42.out).bl) (by decide)).mono ?_
         rintro e v21_w43 ⟨⟨spv21_2, Apv21_2, npv21_2, cpv21_2, sqv21_2, Aqv21_2, nqv21_2, cqv21_2⟩, rfl, hc1, hc2, hf, f1, f2, hb⟩
         try dsimp only [frV]
         try dsimp only
         have X43 := Lib.hid hb
         have FGv21_2_43 := Lib.hid hf
         have FAv21_2 : Hid (Fresh w21_ Apv21_2 npv21_2) := fun hp ad e => Nat.le_trans Bv21_42.out.size (f1 hp ad e)
         have FBv21_2 : Hid (Fresh w21_ Aqv21_2 nqv21_2) := fun hp ad e => Nat.le_trans Bv21_42.out.size (f2 hp ad e)
         have HCAv21_2 := Lib.hid hc1
         have HCBv21_2 := Lib.hid hc2
         have of2v21_b9_39 := Lib.hid (off_old f1 f2 Kv21_v21_b9_3942.out.lt)
         have Bv21_44 := Lib.hid (Bv21_42.out.trans (X43.out.mono Bv21_42.out.size))
         have Kv21_v21_b9_3944 := Lib.hid (Kv21_v21_b9_3942.out.below X43.out Kv21_v21_b9_3942.out.lt)
         have FGv21_1_44 := Lib.hid (FGv21_1_41.out.past X43.out)
         refine hK.out _ _ ?_ (fun hHeld => ?_)
         · exact Bv21_44.out
         clear Bv21_42 Kv21_v21_b9_3942 FGv21_1_41 X43 hc1 hc2 hf f1 f2 hb
         clear hK K
         (try simp only [Act.put, uA, uB, uC])
         refine take_at (i := 3) (v := ?v21_v45) rfl (by kernel_rfl) (by kernel_rfl) (by kernel_rfl) (fun _ _ _ h => h) (Or.inl ⟨by rfl, ?v21_y45⟩) (by assumption) ?v21_r45
         case v21_y45 => (intro w hSw; (try dsimp only at hSw); go_simp; (try with_reducible rfl))
         simp only [Act.put, uA, uB, uC]
         refine take_at (i := 4) (v := ?v21_v46) rfl (by kernel_rfl) (by kernel_rfl) (by kernel_rfl) (fun _ _ _ h => h) (Or.inl ⟨by rfl, ?v21_y46⟩) (by assumption) ?v21_r46
         case v21_y46 => (intro w hSw; (try dsimp only at hSw); go_simp; (try with_reducible rfl))
         simp only [Act.put, uA, uB, uC]
         refine wpAnyH_ready (rs := [5]) (by kernel_rfl) (by simp) ?_
         refine cons_at (i := 5) rfl (fun K hK => ?_) AllReadyH.nil
         go_simp
         refine (right5_R ⟨spv21_2, Apv21_2, npv21_2, cpv21_2, sqv21_2, Aqv21_2, nqv21_2, cqv21_2⟩ FGv21_2_43.out (HT.out.on (S43.out.call Bv21_44.out).bl) (by decide)).mono ?_
         rintro e v21_w47 ⟨rfl, hb⟩
         try dsimp only
         try dsimp only [frV]
         have X47 := Lib.hid hb
         have Bv21_48 := Lib.hid (Bv21_44.out.trans (X47.out.mono Bv21_44.out.size))
         have Kv21_v21_b9_3948 := Lib.hid (Kv21_v21_b9_3944.out.below X47.out Kv21_v21_b9_3944.out.lt)
         have FGv21_1_48 := Lib.hid (FGv21_1_44.out.past X47.out)
         have FGv21_2_48 := Lib.hid (FGv21_2_43.out.past X47.out)
         refine hK.out _ _ ?_ (fun hHeld => ?_)
         · exact Bv21_48.out
         clear Bv21_44 Kv21_v21_b9_3944 FGv21_1_44 FGv21_2_43 X47 hb
         clear hK K
         (try simp only [Act.put, uA, uB, uC])
         refine take_at (i := 6) (v := ?v21_v49) rfl (by kernel_rfl) (by kernel_rfl) (by kernel_rfl) (fun _ _ _ h => h) (Or.inl ⟨by rfl, ?v21_y49⟩) (by assumption) ?v21_r49
         case v21_y49 => (intro w hSw; (try dsimp only at hSw); go_simp; (try with_reducible rfl))
         simp only [Act.put, uA, uB, uC]
         refine take_at (i := 7) (v := ?v21_v50) rfl (by kernel_rfl) (by kernel_rfl) (by kernel_rfl) (fun _ _ _ h => h) (Or.inl ⟨by rfl, ?v21_y50⟩) (by assumption) ?v21_r50
         case v21_y50 => (intro w hSw; (try dsimp only at hSw); go_simp; (try with_reducible rfl))
         simp only [Act.put, uA, uB, uC]
         refine take_at (i := 8) (v := ?v21_v51) rfl (by kernel_rfl) (by kernel_rfl) (by kernel_rfl) (fun _ _ _ h => h) (Or.inl ⟨by rfl, ?v21_y51⟩) (by assumption) ?v21_r51
         case v21_y51 => (intro w hSw; (try dsimp only at hSw); go_simp; (try with_reducible rfl))
         simp only [Act.put, uA, uB, uC]
         refine wpAnyH_ready (rs := [10]) (by kernel_rfl) (by simp) ?_
         refine cons_at (i := 10) rfl (fun K hK => ?_) AllReadyH.nil
         obtain ⟨f0, f1, f2, f3, f4, f5, f6, f7⟩ := fr_cells Kv21_v21_b9_3948.out
         go_simp
         clear f0 f1 f2 f3 f4 f5 f6 f7
         obtain ⟨v21_w52, hw⟩ : ∃ W', W' = (((v21_w47.setCell ⟨v21_b9_39, 0, none⟩ (.int .i64 spv21_2)).setCell ⟨v21_b9_39, 1, none⟩ (.slice Apv21_2 npv21_2 cpv21_2)).setCell ⟨v21_b9_39, 2, none⟩ (.int .i64 sqv21_2)).setCell ⟨v21_b9_39, 3, none⟩ (.slice Aqv21_2 nqv21_2 cqv21_2) := ⟨_, rfl⟩
         rw [← hw]
         have Bv21_52 := Lib.hid (below_4 Bv21_48.out lov21_b9_39 (u := .int .i64 spv21_2) (v := .slice Apv21_2 npv21_2 cpv21_2) (x := .int .i64 sqv21_2) (y := .slice Aqv21_2 nqv21_2 cqv21_2))
         rw [← hw] at Bv21_52
         have Kv21_v21_b9_39_52 := Lib.hid (Kv21_v21_b9_3948.out.set4 (a := .int .i64 spv21_2) (b := .slice Apv21_2 npv21_2 cpv21_2) (c := .int .i64 sqv21_2) (d := .slice Aqv21_2 nqv21_2 cqv21_2))
         rw [← hw] at Kv21_v21_b9_39_52
         have FGv21_1_52 := Lib.hid (FGv21_1_48.out.far4 of1v21_b9_39.out (a := .int .i64 spv21_2) (b := .slice Apv21_2 npv21_2 cpv21_2) (c := .int .i64 sqv21_2) (d := .slice Aqv21_2 nqv21_2 cqv21_2))
         rw [← hw] at FGv21_1_52
         have FGv21_2_52 := Lib.hid (FGv21_2_48.out.far4 of2v21_b9_39.out (a := .int .i64 spv21_2) (b := .slice Apv21_2 npv21_2 cpv21_2) (c := .int .i64 sqv21_2) (d := .slice Aqv21_2 nqv21_2 cqv21_2))
         rw [← hw] at FGv21_2_52
         refine hK.out _ _ ?_ (fun hHeld => ?_)
         · exact Bv21_52.out
         clear Bv21_48 Kv21_v21_b9_3948 FGv21_1_48 FGv21_2_48 hw
         clear hK K
         (try simp only [Act.put, uA, uB, uC])
         refine take_at (i := 11) (v := ?v21_v53) rfl (by kernel_rfl) (by kernel_rfl) (by kernel_rfl) (fun _ _ _ h => h) (Or.inl ⟨by rfl, ?v21_y53⟩) (by assumption) ?v21_r53
         case v21_y53 => (intro w hSw; (try dsimp only at hSw); go_simp; (try with_reducible rfl))
         simp only [Act.put, uA, uB, uC]
         refine wpAnyH_done (by kernel_rfl) ?_ _
         go_wp2_with fail
         go_meet
         exact ⟨rfl, v21_b9_39, rfl, (show OneF _ _ _ _ _ from ⟨⟨spv21_2, Apv21_2, npv21_2, cpv21_2, sqv21_2, Aqv21_2, nqv21_2, cqv21_2⟩, Kv21_v21_b9_39_52.out, lov21_b9_39, FGv21_2_52.out, FAv21_2.out, FBv21_2.out, of2v21_b9_39.out, Bv21_52.out⟩)⟩
       case rest => as_aux_lemma =>
        obtain ⟨rfl, b21_, rfl, HX⟩ := hcut
        obtain ⟨w44, rfl⟩ : ∃ W : World, W = wc := ⟨_, rfl⟩
        obtain ⟨⟨s1_21_, A1_21_, n1_21_, c1_21_, s2_21_, A2_21_, n2_21_, c2_21_⟩, hk, hlo, hg, f1, f2, ho, hb⟩ := HX.out
        have S44 := Lib.hid (S43.out.add hb hk hlo ho hg f1 f2)
        clear HX hk hlo hg f1 f2 ho hb S43
        clear za0 za1 za2 za3 Ga
        go_upto_region 22 with (fail)
        obtain ⟨w22_, hw⟩ : ∃ W, W = w44 := ⟨_, rfl⟩
        rw [← hw] at S44 ⊢
        clear hw
        have F := S44.out.bx _ (List.mem_of_getElem? (i := 10) rfl)
        dsimp only [frC] at F
        obtain ⟨za0, za1, za2, za3, -, -, -, -⟩ := fr_cells F.1
        have Ga := Lib.hid F.2
        clear F
        go_cut [23, 17] (fun p1 p2 wc => p2 = .bool true ∧ ∃ b, p1 = .pointer (some ⟨b, 0, none⟩) ∧ Hid (OneF w22_ wc b (12 + 12) (xa * ratio 1 1)))
        case first => as_aux_lemma =>
          have HC := Lib.hid (fun (w' : World) (h : Below w22_.heap.size w22_ w') => (⟨(h.cell (p := ⟨w.heap.size, 0, none⟩) (World.block_lt_of_cell? _ _ za0)).trans za0, (h.cell (p := ⟨w.heap.size, 1, none⟩) (World.block_lt_of_cell? _ _ za1)).trans za1, (h.cell (p := ⟨w.heap.size, 2, none⟩) (World.block_lt_of_cell? _ _ za2)).trans za2, (h.cell (p := ⟨w.heap.size, 3, none⟩) (World.block_lt_of_cell? _ _ za3)).trans za3⟩ : w'.cell? ⟨w.heap.size, 0, none⟩ = some (.int .i64 s1a) ∧ w'.cell? ⟨w.heap.size, 1, none⟩ = some (.slice A1a n1a c1a) ∧ w'.cell? ⟨w.heap.size, 2, none⟩ = some (.int .i64 s2a) ∧ w'.cell? ⟨w.heap.size, 3, none⟩ = some (.slice A2a n2a c2a)))
          clear za0 za1 za2 za3
          have Bv22_0 := Lib.hid (Below.refl w22_.heap.size w22_).drew
          refine wp_region_held_drew (S := fun w' => Below w22_.heap.size w22_ w') (by kernel_rfl) Bv22_0.out (fun hHeld => ?_)
          obtain ⟨v22_w0, hw⟩ : ∃ W, W = w22_.drew := ⟨_, rfl⟩
          rw [← hw] at hHeld Bv22_0 ⊢
          clear hw
          refine take_at (i := 0) (v := ?v22_v1) rfl (by kernel_rfl) (by kernel_rfl) (by kernel_rfl) (fun _ _ _ h => h) (Or.inl ⟨by rfl, ?v22_y1⟩) (by assumption) ?v22_r1
          case v22_y1 => (intro w hSw; (try dsimp only at hSw); obtain ⟨cc0, cc1, cc2, cc3⟩ := HC.out _ hSw; go_simp; (try with_reducible rfl))
          simp only [Act.put, uA, uB, uC]
          refine wpAnyH_ready (rs := [1, 9]) (by kernel_rfl) (by simp) ?_
          refine cons_at (i := 1) rfl (fun K hK => ?_) ?_
          go_simp
          refine (lof5 1 1 v22_w0 (by decide) (by decide) (by decide) (by decide) (by decide) (HT.out.on (S44.out.call Bv22_0.out).bl)).mono ?_
          rintro e v22_w2 ⟨⟨spv22_1, Apv22_1, npv22_1, cpv22_1, sqv22_1, Aqv22_1, nqv22_1, cqv22_1⟩, rfl, hc1, hc2, hf, f1, f2, hb⟩
          try dsimp only [frV]
          try dsimp only
          have X2 := Lib.hid hb
          have FGv22_1_2 := Lib.hid hf
          have FAv22_1 : Hid (Fresh w22_ Apv22_1 npv22_1) := fun hp ad e => Nat.le_trans Bv22_0.out.size (f1 hp ad e)
          have FBv22_1 : Hid (Fresh w22_ Aqv22_1 nqv22_1) := fun hp ad e => Nat.le_trans Bv22_0.out.size (f2 hp ad e)
          have HCAv22_1 := Lib.hid hc1
          have HCBv22_1 := Lib.hid hc2
          have Bv22_3 := Lib.hid (Bv22_0.out.trans (X2.out.mono Bv22_0.out.size))
          refine hK.out _ _ ?_ (fun hHeld => ?_)
          · exact Bv22_3.out
          clear Bv22_0 X2 hc1 hc2 hf f1 f2 hb
          clear hK K
          (try simp only [Act.put, uA, uB, uC])
          refine wpAnyH_ready (rs := [2, 9]) (by kernel_rfl) (by simp) ?_
          refine cons_at (i := 2) rfl (fun K hK => ?_) ?_
          go_simp
          refine (mul_R (k := 12) ⟨s1a, A1a, n1a, c1a, s2a, A2a, n2a, c2a⟩ ⟨spv22_1, Apv22_1, npv22_1, cpv22_1, sqv22_1, Aqv22_1, nqv22_1, cqv22_1⟩ (Ga.out.past Bv22_3.out) (FGv22_1_2.out.more (by decide)) (HT.out.on (S44.out.call Bv22_3.out).bl) (by decide)).mono ?_
          rintro e v22_w4 ⟨⟨spv22_2, Apv22_2, npv22_2, cpv22_2, sqv22_2, Aqv22_2, nqv22_2, cqv22_2⟩, rfl, hc1, hc2, hf, f1, f2, hb⟩
          try dsimp only [frV]
          try dsimp only
          have X4 := Lib.hid hb
          have FGv22_2_4 := Lib.hid hf
          have FAv22_2 : Hid (Fresh w22_ Apv22_2 npv22_2) := fun hp ad e => Nat.le_trans Bv22_3.out.size (f1 hp ad e)
          have FBv22_2 : Hid (Fresh w22_ Aqv22_2 nqv22_2) := fun hp ad e => Nat.le_trans Bv22_3.out.size (f2 hp ad e)
          have HCAv22_2 := Lib.hid hc1
          have HCBv22_2 := Lib.hid hc2
          have Bv22_5 := Lib.hid (Bv22_3.out.trans (X4.out.mono Bv22_3.out.size))
          have FGv22_1_5 := Lib.hid (FGv22_1_2.out.past X4.out)
          refine hK.out _ _ ?_ (fun hHeld => ?_)
          · exact Bv22_5.out
          clear Bv22_3 FGv22_1_2 X4 hc1 hc2 hf f1 f2 hb
          clear hK K
          (try simp only [Act.put, uA, uB, uC])
          refine take_at (i := 3) (v := ?v22_v6) rfl (by kernel_rfl) (by kernel_rfl) (by kernel_rfl) (fun _ _ _ h => h) (Or.inl ⟨by rfl, ?v22_y6⟩) (by assumption) ?v22_r6
          case v22_y6 => (intro w hSw; (try dsimp only at hSw); go_simp; (try with_reducible rfl))
          simp only [Act.put, uA, uB, uC]
          refine take_at (i := 4) (v := ?v22_v7) rfl (by kernel_rfl) (by kernel_rfl) (by kernel_rfl) (fun _ _ _ h => h) (Or.inl ⟨by rfl, ?v22_y7⟩) (by assumption) ?v22_r7
          case v22_y7 => (intro w hSw; (try dsimp only at hSw); go_simp; (try with_reducible rfl))
          simp only [Act.put, uA, uB, uC]
          refine wpAnyH_ready (rs := [5, 9]) (by kernel_rfl) (by simp) ?_
          refine cons_at (i := 5) rfl (fun K hK => ?_) ?_
          go_simp
          refine (right5_R ⟨spv22_2, Apv22_2, npv22_2, cpv22_2, sqv22_2, Aqv22_2, nqv22_2, cqv22_2⟩ FGv22_2_4.out (HT.out.on (S44.out.call Bv22_5.out).bl) (by decide)).mono ?_
          rintro e v22_w8 ⟨rfl, hb⟩
          try dsimp only
          try dsimp only [frV]
          have X8 := Lib.hid hb
          have Bv22_9 := Lib.hid (Bv22_5.out.trans (X8.out.mono Bv22_5.out.size))
          have FGv22_1_9 := Lib.hid (FGv22_1_5.out.past X8.out)
          have FGv22_2_9 := Lib.hid (FGv22_2_4.out.past X8.out)
          refine hK.out _ _ ?_ (fun hHeld => ?_)
          · exact Bv22_9.out
          clear Bv22_5 FGv22_1_5 FGv22_2_4 X8 hb
          clear hK K
          (try simp only [Act.put, uA, uB, uC])
          refine take_at (i := 6) (v := ?v22_v10) rfl (by kernel_rfl) (by kernel_rfl) (by kernel_rfl) (fun _ _ _ h => h) (Or.inl ⟨by rfl, ?v22_y10⟩) (by assumption) ?v22_r10
          case v22_y10 => (intro w hSw; (try dsimp only at hSw); go_simp; (try with_reducible rfl))
          simp only [Act.put, uA, uB, uC]
          refine take_at (i := 7) (v := ?v22_v11) rfl (by kernel_rfl) (by kernel_rfl) (by kernel_rfl) (fun _ _ _ h => h) (Or.inl ⟨by rfl, ?v22_y11⟩) (by assumption) ?v22_r11
          case v22_y11 => (intro w hSw; (try dsimp only at hSw); go_simp; (try with_reducible rfl))
          simp only [Act.put, uA, uB, uC]
          refine take_at (i := 8) (v := ?v22_v12) rfl (by kernel_rfl) (by kernel_rfl) (by kernel_rfl) (fun _ _ _ h => h) (Or.inl ⟨by rfl, ?v22_y12⟩) (by assumption) ?v22_r12
          case v22_y12 => (intro w hSw; (try dsimp only at hSw); go_simp; (try with_reducible rfl))
          simp only [Act.put, uA, uB, uC]
          refine wpAnyH_ready (rs := [9]) (by kernel_rfl) (by simp) ?_
          refine cons_at (i := 9) rfl (fun K hK => ?_) AllReadyH.nil
          go_simp
          obtain ⟨v22_w13, hw⟩ : ∃ W', W' = v22_w8.alloc (.cells #[.int .i64 0, .slice none 0 0, .int .i64 0, .slice none 0 0] 26) := ⟨_, rfl⟩
          obtain ⟨v22_b9_13, hb⟩ : ∃ b, b = v22_w8.heap.size := ⟨_, rfl⟩
          have X13 := Lib.hid (bal (Below.refl v22_w8.heap.size v22_w8) (o := .cells #[.int .i64 0, .slice none 0 0, .int .i64 0, .slice none 0 0] 26))
          have Kv22_v22_b9_130 := Lib.hid (Blk.new v22_w8 26 #[.int .i64 0, .slice none 0 0, .int .i64 0, .slice none 0 0])
          rw [← hw] at X13 Kv22_v22_b9_130
          rw [← hb] at Kv22_v22_b9_130
          rw [← hw, ← hb]
          have lov22_b9_13 : w22_.heap.size ≤ v22_b9_13 := by rw [hb]; exact Bv22_9.out.size
          have of1v22_b9_13 := Lib.hid (FGv22_1_9.out.off_new (g := v22_b9_13) (by rw [hb]; exact Nat.le_refl _))
          have of2v22_b9_13 := Lib.hid (FGv22_2_9.out.off_new (g := v22_b9_13) (by rw [hb]; exact Nat.le_refl _))
          have Bv22_14 := Lib.hid (Bv22_9.out.trans (X13.out.mono Bv22_9.out.size))
          have FGv22_1_14 := Lib.hid (FGv22_1_9.out.past X13.out)
          have FGv22_2_14 := Lib.hid (FGv22_2_9.out.past X13.out)
          refine hK.out _ _ ?_ (fun hHeld => ?_)
          · exact Bv22_14.out
          clear Bv22_9 FGv22_1_9 FGv22_2_9 X13 hw hb
          clear hK K
          (try simp only [Act.put, uA, uB, uC])
          refine wpAnyH_ready (rs := [10]) (by kernel_rfl) (by simp) ?_
          refine cons_at (i := 10) rfl (fun K hK => ?_) AllReadyH.nil
          obtain ⟨f0, f1, f2, f3, f4, f5, f6, f7⟩ := fr_cells Kv22_v22_b9_130.out
          go_simp
          clear f0 f1 f2 f3 f4 f5 f6 f7
          obtain ⟨v22_w15, hw⟩ : ∃ W', W' = (((v22_w13.setCell ⟨v22_b9_13, 0, none⟩ (.int .i64 spv22_2)).setCell ⟨v22_b9_13, 1, none⟩ (.slice Apv22_2 npv22_2 cpv22_2)).setCell ⟨v22_b9_13, 2, none⟩ (.int .i64 sqv22_2)).setCell ⟨v22_b9_13, 3, none⟩ (.slice Aqv22_2 nqv22_2 cqv22_2) := ⟨_, rfl⟩
          rw [← hw]
          have Bv22_15 := Lib.hid (below_4 Bv22_14.out lov22_b9_13 (u := .int .i64 spv22_2) (v := .slice Apv22_2 npv22_2 cpv22_2) (x := .int .i64 sqv22_2) (y := .slice Aqv22_2 nqv22_2 cqv22_2))
          rw [← hw] at Bv22_15
          have Kv22_v22_b9_13_15 := Lib.hid (Kv22_v22_b9_130.out.set4 (a := .int .i64 spv22_2) (b := .slice Apv22_2 npv22_2 cpv22_2) (c := .int .i64 sqv22_2) (d := .slice Aqv22_2 nqv22_2 cqv22_2))
          rw [← hw] at Kv22_v22_b9_13_15
          have FGv22_1_15 := Lib.hid (FGv22_1_14.out.far4 of1v22_b9_13.out (a := .int .i64 spv22_2) (b := .slice Apv22_2 npv22_2 cpv22_2) (c := .int .i64 sqv22_2) (d := .slice Aqv22_2 nqv22_2 cqv22_2))
          rw [← hw] at FGv22_1_15
          have FGv22_2_15 := Lib.hid (FGv22_2_14.out.far4 of2v22_b9_13.out (a := .int .i64 spv22_2) (b := .slice Apv22_2 npv22_2 cpv22_2) (c := .int .i64 sqv22_2) (d := .slice Aqv22_2 nqv22_2 cqv22_2))
          rw [← hw] at FGv22_2_15
          refine hK.out _ _ ?_ (fun hHeld => ?_)
          · exact Bv22_15.out
          clear Bv22_14 Kv22_v22_b9_130 FGv22_1_14 FGv22_2_14 hw
          clear hK K
          (try simp only [Act.put, uA, uB, uC])
          refine take_at (i := 11) (v := ?v22_v16) rfl (by kernel_rfl) (by kernel_rfl) (by kernel_rfl) (fun _ _ _ h => h) (Or.inl ⟨by rfl, ?v22_y16⟩) (by assumption) ?v22_r16
          case v22_y16 => (intro w hSw; (try dsimp only at hSw); go_simp; (try with_reducible rfl))
          simp only [Act.put, uA, uB, uC]
          refine wpAnyH_done (by kernel_rfl) ?_ _
          go_wp2_with fail
          go_meet
          exact ⟨rfl, v22_b9_13, rfl, (show OneF _ _ _ _ _ from ⟨⟨spv22_2, Apv22_2, npv22_2, cpv22_2, sqv22_2, Aqv22_2, nqv22_2, cqv22_2⟩, Kv22_v22_b9_13_15.out, lov22_b9_13, FGv22_2_15.out, FAv22_2.out, FBv22_2.out, of2v22_b9_13.out, Bv22_15.out⟩)⟩
          refine cons_at (i := 9) rfl (fun K hK => ?_) AllReadyH.nil
          go_simp
          obtain ⟨v22_w17, hw⟩ : ∃ W', W' = v22_w4.alloc (.cells #[.int .i64 0, .slice none 0 0, .int .i64 0, .slice none 0 0] 26) := ⟨_, rfl⟩
          obtain ⟨v22_b9_17, hb⟩ : ∃ b, b = v22_w4.heap.size := ⟨_, rfl⟩
          have X17 := Lib.hid (bal (Below.refl v22_w4.heap.size v22_w4) (o := .cells #[.int .i64 0, .slice none 0 0, .int .i64 0, .slice none 0 0] 26))
          have Kv22_v22_b9_170 := Lib.hid (Blk.new v22_w4 26 #[.int .i64 0, .slice none 0 0, .int .i64 0, .slice none 0 0])
          rw [← hw] at X17 Kv22_v22_b9_170
          rw [← hb] at Kv22_v22_b9_170
          rw [← hw, ← hb]
          have lov22_b9_17 : w22_.heap.size ≤ v22_b9_17 := by rw [hb]; exact Bv22_5.out.size
          have of1v22_b9_17 := Lib.hid (FGv22_1_5.out.off_new (g := v22_b9_17) (by rw [hb]; exact Nat.le_refl _))
          have of2v22_b9_17 := Lib.hid (FGv22_2_4.out.off_new (g := v22_b9_17) (by rw [hb]; exact Nat.le_refl _))
          have Bv22_18 := Lib.hid (Bv22_5.out.trans (X17.out.mono Bv22_5.out.size))
          have FGv22_1_18 := Lib.hid (FGv22_1_5.out.past X17.out)
          have FGv22_2_18 := Lib.hid (FGv22_2_4.out.past X17.out)
          refine hK.out _ _ ?_ (fun hHeld => ?_)
          · exact Bv22_18.out
          clear Bv22_5 FGv22_1_5 FGv22_2_4 X17 hw hb
          clear hK K
          (try simp only [Act.put, uA, uB, uC])
          refine wpAnyH_ready (rs := [5]) (by kernel_rfl) (by simp) ?_
          refine cons_at (i := 5) rfl (fun K hK => ?_) AllReadyH.nil
          go_simp
          refine (right5_R ⟨spv22_2, Apv22_2, npv22_2, cpv22_2, sqv22_2, Aqv22_2, nqv22_2, cqv22_2⟩ FGv22_2_18.out (HT.out.on (S44.out.call Bv22_18.out).bl) (by decide)).mono ?_
          rintro e v22_w19 ⟨rfl, hb⟩
          try dsimp only
          try dsimp only [frV]
          have X19 := Lib.hid hb
          have Bv22_20 := Lib.hid (Bv22_18.out.trans (X19.out.mono Bv22_18.out.size))
          have Kv22_v22_b9_1720 := Lib.hid (Kv22_v22_b9_170.out.below X19.out Kv22_v22_b9_170.out.lt)
          have FGv22_1_20 := Lib.hid (FGv22_1_18.out.past X19.out)
          have FGv22_2_20 := Lib.hid (FGv22_2_18.out.past X19.out)
          refine hK.out _ _ ?_ (fun hHeld => ?_)
          · exact Bv22_20.out
          clear Bv22_18 Kv22_v22_b9_170 FGv22_1_18 FGv22_2_18 X19 hb
          clear hK K
          (try simp only [Act.put, uA, uB, uC])
          refine take_at (i := 6) (v := ?v22_v21) rfl (by kernel_rfl) (by kernel_rfl) (by kernel_rfl) (fun _ _ _ h => h) (Or.inl ⟨by rfl, ?v22_y21⟩) (by assumption) ?v22_r21
          case v22_y21 => (intro w hSw; (try dsimp only at hSw); go_simp; (try with_reducible rfl))
          simp only [Act.put, uA, uB, uC]
          refine take_at (i := 7) (v := ?v22_v22) rfl (by kernel_rfl) (by kernel_rfl) (by kernel_rfl) (fun _ _ _ h => h) (Or.inl ⟨by rfl, ?v22_y22⟩) (by assumption) ?v22_r22
          case v22_y22 => (intro w hSw; (try dsimp only at hSw); go_simp; (try with_reducible rfl))
          simp only [Act.put, uA, uB, uC]
          refine take_at (i := 8) (v := ?v22_v23) rfl (by kernel_rfl) (by kernel_rfl) (by kernel_rfl) (fun _ _ _ h => h) (Or.inl ⟨by rfl, ?v22_y23⟩) (by assumption) ?v22_r23
          case v22_y23 => (intro w hSw; (try dsimp only at hSw); go_simp; (try with_reducible rfl))
          simp only [Act.put, uA, uB, uC]
          refine wpAnyH_ready (rs := [10]) (by kernel_rfl) (by simp) ?_
          refine cons_at (i := 10) rfl (fun K hK => ?_) AllReadyH.nil
          obtain ⟨f0, f1, f2, f3, f4, f5, f6, f7⟩ := fr_cells Kv22_v22_b9_1720.out
          go_simp
          clear f0 f1 f2 f3 f4 f5 f6 f7
          obtain ⟨v22_w24, hw⟩ : ∃ W', W' = (((v22_w19.setCell ⟨v22_b9_17, 0, none⟩ (.int .i64 spv22_2)).setCell ⟨v22_b9_17, 1, none⟩ (.slice Apv22_2 npv22_2 cpv22_2)).setCell ⟨v22_b9_17, 2, none⟩ (.int .i64 sqv22_2)).setCell ⟨v22_b9_17, 3, none⟩ (.slice Aqv22_2 nqv22_2 cqv22_2) := ⟨_, rfl⟩
          rw [← hw]
          have Bv22_24 := Lib.hid (below_4 Bv22_20.out lov22_b9_17 (u := .int .i64 spv22_2) (v := .slice Apv22_2 npv22_2 cpv22_2) (x := .int .i64 sqv22_2) (y := .slice Aqv22_2 nqv22_2 cqv22_2))
          rw [← hw] at Bv22_24
          have Kv22_v22_b9_17_24 := Lib.hid (Kv22_v22_b9_1720.out.set4 (a := .int .i64 spv22_2) (b := .slice Apv22_2 npv22_2 cpv22_2) (c := .int .i64 sqv22_2) (d := .slice Aqv22_2 nqv22_2 cqv22_2))
          rw [← hw] at Kv22_v22_b9_17_24
          have FGv22_1_24 := Lib.hid (FGv22_1_20.out.far4 of1v22_b9_17.out (a := .int .i64 spv22_2) (b := .slice Apv22_2 npv22_2 cpv22_2) (c := .int .i64 sqv22_2) (d := .slice Aqv22_2 nqv22_2 cqv22_2))
          rw [← hw] at FGv22_1_24
          have FGv22_2_24 := Lib.hid (FGv22_2_20.out.far4 of2v22_b9_17.out (a := .int .i64 spv22_2) (b := .slice Apv22_2 npv22_2 cpv22_2) (c := .int .i64 sqv22_2) (d := .slice Aqv22_2 nqv22_2 cqv22_2))
          rw [← hw] at FGv22_2_24
          refine hK.out _ _ ?_ (fun hHeld => ?_)
          · exact Bv22_24.out
          clear Bv22_20 Kv22_v22_b9_1720 FGv22_1_20 FGv22_2_20 hw
          clear hK K
          (try simp only [Act.put, uA, uB, uC])
          refine take_at (i := 11) (v := ?v22_v25) rfl (by kernel_rfl) (by kernel_rfl) (by kernel_rfl) (fun _ _ _ h => h) (Or.inl ⟨by rfl, ?v22_y25⟩) (by assumption) ?v22_r25
          case v22_y25 => (intro w hSw; (try dsimp only at hSw); go_simp; (try with_reducible rfl))
          simp only [Act.put, uA, uB, uC]
          refine wpAnyH_done (by kernel_rfl) ?_ _
          go_wp2_with fail
          go_meet
          exact ⟨rfl, v22_b9_17, rfl, (show OneF _ _ _ _ _ from ⟨⟨spv22_2, Apv22_2, npv22_2, cpv22_2, sqv22_2, Aqv22_2, nqv22_2, cqv22_2⟩, Kv22_v22_b9_17_24.out, lov22_b9_17, FGv22_2_24.out, FAv22_2.out, FBv22_2.out, of2v22_b9_17.out, Bv22_24.out⟩)⟩
          refine cons_at (i := 9) rfl (fun K hK => ?_) AllReadyH.nil
          go_simp
          obtain ⟨v22_w26, hw⟩ : ∃ W', W' = v22_w2.alloc (.cells #[.int .i64 0, .slice none 0 0, .int .i64 0, .slice none 0 0] 26) := ⟨_, rfl⟩
          obtain ⟨v22_b9_26, hb⟩ : ∃ b, b = v22_w2.heap.size := ⟨_, rfl⟩
          have X26 := Lib.hid (bal (Below.refl v22_w2.heap.size v22_w2) (o := .cells #[.int .i64 0, .slice none 0 0, .int .i64 0, .slice none 0 0] 26))
          have Kv22_v22_b9_260 := Lib.hid (Blk.new v22_w2 26 #[.int .i64 0, .slice none 0 0, .int .i64 0, .slice none 0 0])
          rw [← hw] at X26 Kv22_v22_b9_260
          rw [← hb] at Kv22_v22_b9_260
          rw [← hw, ← hb]
          have lov22_b9_26 : w22_.heap.size ≤ v22_b9_26 := by rw [hb]; exact Bv22_3.out.size
          have of1v22_b9_26 := Lib.hid (FGv22_1_2.out.off_new (g := v22_b9_26) (by rw [hb]; exact Nat.le_refl _))
          have Bv22_27 := Lib.hid (Bv22_3.out.trans (X26.out.mono Bv22_3.out.size))
          have FGv22_1_27 := Lib.hid (FGv22_1_2.out.past X26.out)
          refine hK.out _ _ ?_ (fun hHeld => ?_)
          · exact Bv22_27.out
          clear Bv22_3 FGv22_1_2 X26 hw hb
          clear hK K
          (try simp only [Act.put, uA, uB, uC])
          refine wpAnyH_ready (rs := [2]) (by kernel_rfl) (by simp) ?_
          refine cons_at (i := 2) rfl (fun K hK => ?_) AllReadyH.nil
          go_simp
          refine (mul_R (k := 12) ⟨s1a, A1a, n1a, c1a, s2a, A2a, n2a, c2a⟩ ⟨spv22_1, Apv22_1, npv22_1, cpv22_1, sqv22_1, Aqv22_1, nqv22_1, cqv22_1⟩ (Ga.out.past Bv22_27.out) (FGv22_1_27.out.more (by decide)) (HT.out.on (S44.out.call Bv22_27.out).bl) (by decide)).mono ?_
          rintro e v22_w28 ⟨⟨spv22_2, Apv22_2, npv22_2, cpv22_2, sqv22_2, Aqv22_2, nqv22_2, cqv22_2⟩, rfl, hc1, hc2, hf, f1, f2, hb⟩
          try dsimp only [frV]
          try dsimp only
          have X28 := Lib.hid hb
          have FGv22_2_28 := Lib.hid hf
          have FAv22_2 : Hid (Fresh w22_ Apv22_2 npv22_2) := fun hp ad e => Nat.le_trans Bv22_27.out.size (f1 hp ad e)
          have FBv22_2 : Hid (Fresh w22_ Aqv22_2 nqv22_2) := fun hp ad e => Nat.le_trans Bv22_27.out.size (f2 hp ad e)
          have HCAv22_2 := Lib.hid hc1
          have HCBv22_2 := Lib.hid hc2
          have of2v22_b9_26 := Lib.hid (off_old f1 f2 Kv22_v22_b9_260.out.lt)
          have Bv22_29 := Lib.hid (Bv22_27.out.trans (X28.out.mono Bv22_27.out.size))
          have Kv22_v22_b9_2629 := Lib.hid (Kv22_v22_b9_260.out.below X28.out Kv22_v22_b9_260.out.lt)
          have FGv22_1_29 := Lib.hid (FGv22_1_27.out.past X28.out)
          refine hK.out _ _ ?_ (fun hHeld => ?_)
          · exact Bv22_29.out
          clear Bv22_27 Kv22_v22_b9_260 FGv22_1_27 X28 hc1 hc2 hf f1 f2 hb
          clear hK K
          (try simp only [Act.put, uA, uB, uC])
          refine take_at (i := 3) (v := ?v22_v30) rfl (by kernel_rfl) (by kernel_rfl) (by kernel_rfl) (fun _ _ _ h => h) (Or.inl ⟨by rfl, ?v22_y30⟩) (by assumption) ?v22_r30
          case v22_y30 => (intro w hSw; (try dsimp only at hSw); go_simp; (try with_reducible rfl))
          simp only [Act.put, uA, uB, uC]
          refine take_at (i := 4) (v := ?v22_v31) rfl (by kernel_rfl) (by kernel_rfl) (by kernel_rfl) (fun _ _ _ h => h) (Or.inl ⟨by rfl, ?v22_y31⟩) (by assumption) ?v22_r31
          case v22_y31 => (intro w hSw; (try dsimp only at hSw); go_simp; (try with_reducible rfl))
          simp only [Act.put, uA, uB, uC]
          refine wpAnyH_ready (rs := [5]) (by kernel_rfl) (by simp) ?_
          refine cons_at (i := 5) rfl (fun K hK => ?_) AllReadyH.nil
          go_simp
          refine (right5_R ⟨spv22_2, Apv22_2, npv22_2, cpv22_2, sqv22_2, Aqv22_2, nqv22_2, cqv22_2⟩ FGv22_2_28.out (HT.out.on (S44.out.call Bv22_29.out).bl) (by decide)).mono ?_
          rintro e v22_w32 ⟨rfl, hb⟩
          try dsimp only
          try dsimp only [frV]
          have X32 := Lib.hid hb
          have Bv22_33 := Lib.hid (Bv22_29.out.trans (X32.out.mono Bv22_29.out.size))
          have Kv22_v22_b9_2633 := Lib.hid (Kv22_v22_b9_2629.out.below X32.out Kv22_v22_b9_2629.out.lt)
          have FGv22_1_33 := Lib.hid (FGv22_1_29.out.past X32.out)
          have FGv22_2_33 := Lib.hid (FGv22_2_28.out.past X32.out)
          refine hK.out _ _ ?_ (fun hHeld => ?_)
          · exact Bv22_33.out
          clear Bv22_29 Kv22_v22_b9_2629 FGv22_1_29 FGv22_2_28 X32 hb
          clear hK K
          (try simp only [Act.put, uA, uB, uC])
          refine take_at (i := 6) (v := ?v22_v34) rfl (by kernel_rfl) (by kernel_rfl) (by kernel_rfl) (fun _ _ _ h => h) (Or.inl ⟨by rfl, ?v22_y34⟩) (by assumption) ?v22_r34
          case v22_y34 => (intro w hSw; (try dsimp only at hSw); go_simp; (try with_reducible rfl))
          simp only [Act.put, uA, uB, uC]
          refine take_at (i := 7) (v := ?v22_v35) rfl (by kernel_rfl) (by kernel_rfl) (by kernel_rfl) (fun _ _ _ h => h) (Or.inl ⟨by rfl, ?v22_y35⟩) (by assumption) ?v22_r35
          case v22_y35 => (intro w hSw; (try dsimp only at hSw); go_simp; (try with_reducible rfl))
          simp only [Act.put, uA, uB, uC]
          refine take_at (i := 8) (v := ?v22_v36) rfl (by kernel_rfl) (by kernel_rfl) (by kernel_rfl) (fun _ _ _ h => h) (Or.inl ⟨by rfl, ?v22_y36⟩) (by assumption) ?v22_r36
          case v22_y36 => (intro w hSw; (try dsimp only at hSw); go_simp; (try with_reducible rfl))
          simp only [Act.put, uA, uB, uC]
          refine wpAnyH_ready (rs := [10]) (by kernel_rfl) (by simp) ?_
          refine cons_at (i := 10) rfl (fun K hK => ?_) AllReadyH.nil
          obtain ⟨f0, f1, f2, f3, f4, f5, f6, f7⟩ := fr_cells Kv22_v22_b9_2633.out
          go_simp
          clear f0 f1 f2 f3 f4 f5 f6 f7
          obtain ⟨v22_w37, hw⟩ : ∃ W', W' = (((v22_w32.setCell ⟨v22_b9_26, 0, none⟩ (.int .i64 spv22_2)).setCell ⟨v22_b9_26, 1, none⟩ (.slice Apv22_2 npv22_2 cpv22_2)).setCell ⟨v22_b9_26, 2, none⟩ (.int .i64 sqv22_2)).setCell ⟨v22_b9_26, 3, none⟩ (.slice Aqv22_2 nqv22_2 cqv22_2) := ⟨_, rfl⟩
          rw [← hw]
          have Bv22_37 := Lib.hid (below_4 Bv22_33.out lov22_b9_26 (u := .int .i64 spv22_2) (v := .slice Apv22_2 npv22_2 cpv22_2) (x := .int .i64 sqv22_2) (y := .slice Aqv22_2 nqv22_2 cqv22_2))
          rw [← hw] at Bv22_37
          have Kv22_v22_b9_26_37 := Lib.hid (Kv22_v22_b9_2633.out.set4 (a := .int .i64 spv22_2) (b := .slice Apv22_2 npv22_2 cpv22_2) (c := .int .i64 sqv22_2) (d := .slice Aqv22_2 nqv22_2 cqv22_2))
          rw [← hw] at Kv22_v22_b9_26_37
          have FGv22_1_37 := Lib.hid (FGv22_1_33.out.far4 of1v22_b9_26.out (a := .int .i64 spv22_2) (b := .slice Apv22_2 npv22_2 cpv22_2) (c := .int .i64 sqv22_2) (d := .slice Aqv22_2 nqv22_2 cqv22_2))
          rw [← hw] at FGv22_1_37
          have FGv22_2_37 := Lib.hid (FGv22_2_33.out.far4 of2v22_b9_26.out (a := .int .i64 spv22_2) (b := .slice Apv22_2 npv22_2 cpv22_2) (c := .int .i64 sqv22_2) (d := .slice Aqv22_2 nqv22_2 cqv22_2))
          rw [← hw] at FGv22_2_37
          refine hK.out _ _ ?_ (fun hHeld => ?_)
          · exact Bv22_37.out
          clear Bv22_33 Kv22_v22_b9_2633 FGv22_1_33 FGv22_2_33 hw
          clear hK K
          (try simp only [Act.put, uA, uB, uC])
          refine take_at (i := 11) (v := ?v22_v38) rfl (by kernel_rfl) (by kernel_rfl) (by kernel_rfl) (fun _ _ _ h => h) (Or.inl ⟨by rfl, ?v22_y38⟩) (by assumption) ?v22_r38
          case v22_y38 => (intro w hSw; (try dsimp only at hSw); go_simp; (try with_reducible rfl))
          simp only [Act.put, uA, uB, uC]
          refine wpAnyH_done (by kernel_rfl) ?_ _
          go_wp2_with fail
          go_meet
          exact ⟨rfl, v22_b9_26, rfl, (show OneF _ _ _ _ _ from ⟨⟨spv22_2, Apv22_2, npv22_2, cpv22_2, sqv22_2, Aqv22_2, nqv22_2, cqv22_2⟩, Kv22_v22_b9_26_37.out, lov22_b9_26, FGv22_2_37.out, FAv22_2.out, FBv22_2.out, of2v22_b9_26.out, Bv22_37.out⟩)⟩
          refine cons_at (i := 9) rfl (fun K hK => ?_) AllReadyH.nil
          go_simp
          obtain ⟨v22_w39, hw⟩ : ∃ W', W' = v22_w0.alloc (.cells #[.int .i64 0, .slice none 0 0, .int .i64 0, .slice none 0 0] 26) := ⟨_, rfl⟩
          obtain ⟨v22_b9_39, hb⟩ : ∃ b, b = v22_w0.heap.size := ⟨_, rfl⟩
          have X39 := Lib.hid (bal (Below.refl v22_w0.heap.size v22_w0) (o := .cells #[.int .i64 0, .slice none 0 0, .int .i64 0, .slice none 0 0] 26))
          have Kv22_v22_b9_390 := Lib.hid (Blk.new v22_w0 26 #[.int .i64 0, .slice none 0 0, .int .i64 0, .slice none 0 0])
          rw [← hw] at X39 Kv22_v22_b9_390
          rw [← hb] at Kv22_v22_b9_390
          rw [← hw, ← hb]
          have lov22_b9_39 : w22_.heap.size ≤ v22_b9_39 := by rw [hb]; exact Bv22_0.out.size
          have Bv22_40 := Lib.hid (Bv22_0.out.trans (X39.out.mono Bv22_0.out.size))
          refine hK.out _ _ ?_ (fun hHeld => ?_)
          · exact Bv22_40.out
          clear Bv22_0 X39 hw hb
          clear hK K
          (try simp only [Act.put, uA, uB, uC])
          refine wpAnyH_ready (rs := [1]) (by kernel_rfl) (by simp) ?_
          refine cons_at (i := 1) rfl (fun K hK => ?_) AllReadyH.nil
          go_simp
          refine (lof5 1 1 v22_w39 (by decide) (by decide) (by decide) (by decide) (by decide) (HT.out.on (S44.out.call Bv22_40.out).bl)).mono ?_
          rintro e v22_w41 ⟨⟨spv22_1, Apv22_1, npv22_1, cpv22_1, sqv22_1, Aqv22_1, nqv22_1, cqv22_1⟩, rfl, hc1, hc2, hf, f1, f2, hb⟩
          try dsimp only [frV]
          try dsimp only
          have X41 := Lib.hid hb
          have FGv22_1_41 := Lib.hid hf
          have FAv22_1 : Hid (Fresh w22_ Apv22_1 npv22_1) := fun hp ad e => Nat.le_trans Bv22_40.out.size (f1 hp ad e)
          have FBv22_1 : Hid (Fresh w22_ Aqv22_1 nqv22_1) := fun hp ad e => Nat.le_trans Bv22_40.out.size (f2 hp ad e)
          have HCAv22_1 := Lib.hid hc1
          have HCBv22_1 := Lib.hid hc2
          have of1v22_b9_39 := Lib.hid (off_old f1 f2 Kv22_v22_b9_390.out.lt)
          have Bv22_42 := Lib.hid (Bv22_40.out.trans (X41.out.mono Bv22_40.out.size))
          have Kv22_v22_b9_3942 := Lib.hid (Kv22_v22_b9_390.out.below X41.out Kv22_v22_b9_390.out.lt)
          refine hK.out _ _ ?_ (fun hHeld => ?_)
          · exact Bv22_42.out
          clear Bv22_40 Kv22_v22_b9_390 X41 hc1 hc2 hf f1 f2 hb
          clear hK K
          (try simp only [Act.put, uA, uB, uC])
          refine wpAnyH_ready (rs := [2]) (by kernel_rfl) (by simp) ?_
          refine cons_at (i := 2) rfl (fun K hK => ?_) AllReadyH.nil
          go_simp
          refine (mul_R (k := 12) ⟨s1a, A1a, n1a, c1a, s2a, A2a, n2a, c2a⟩ ⟨spv22_1, Apv22_1, npv22_1, cpv22_1, sqv22_1, Aqv22_1, nqv22_1, cqv22_1⟩ (Ga.out.past Bv22_42.out) (FGv22_1_41.out.more (by decide)) (HT.out.on (S44.out.call Bv22_42.out).bl) (by decide)).mono ?_
          rintro e v22_w43 ⟨⟨spv22_2, Apv22_2, npv22_2, cpv22_2, sqv22_2, Aqv22_2, nqv22_2, cqv22_2⟩, rfl, hc1, hc2, hf, f1, f2, hb⟩
          try dsimp only [frV]
          try dsimp only
          have X43 := Lib.hid hb
          have FGv22_2_43 := Lib.hid hf
          have FAv22_2 : Hid (Fresh w22_ Apv22_2 npv22_2) := fun hp ad e => Nat.le_trans Bv22_42.out.size (f1 hp ad e)
          have FBv22_2 : Hid (Fresh w22_ Aqv22_2 nqv22_2) := fun hp ad e => Nat.le_trans Bv22_42.out.size (f2 hp ad e)
          have HCAv22_2 := Lib.hid hc1
          have HCBv22_2 := Lib.hid hc2
          have of2v22_b9_39 := Lib.hid (off_old f1 f2 Kv22_v22_b9_3942.out.lt)
          have Bv22_44 := Lib.hid (Bv22_42.out.trans (X43.out.mono Bv22_42.out.size))
          have Kv22_v22_b9_3944 := Lib.hid (Kv22_v22_b9_3942.out.below X43.out Kv22_v22_b9_3942.out.lt)
          have FGv22_1_44 := Lib.hid (FGv22_1_41.out.past X43.out)
          refine hK.out _ _ ?_ (fun hHeld => ?_)
          · exact Bv22_44.out
          clear Bv22_42 Kv22_v22_b9_3942 FGv22_1_41 X43 hc1 hc2 hf f1 f2 hb
          clear hK K
          (try simp only [Act.put, uA, uB, uC])
          refine take_at (i := 3) (v := ?v22_v45) rfl (by kernel_rfl) (by kernel_rfl) (by kernel_rfl) (fun _ _ _ h => h) (Or.inl ⟨by rfl, ?v22_y45⟩) (by assumption) ?v22_r45
          case v22_y45 => (intro w hSw; (try dsimp only at hSw); go_simp; (try with_reducible rfl))
          simp only [Act.put, uA, uB, uC]
          refine take_at (i := 4) (v := ?v22_v46) rfl (by kernel_rfl) (by kernel_rfl) (by kernel_rfl) (fun _ _ _ h => h) (Or.inl ⟨by rfl, ?v22_y46⟩) (by assumption) ?v22_r46
          case v22_y46 => (intro w hSw; (try dsimp only at hSw); go_simp; (try with_reducible rfl))
          simp only [Act.put, uA, uB, uC]
          refine wpAnyH_ready (rs := [5]) (by kernel_rfl) (by simp) ?_
          refine cons_at (i := 5) rfl (fun K hK => ?_) AllReadyH.nil
          go_simp
          refine (right5_R ⟨spv22_2, Apv22_2, npv22_2, cpv22_2, sqv22_2, Aqv22_2, nqv22_2, cqv22_2⟩ FGv22_2_43.out (HT.out.on (S44.out.call Bv22_44.out).bl) (by decide)).mono ?_
          rintro e v22_w47 ⟨rfl, hb⟩
          try dsimp only
          try dsimp only [frV]
          have X47 := Lib.hid hb
          have Bv22_48 := Lib.hid (Bv22_44.out.trans (X47.out.mono Bv22_44.out.size))
          have Kv22_v22_b9_3948 := Lib.hid (Kv22_v22_b9_3944.out.below X47.out Kv22_v22_b9_3944.out.lt)
          have FGv22_1_48 := Lib.hid (FGv22_1_44.out.past X47.out)
          have FGv22_2_48 := Lib.hid (FGv22_2_43.out.past X47.out)
          refine hK.out _ _ ?_ (fun hHeld => ?_)
          · exact Bv22_48.out
          clear Bv22_44 Kv22_v22_b9_3944 FGv22_1_44 FGv22_2_43 X47 hb
          clear hK K
          (try simp only [Act.put, uA, uB, uC])
          refine take_at (i := 6) (v := ?v22_v49) rfl (by kernel_rfl) (by kernel_rfl) (by kernel_rfl) (fun _ _ _ h => h) (Or.inl ⟨by rfl, ?v22_y49⟩) (by assumption) ?v22_r49
          case v22_y49 => (intro w hSw; (try dsimp only at hSw); go_simp; (try with_reducible rfl))
          simp only [Act.put, uA, uB, uC]
          refine take_at (i := 7) (v := ?v22_v50) rfl (by kernel_rfl) (by kernel_rfl) (by kernel_rfl) (fun _ _ _ h => h) (Or.inl ⟨by rfl, ?v22_y50⟩) (by assumption) ?v22_r50
          case v22_y50 => (intro w hSw; (try dsimp only at hSw); go_simp; (try with_reducible rfl))
          simp only [Act.put, uA, uB, uC]
          refine take_at (i := 8) (v := ?v22_v51) rfl (by kernel_rfl) (by kernel_rfl) (by kernel_rfl) (fun _ _ _ h => h) (Or.inl ⟨by rfl, ?v22_y51⟩) (by assumption) ?v22_r51
          case v22_y51 => (intro w hSw; (try dsimp only at hSw); go_simp; (try with_reducible rfl))
          simp only [Act.put, uA, uB, uC]
          refine wpAnyH_ready (rs := [10]) (by kernel_rfl) (by simp) ?_
          refine cons_at (i := 10) rfl (fun K hK => ?_) AllReadyH.nil
          obtain ⟨f0, f1, f2, f3, f4, f5, f6, f7⟩ := fr_cells Kv22_v22_b9_3948.out
          go_simp
          clear f0 f1 f2 f3 f4 f5 f6 f7
          obtain ⟨v22_w52, hw⟩ : ∃ W', W' = (((v22_w47.setCell ⟨v22_b9_39, 0, none⟩ (.int .i64 spv22_2)).setCell ⟨v22_b9_39, 1, none⟩ (.slice Apv22_2 npv22_2 cpv22_2)).setCell ⟨v22_b9_39, 2, none⟩ (.int .i64 sqv22_2)).setCell ⟨v22_b9_39, 3, none⟩ (.slice Aqv22_2 nqv22_2 cqv22_2) := ⟨_, rfl⟩
          rw [← hw]
          have Bv22_52 := Lib.hid (below_4 Bv22_48.out lov22_b9_39 (u := .int .i64 spv22_2) (v := .slice Apv22_2 npv22_2 cpv22_2) (x := .int .i64 sqv22_2) (y := .slice Aqv22_2 nqv22_2 cqv22_2))
          rw [← hw] at Bv22_52
          have Kv22_v22_b9_39_52 := Lib.hid (Kv22_v22_b9_3948.out.set4 (a := .int .i64 spv22_2) (b := .slice Apv22_2 npv22_2 cpv22_2) (c := .int .i64 sqv22_2) (d := .slice Aqv22_2 nqv22_2 cqv22_2))
          rw [← hw] at Kv22_v22_b9_39_52
          have FGv22_1_52 := Lib.hid (FGv22_1_48.out.far4 of1v22_b9_39.out (a := .int .i64 spv22_2) (b := .slice Apv22_2 npv22_2 cpv22_2) (c := .int .i64 sqv22_2) (d := .slice Aqv22_2 nqv22_2 cqv22_2))
          rw [← hw] at FGv22_1_52
          have FGv22_2_52 := Lib.hid (FGv22_2_48.out.far4 of2v22_b9_39.out (a := .int .i64 spv22_2) (b := .slice Apv22_2 npv22_2 cpv22_2) (c := .int .i64 sqv22_2) (d := .slice Aqv22_2 nqv22_2 cqv22_2))
          rw [← hw] at FGv22_2_52
          refine hK.out _ _ ?_ (fun hHeld => ?_)
          · exact Bv22_52.out
          clear Bv22_48 Kv22_v22_b9_3948 FGv22_1_48 FGv22_2_48 hw
          clear hK K
          (try simp only [Act.put, uA, uB, uC])
          refine take_at (i := 11) (v := ?v22_v53) rfl (by kernel_rfl) (by kernel_rfl) (by kernel_rfl) (fun _ _ _ h => h) (Or.inl ⟨by rfl, ?v22_y53⟩) (by assumption) ?v22_r53
          case v22_y53 => (intro w hSw; (try dsimp only at hSw); go_simp; (try with_reducible rfl))
          simp only [Act.put, uA, uB, uC]
          refine wpAnyH_done (by kernel_rfl) ?_ _
          go_wp2_with fail
          go_meet
          exact ⟨rfl, v22_b9_39, rfl, (show OneF _ _ _ _ _ from ⟨⟨spv22_2, Apv22_2, npv22_2, cpv22_2, sqv22_2, Aqv22_2, nqv22_2, cqv22_2⟩, Kv22_v22_b9_39_52.out, lov22_b9_39, FGv22_2_52.out, FAv22_2.out, FBv22_2.out, of2v22_b9_39.out, Bv22_52.out⟩)⟩
        case rest => as_aux_lemma =>
         obtain ⟨rfl, b22_, rfl, HX⟩ := hcut
         obtain ⟨w45, rfl⟩ : ∃ W : World, W = wc := ⟨_, rfl⟩
         obtain ⟨⟨s1_22_, A1_22_, n1_22_, c1_22_, s2_22_, A2_22_, n2_22_, c2_22_⟩, hk, hlo, hg, f1, f2, ho, hb⟩ := HX.out
         have S45 := Lib.hid (S44.out.add hb hk hlo ho hg f1 f2)
         clear HX hk hlo hg f1 f2 ho hb S44
         clear za0 za1 za2 za3 Ga
         have F := S45.out.bx _ (List.mem_of_getElem? (i := 7) rfl)
         dsimp only [frC] at F
         obtain ⟨zx0, zx1, zx2, zx3, -, -, -, -⟩ := fr_cells F.1
         have Gx := Lib.hid F.2
         clear F
         have F := S45.out.bx _ (List.mem_of_getElem? (i := 6) rfl)
         dsimp only [frC] at F
         obtain ⟨zy0, zy1, zy2, zy3, -, -, -, -⟩ := fr_cells F.1
         have Gy := Lib.hid F.2
         clear F
         have M := Lib.hid (same5_R (k := 50) ⟨s1_38, A1_38, n1_38, c1_38, s2_38, A2_38, n2_38, c2_38⟩ ⟨s1_41, A1_41, n1_41, c1_41, s2_41, A2_41, n2_41, c2_41⟩ Gx.out (Gy.out.more (by decide)) (by decide) (o := true) (decide_eq_true (by grind)))
         (try dsimp only [frV] at M)
         go_wp2_with fail
         refine M.out.mono ?_
         rintro e w46 ⟨rfl, hb⟩
         have S46 := Lib.hid (S45.out.call hb)
         clear hb M S45
         clear zx0 zx1 zx2 zx3 Gx zy0 zy1 zy2 zy3 Gy
         have F := S46.out.bx _ (List.mem_of_getElem? (i := 1) rfl)
         dsimp only [frC] at F
         obtain ⟨zz0, zz1, zz2, zz3, -, -, -, -⟩ := fr_cells F.1
         have Gz := Lib.hid F.2
         clear F
         have F := S46.out.bx _ (List.mem_of_getElem? (i := 11) rfl)
         dsimp only [frC] at F
         obtain ⟨za0, za1, za2, za3, -, -, -, -⟩ := fr_cells F.1
         have Ga := Lib.hid F.2
         clear F
         have M := Lib.hid (same5_R (k := 25) ⟨s1_21_, A1_21_, n1_21_, c1_21_, s2_21_, A2_21_, n2_21_, c2_21_⟩ ⟨s1a, A1a, n1a, c1a, s2a, A2a, n2a, c2a⟩ Gz.out (Ga.out.more (by decide)) (by decide) (o := true) (decide_eq_true (by rw [ratio01, Rat.add_zero])))
         (try dsimp only [frV] at M)
         go_wp2_with fail
         refine M.out.mono ?_
         rintro e w47 ⟨rfl, hb⟩
         have S47 := Lib.hid (S46.out.call hb)
         clear hb M S46
         clear zz0 zz1 zz2 zz3 Gz za0 za1 za2 za3 Ga
         have F := S47.out.bx _ (List.mem_of_getElem? (i := 0) rfl)
         dsimp only [frC] at F
         obtain ⟨zv0, zv1, zv2, zv3, -, -, -, -⟩ := fr_cells F.1
         have Gv := Lib.hid F.2
         clear F
         have F := S47.out.bx _ (List.mem_of_getElem? (i := 11) rfl)
         dsimp only [frC] at F
         obtain ⟨za0, za1, za2, za3, -, -, -, -⟩ := fr_cells F.1
         have Ga := Lib.hid F.2
         clear F
         have M := Lib.hid (same5_R (k := 24) ⟨s1_22_, A1_22_, n1_22_, c1_22_, s2_22_, A2_22_, n2_22_, c2_22_⟩ ⟨s1a, A1a, n1a, c1a, s2a, A2a, n2a, c2a⟩ Gv.out (Ga.out.more (by decide)) (by decide) (o := true) (decide_eq_true (by rw [ratio11, Rat.mul_one])))
         (try dsimp only [frV] at M)
         go_wp2_with fail
         refine M.out.mono ?_
         rintro e w48 ⟨rfl, hb⟩
         have S48 := Lib.hid (S47.out.call hb)
         clear hb M S47
         clear zv0 zv1 zv2 zv3 Gv za0 za1 za2 za3 Ga
         as_aux_lemma =>
          have F := S48.out.bx _ (List.mem_of_getElem? (i := 10) rfl)
          dsimp only [frC] at F
          obtain ⟨zab0, zab1, zab2, zab3, -, -, -, -⟩ := fr_cells F.1
          have Gab := Lib.hid F.2
          clear F
          have F := S48.out.bx _ (List.mem_of_getElem? (i := 12) rfl)
          dsimp only [frC] at F
          obtain ⟨zb0, zb1, zb2, zb3, -, -, -, -⟩ := fr_cells F.1
          have Gb := Lib.hid F.2
          clear F
          have M := Lib.hid (sub_R (k := 25) ⟨s1_1, A1_1, n1_1, c1_1, s2_1, A2_1, n2_1, c2_1⟩ ⟨s1b, A1b, n1b, c1b, s2b, A2b, n2b, c2b⟩ Gab.out (Gb.out.more (by decide)) (HT.out.on S48.out.bl) (by decide))
          (try dsimp only [frV] at M)
          go_wp2_with fail
          refine M.out.mono ?_
          rintro e w49 ⟨⟨s1_49, A1_49, n1_49, c1_49, s2_49, A2_49, n2_49, c2_49⟩, rfl, -, -, hg, hf1, hf2, hb⟩
          have HG := Lib.hid hg
          have HF1 := Lib.hid hf1
          have HF2 := Lib.hid hf2
          have HB := Lib.hid hb
          clear hg hf1 hf2 hb M
          clear zab0 zab1 zab2 zab3 Gab zb0 zb1 zb2 zb3 Gb
          (try dsimp only [frV])
          have M := Lib.hid (right5_R ⟨s1_49, A1_49, n1_49, c1_49, s2_49, A2_49, n2_49, c2_49⟩ HG.out (HT.out.on (S48.out.call HB.out).bl) (by decide))
          (try dsimp only [frV] at M)
          go_wp2_with fail
          refine M.out.mono ?_
          rintro e w50 ⟨rfl, hb⟩
          have HG2 := Lib.hid (HG.out.past hb)
          have HB2 := Lib.hid (HB.out.trans (hb.mono HB.out.size))
          clear HG HB hb M
          have HG := HG2
          have HB := HB2
          clear HG2 HB2
          have cz := (S48.out.call HB.out).bx _ (List.mem_of_getElem? (i := 7) rfl)
          dsimp only [frC] at cz
          obtain ⟨cz0, cz1, cz2, cz3, cz4, cz5, cz6, cz7⟩ := fr_cells cz.1
          clear cz
          have S51 := Lib.hid (S48.out.put HB.out HG.out HF1.out HF2.out (i := 7) rfl)
          simp only [List.set_cons_zero, List.set_cons_succ] at S51
          clear HG HB HF1 HF2 S48
          have F := S51.out.bx _ (List.mem_of_getElem? (i := 5) rfl)
          dsimp only [frC] at F
          obtain ⟨zm0, zm1, zm2, zm3, -, -, -, -⟩ := fr_cells F.1
          have Gm := Lib.hid F.2
          clear F
          have F := S51.out.bx _ (List.mem_of_getElem? (i := 12) rfl)
          dsimp only [frC] at F
          obtain ⟨zb0, zb1, zb2, zb3, -, -, -, -⟩ := fr_cells F.1
          have Gb := Lib.hid F.2
          clear F
          have M := Lib.hid (div_R (k := 24) ⟨s1_18, A1_18, n1_18, c1_18, s2_18, A2_18, n2_18, c2_18⟩ ⟨s1b, A1b, n1b, c1b, s2b, A2b, n2b, c2b⟩ Gm.out (Gb.out.more (by decide)) (HT.out.on S51.out.bl) (by decide) HY.out)
          (try dsimp only [frV] at M)
          go_wp2_with fail
          clear cz0 cz1 cz2 cz3 cz4 cz5 cz6 cz7
          refine M.out.mono ?_
          rintro e w52 ⟨⟨s1_52, A1_52, n1_52, c1_52, s2_52, A2_52, n2_52, c2_52⟩, rfl, -, -, hg, hf1, hf2, hb⟩
          have HG := Lib.hid hg
          have HF1 := Lib.hid hf1
          have HF2 := Lib.hid hf2
          have HB := Lib.hid hb
          clear hg hf1 hf2 hb M
          clear zm0 zm1 zm2 zm3 Gm zb0 zb1 zb2 zb3 Gb
          (try dsimp only [frV])
          have cz := (S51.out.call HB.out).bx _ (List.mem_of_getElem? (i := 6) rfl)
          dsimp only [frC] at cz
          obtain ⟨cz0, cz1, cz2, cz3, cz4, cz5, cz6, cz7⟩ := fr_cells cz.1
          clear cz
          have S53 := Lib.hid (S51.out.put HB.out HG.out HF1.out HF2.out (i := 6) rfl)
          simp only [List.set_cons_zero, List.set_cons_succ] at S53
          clear HG HB HF1 HF2 S51
          as_aux_lemma =>
           have hnz := HNZ.out
           have F := S53.out.bx _ (List.mem_of_getElem? (i := 12) rfl)
           dsimp only [frC] at F
           obtain ⟨zb0, zb1, zb2, zb3, -, -, -, -⟩ := fr_cells F.1
           have Gb := Lib.hid F.2
           clear F
           go_upto_region 28 with (fail)
           clear cz0 cz1 cz2 cz3 cz4 cz5 cz6 cz7
           clear zb0 zb1 zb2 zb3 Gb
           have F := S53.out.bx _ (List.mem_of_getElem? (i := 7) rfl)
           dsimp only [frC] at F
           obtain ⟨zx0, zx1, zx2, zx3, -, -, -, -⟩ := fr_cells F.1
           have Gx := Lib.hid F.2
           clear F
           have F := S53.out.bx _ (List.mem_of_getElem? (i := 11) rfl)
           dsimp only [frC] at F
           obtain ⟨za0, za1, za2, za3, -, -, -, -⟩ := fr_cells F.1
           have Ga := Lib.hid F.2
           clear F
           have M := Lib.hid (same5_R (k := 51) ⟨s1_49, A1_49, n1_49, c1_49, s2_49, A2_49, n2_49, c2_49⟩ ⟨s1a, A1a, n1a, c1a, s2a, A2a, n2a, c2a⟩ Gx.out (Ga.out.more (by decide)) (by decide) (o := true) (decide_eq_true (by grind)))
           (try dsimp only [frV] at M)
           go_wp2_with fail
           refine M.out.mono ?_
           rintro e w54 ⟨rfl, hb⟩
           have S54 := Lib.hid (S53.out.call hb)
           clear hb M S53
           clear zx0 zx1 zx2 zx3 Gx za0 za1 za2 za3 Ga
           have F := S54.out.bx _ (List.mem_of_getElem? (i := 6) rfl)
           dsimp only [frC] at F
           obtain ⟨zy0, zy1, zy2, zy3, -, -, -, -⟩ := fr_cells F.1
           have Gy := Lib.hid F.2
           clear F
           have F := S54.out.bx _ (List.mem_of_getElem? (i := 11) rfl)
           dsimp only [frC] at F
           obtain ⟨za0, za1, za2, za3, -, -, -, -⟩ := fr_cells F.1
           have Ga := Lib.hid F.2
           clear F
           have M := Lib.hid (same5_R (k := 48) ⟨s1_52, A1_52, n1_52, c1_52, s2_52, A2_52, n2_52, c2_52⟩ ⟨s1a, A1a, n1a, c1a, s2a, A2a, n2a, c2a⟩ Gy.out (Ga.out.more (by decide)) (by decide) (o := true) (decide_eq_true (Rat.mul_div_cancel HY.out)))
           (try dsimp only [frV] at M)
           go_wp2_with fail
           refine M.out.mono ?_
           rintro e w55 ⟨rfl, hb⟩
           have S55 := Lib.hid (S54.out.call hb)
           clear hb M S54
           clear zy0 zy1 zy2 zy3 Gy za0 za1 za2 za3 Ga
           go_wp2_with fail
           go_ret
           exact ⟨rfl, S55.out.bl⟩
end Go.Proofs.YtmkhoofeekollaaGreatDoor
