/- The walk of the law FracOrder. Conditions: the arguments' memory; the tables of math/bits and strconv as their texts lay them; the variable MaxLen of internal/bytealg holds an int. -/
import Derived.Test.YtmkhoofeekollaaGreatDoorR5
import Derived.Deep.DeepCutAuto
namespace Go.Proofs.YtmkhoofeekollaaGreatDoor
set_option maxRecDepth 20000
open Go.RowKit

set_option maxHeartbeats 4000000 in
theorem order_e0 (ra : FrR) (l1a l2a : List Int) (rb : FrR) (l1b l2b : List Int) (rc : FrR) (l1c l2c : List Int) (w : World) (haa : FrArg w ra l1a l2a) (hab : FrArg w rb l1b l2b) (hac : FrArg w rc l1c l2c) (hT : TabZ w) (hS : Tab w) (hM : MaxL w)  (t0 : (12 : Int) < (ra.n1 : Int) ∨ (12 : Int) < (ra.n2 : Int)) :
    Calls Tryz.prog 4 #[frV ra, frV rb, frV rc] w fun e w' => e = .returned (.bool true) ∧ Below w.heap.size w w' := by
  have HR0 := Lib.hid t0
  have HAa := Lib.hid haa
  have HAb := Lib.hid hab
  have HAc := Lib.hid hac
  clear t0 haa hab hac
  obtain ⟨W0, hW0⟩ : ∃ W0, W0 = ((w.alloc (.cells (frC ra) 26)).alloc (.cells (frC rb) 26)).alloc (.cells (frC rc) 26) := ⟨_, rfl⟩
  have B0 : Hid (Below w.heap.size w W0) := by show Below _ _ _; rw [hW0]; exact (bal (bal (bal (Below.refl w.heap.size w))))
  have Ka : Hid (Blk W0 (w.heap.size) 26 (frC ra)) := by show Blk _ _ _ _; rw [hW0]; exact (((Blk.new_ (by simp)).alloc _).alloc _)
  have Kb : Hid (Blk W0 (w.heap.size + 1) 26 (frC rb)) := by show Blk _ _ _ _; rw [hW0]; exact ((Blk.new_ (by simp)).alloc _)
  have Kc : Hid (Blk W0 (w.heap.size + 1 + 1) 26 (frC rc)) := by show Blk _ _ _ _; rw [hW0]; exact (Blk.new_ (by simp))
  have HT := Lib.hid hT
  have HS := Lib.hid hS
  have HM := Lib.hid hM
  obtain ⟨s1a, A1a, n1a, c1a, s2a, A2a, n2a, c2a⟩ := ra
  obtain ⟨s1b, A1b, n1b, c1b, s2b, A2b, n2b, c2b⟩ := rb
  obtain ⟨s1c, A1c, n1c, c1c, s2c, A2c, n2c, c2c⟩ := rc
  dsimp only [frV, frC] at *
  clear hT hS hM
  go_enter Tryz.func4, Tryz.ntmps4
  go_wp2_with fail
  rw [← hW0]
  clear hW0
  have M := Lib.hid (small5_any W0 (HT.out.on B0.out) (HS.out.on B0.out) (HM.out.on B0.out HM.out.pos))
  (try dsimp only [frV] at M)
  go_wp2_with fail
  refine M.out.mono ?_
  rintro e wa1 ⟨rfl, hb⟩
  clear M
  have X := Lib.hid hb
  clear hb
  have Ba2 := Lib.hid (B0.out.trans (X.out.mono B0.out.size))
  have Kaa2 := Lib.hid (Ka.out.below X.out Ka.out.lt)
  have Kab2 := Lib.hid (Kb.out.below X.out Kb.out.lt)
  have Kac2 := Lib.hid (Kc.out.below X.out Kc.out.lt)
  clear X B0 Ka Kb Kc
  obtain ⟨za0, za1, za2, za3, -, -, -, -⟩ := fr_cells Kaa2.out
  have M := Lib.hid (few5_F ⟨s1a, A1a, n1a, c1a, s2a, A2a, n2a, c2a⟩ 12 wa1 HR0.out)
  (try dsimp only [frV] at M)
  go_wp2_with fail
  refine M.out.mono ?_
  rintro e wa3 ⟨rfl, hb⟩
  clear M
  have X := Lib.hid hb
  clear hb
  have Ba4 := Lib.hid (Ba2.out.trans (X.out.mono Ba2.out.size))
  have Kaa4 := Lib.hid (Kaa2.out.below X.out Kaa2.out.lt)
  have Kab4 := Lib.hid (Kab2.out.below X.out Kab2.out.lt)
  have Kac4 := Lib.hid (Kac2.out.below X.out Kac2.out.lt)
  clear X Ba2 Kaa2 Kab2 Kac2
  clear za0 za1 za2 za3
  go_wp2_with fail
  go_ret
  exact ⟨rfl, Ba4.out⟩
set_option maxHeartbeats 4000000 in
theorem order_e1 (ra : FrR) (l1a l2a : List Int) (rb : FrR) (l1b l2b : List Int) (rc : FrR) (l1c l2c : List Int) (w : World) (haa : FrArg w ra l1a l2a) (hab : FrArg w rb l1b l2b) (hac : FrArg w rc l1c l2c) (hT : TabZ w) (hS : Tab w) (hM : MaxL w) (t0 : (ra.n1 : Int) ≤ 12 ∧ (ra.n2 : Int) ≤ 12) (t1 : (12 : Int) < (rb.n1 : Int) ∨ (12 : Int) < (rb.n2 : Int)) :
    Calls Tryz.prog 4 #[frV ra, frV rb, frV rc] w fun e w' => e = .returned (.bool true) ∧ Below w.heap.size w w' := by
  have HR0 := Lib.hid t0
  have HR1 := Lib.hid t1
  have HAa := Lib.hid haa
  have HAb := Lib.hid hab
  have HAc := Lib.hid hac
  clear t0 t1 haa hab hac
  obtain ⟨W0, hW0⟩ : ∃ W0, W0 = ((w.alloc (.cells (frC ra) 26)).alloc (.cells (frC rb) 26)).alloc (.cells (frC rc) 26) := ⟨_, rfl⟩
  have B0 : Hid (Below w.heap.size w W0) := by show Below _ _ _; rw [hW0]; exact (bal (bal (bal (Below.refl w.heap.size w))))
  have Ka : Hid (Blk W0 (w.heap.size) 26 (frC ra)) := by show Blk _ _ _ _; rw [hW0]; exact (((Blk.new_ (by simp)).alloc _).alloc _)
  have Kb : Hid (Blk W0 (w.heap.size + 1) 26 (frC rb)) := by show Blk _ _ _ _; rw [hW0]; exact ((Blk.new_ (by simp)).alloc _)
  have Kc : Hid (Blk W0 (w.heap.size + 1 + 1) 26 (frC rc)) := by show Blk _ _ _ _; rw [hW0]; exact (Blk.new_ (by simp))
  have HT := Lib.hid hT
  have HS := Lib.hid hS
  have HM := Lib.hid hM
  obtain ⟨s1a, A1a, n1a, c1a, s2a, A2a, n2a, c2a⟩ := ra
  obtain ⟨s1b, A1b, n1b, c1b, s2b, A2b, n2b, c2b⟩ := rb
  obtain ⟨s1c, A1c, n1c, c1c, s2c, A2c, n2c, c2c⟩ := rc
  dsimp only [frV, frC] at *
  clear hT hS hM
  go_enter Tryz.func4, Tryz.ntmps4
  go_wp2_with fail
  rw [← hW0]
  clear hW0
  have M := Lib.hid (small5_any W0 (HT.out.on B0.out) (HS.out.on B0.out) (HM.out.on B0.out HM.out.pos))
  (try dsimp only [frV] at M)
  go_wp2_with fail
  refine M.out.mono ?_
  rintro e wa1 ⟨rfl, hb⟩
  clear M
  have X := Lib.hid hb
  clear hb
  have Ba2 := Lib.hid (B0.out.trans (X.out.mono B0.out.size))
  have Kaa2 := Lib.hid (Ka.out.below X.out Ka.out.lt)
  have Kab2 := Lib.hid (Kb.out.below X.out Kb.out.lt)
  have Kac2 := Lib.hid (Kc.out.below X.out Kc.out.lt)
  clear X B0 Ka Kb Kc
  obtain ⟨za0, za1, za2, za3, -, -, -, -⟩ := fr_cells Kaa2.out
  have M := Lib.hid (few5_T ⟨s1a, A1a, n1a, c1a, s2a, A2a, n2a, c2a⟩ 12 wa1 HR0.out.1 HR0.out.2)
  (try dsimp only [frV] at M)
  go_wp2_with fail
  refine M.out.mono ?_
  rintro e wa3 ⟨rfl, hb⟩
  clear M
  have X := Lib.hid hb
  clear hb
  have Ba4 := Lib.hid (Ba2.out.trans (X.out.mono Ba2.out.size))
  have Kaa4 := Lib.hid (Kaa2.out.below X.out Kaa2.out.lt)
  have Kab4 := Lib.hid (Kab2.out.below X.out Kab2.out.lt)
  have Kac4 := Lib.hid (Kac2.out.below X.out Kac2.out.lt)
  clear X Ba2 Kaa2 Kab2 Kac2
  clear za0 za1 za2 za3
  obtain ⟨zb0, zb1, zb2, zb3, -, -, -, -⟩ := fr_cells Kab4.out
  have M := Lib.hid (few5_F ⟨s1b, A1b, n1b, c1b, s2b, A2b, n2b, c2b⟩ 12 wa3 HR1.out)
  (try dsimp only [frV] at M)
  go_wp2_with fail
  refine M.out.mono ?_
  rintro e wa5 ⟨rfl, hb⟩
  clear M
  have X := Lib.hid hb
  clear hb
  have Ba6 := Lib.hid (Ba4.out.trans (X.out.mono Ba4.out.size))
  have Kaa6 := Lib.hid (Kaa4.out.below X.out Kaa4.out.lt)
  have Kab6 := Lib.hid (Kab4.out.below X.out Kab4.out.lt)
  have Kac6 := Lib.hid (Kac4.out.below X.out Kac4.out.lt)
  clear X Ba4 Kaa4 Kab4 Kac4
  clear zb0 zb1 zb2 zb3
  go_wp2_with fail
  go_ret
  exact ⟨rfl, Ba6.out⟩
set_option maxHeartbeats 4000000 in
theorem order_e2 (ra : FrR) (l1a l2a : List Int) (rb : FrR) (l1b l2b : List Int) (rc : FrR) (l1c l2c : List Int) (w : World) (haa : FrArg w ra l1a l2a) (hab : FrArg w rb l1b l2b) (hac : FrArg w rc l1c l2c) (hT : TabZ w) (hS : Tab w) (hM : MaxL w) (t0 : (ra.n1 : Int) ≤ 12 ∧ (ra.n2 : Int) ≤ 12) (t1 : (rb.n1 : Int) ≤ 12 ∧ (rb.n2 : Int) ≤ 12) (t2 : (12 : Int) < (rc.n1 : Int) ∨ (12 : Int) < (rc.n2 : Int)) :
    Calls Tryz.prog 4 #[frV ra, frV rb, frV rc] w fun e w' => e = .returned (.bool true) ∧ Below w.heap.size w w' := by
  have HR0 := Lib.hid t0
  have HR1 := Lib.hid t1
  have HR2 := Lib.hid t2
  have HAa := Lib.hid haa
  have HAb := Lib.hid hab
  have HAc := Lib.hid hac
  clear t0 t1 t2 haa hab hac
  obtain ⟨W0, hW0⟩ : ∃ W0, W0 = ((w.alloc (.cells (frC ra) 26)).alloc (.cells (frC rb) 26)).alloc (.cells (frC rc) 26) := ⟨_, rfl⟩
  have B0 : Hid (Below w.heap.size w W0) := by show Below _ _ _; rw [hW0]; exact (bal (bal (bal (Below.refl w.heap.size w))))
  have Ka : Hid (Blk W0 (w.heap.size) 26 (frC ra)) := by show Blk _ _ _ _; rw [hW0]; exact (((Blk.new_ (by simp)).alloc _).alloc _)
  have Kb : Hid (Blk W0 (w.heap.size + 1) 26 (frC rb)) := by show Blk _ _ _ _; rw [hW0]; exact ((Blk.new_ (by simp)).alloc _)
  have Kc : Hid (Blk W0 (w.heap.size + 1 + 1) 26 (frC rc)) := by show Blk _ _ _ _; rw [hW0]; exact (Blk.new_ (by simp))
  have HT := Lib.hid hT
  have HS := Lib.hid hS
  have HM := Lib.hid hM
  obtain ⟨s1a, A1a, n1a, c1a, s2a, A2a, n2a, c2a⟩ := ra
  obtain ⟨s1b, A1b, n1b, c1b, s2b, A2b, n2b, c2b⟩ := rb
  obtain ⟨s1c, A1c, n1c, c1c, s2c, A2c, n2c, c2c⟩ := rc
  dsimp only [frV, frC] at *
  clear hT hS hM
  go_enter Tryz.func4, Tryz.ntmps4
  go_wp2_with fail
  rw [← hW0]
  clear hW0
  have M := Lib.hid (small5_any W0 (HT.out.on B0.out) (HS.out.on B0.out) (HM.out.on B0.out HM.out.pos))
  (try dsimp only [frV] at M)
  go_wp2_with fail
  refine M.out.mono ?_
  rintro e wa1 ⟨rfl, hb⟩
  clear M
  have X := Lib.hid hb
  clear hb
  have Ba2 := Lib.hid (B0.out.trans (X.out.mono B0.out.size))
  have Kaa2 := Lib.hid (Ka.out.below X.out Ka.out.lt)
  have Kab2 := Lib.hid (Kb.out.below X.out Kb.out.lt)
  have Kac2 := Lib.hid (Kc.out.below X.out Kc.out.lt)
  clear X B0 Ka Kb Kc
  obtain ⟨za0, za1, za2, za3, -, -, -, -⟩ := fr_cells Kaa2.out
  have M := Lib.hid (few5_T ⟨s1a, A1a, n1a, c1a, s2a, A2a, n2a, c2a⟩ 12 wa1 HR0.out.1 HR0.out.2)
  (try dsimp only [frV] at M)
  go_wp2_with fail
  refine M.out.mono ?_
  rintro e wa3 ⟨rfl, hb⟩
  clear M
  have X := Lib.hid hb
  clear hb
  have Ba4 := Lib.hid (Ba2.out.trans (X.out.mono Ba2.out.size))
  have Kaa4 := Lib.hid (Kaa2.out.below X.out Kaa2.out.lt)
  have Kab4 := Lib.hid (Kab2.out.below X.out Kab2.out.lt)
  have Kac4 := Lib.hid (Kac2.out.below X.out Kac2.out.lt)
  clear X Ba2 Kaa2 Kab2 Kac2
  clear za0 za1 za2 za3
  obtain ⟨zb0, zb1, zb2, zb3, -, -, -, -⟩ := fr_cells Kab4.out
  have M := Lib.hid (few5_T ⟨s1b, A1b, n1b, c1b, s2b, A2b, n2b, c2b⟩ 12 wa3 HR1.out.1 HR1.out.2)
  (try dsimp only [frV] at M)
  go_wp2_with fail
  refine M.out.mono ?_
  rintro e wa5 ⟨rfl, hb⟩
  clear M
  have X := Lib.hid hb
  clear hb
  have Ba6 := Lib.hid (Ba4.out.trans (X.out.mono Ba4.out.size))
  have Kaa6 := Lib.hid (Kaa4.out.below X.out Kaa4.out.lt)
  have Kab6 := Lib.hid (Kab4.out.below X.out Kab4.out.lt)
  have Kac6 := Lib.hid (Kac4.out.below X.out Kac4.out.lt)
  clear X Ba4 Kaa4 Kab4 Kac4
  clear zb0 zb1 zb2 zb3
  obtain ⟨zc0, zc1, zc2, zc3, -, -, -, -⟩ := fr_cells Kac6.out
  have M := Lib.hid (few5_F ⟨s1c, A1c, n1c, c1c, s2c, A2c, n2c, c2c⟩ 12 wa5 HR2.out)
  (try dsimp only [frV] at M)
  go_wp2_with fail
  refine M.out.mono ?_
  rintro e wa7 ⟨rfl, hb⟩
  clear M
  have X := Lib.hid hb
  clear hb
  have Ba8 := Lib.hid (Ba6.out.trans (X.out.mono Ba6.out.size))
  have Kaa8 := Lib.hid (Kaa6.out.below X.out Kaa6.out.lt)
  have Kab8 := Lib.hid (Kab6.out.below X.out Kab6.out.lt)
  have Kac8 := Lib.hid (Kac6.out.below X.out Kac6.out.lt)
  clear X Ba6 Kaa6 Kab6 Kac6
  clear zc0 zc1 zc2 zc3
  go_wp2_with fail
  go_ret
  exact ⟨rfl, Ba8.out⟩
set_option maxHeartbeats 4000000 in
theorem order_e3 (ra : FrR) (l1a l2a : List Int) (rb : FrR) (l1b l2b : List Int) (rc : FrR) (l1c l2c : List Int) (w : World) (haa : FrArg w ra l1a l2a) (hab : FrArg w rb l1b l2b) (hac : FrArg w rc l1c l2c) (hT : TabZ w) (hS : Tab w) (hM : MaxL w) (t0 : (ra.n1 : Int) ≤ 12 ∧ (ra.n2 : Int) ≤ 12) (t1 : (rb.n1 : Int) ≤ 12 ∧ (rb.n2 : Int) ≤ 12) (t2 : (rc.n1 : Int) ≤ 12 ∧ (rc.n2 : Int) ≤ 12) (t3 : ∀ x, ¬ IsFr w ra x) :
    Calls Tryz.prog 4 #[frV ra, frV rb, frV rc] w fun e w' => e = .returned (.bool true) ∧ Below w.heap.size w w' := by
  have HR0 := Lib.hid t0
  have HR1 := Lib.hid t1
  have HR2 := Lib.hid t2
  have HR3 := Lib.hid t3
  have HAa := Lib.hid haa
  have HAb := Lib.hid hab
  have HAc := Lib.hid hac
  clear t0 t1 t2 t3 haa hab hac
  obtain ⟨W0, hW0⟩ : ∃ W0, W0 = ((w.alloc (.cells (frC ra) 26)).alloc (.cells (frC rb) 26)).alloc (.cells (frC rc) 26) := ⟨_, rfl⟩
  have B0 : Hid (Below w.heap.size w W0) := by show Below _ _ _; rw [hW0]; exact (bal (bal (bal (Below.refl w.heap.size w))))
  have Ka : Hid (Blk W0 (w.heap.size) 26 (frC ra)) := by show Blk _ _ _ _; rw [hW0]; exact (((Blk.new_ (by simp)).alloc _).alloc _)
  have Kb : Hid (Blk W0 (w.heap.size + 1) 26 (frC rb)) := by show Blk _ _ _ _; rw [hW0]; exact ((Blk.new_ (by simp)).alloc _)
  have Kc : Hid (Blk W0 (w.heap.size + 1 + 1) 26 (frC rc)) := by show Blk _ _ _ _; rw [hW0]; exact (Blk.new_ (by simp))
  have HT := Lib.hid hT
  have HS := Lib.hid hS
  have HM := Lib.hid hM
  obtain ⟨s1a, A1a, n1a, c1a, s2a, A2a, n2a, c2a⟩ := ra
  obtain ⟨s1b, A1b, n1b, c1b, s2b, A2b, n2b, c2b⟩ := rb
  obtain ⟨s1c, A1c, n1c, c1c, s2c, A2c, n2c, c2c⟩ := rc
  dsimp only [frV, frC] at *
  clear hT hS hM
  go_enter Tryz.func4, Tryz.ntmps4
  go_wp2_with fail
  rw [← hW0]
  clear hW0
  have M := Lib.hid (small5_any W0 (HT.out.on B0.out) (HS.out.on B0.out) (HM.out.on B0.out HM.out.pos))
  (try dsimp only [frV] at M)
  go_wp2_with fail
  refine M.out.mono ?_
  rintro e wa1 ⟨rfl, hb⟩
  clear M
  have X := Lib.hid hb
  clear hb
  have Ba2 := Lib.hid (B0.out.trans (X.out.mono B0.out.size))
  have Kaa2 := Lib.hid (Ka.out.below X.out Ka.out.lt)
  have Kab2 := Lib.hid (Kb.out.below X.out Kb.out.lt)
  have Kac2 := Lib.hid (Kc.out.below X.out Kc.out.lt)
  clear X B0 Ka Kb Kc
  obtain ⟨za0, za1, za2, za3, -, -, -, -⟩ := fr_cells Kaa2.out
  have M := Lib.hid (few5_T ⟨s1a, A1a, n1a, c1a, s2a, A2a, n2a, c2a⟩ 12 wa1 HR0.out.1 HR0.out.2)
  (try dsimp only [frV] at M)
  go_wp2_with fail
  refine M.out.mono ?_
  rintro e wa3 ⟨rfl, hb⟩
  clear M
  have X := Lib.hid hb
  clear hb
  have Ba4 := Lib.hid (Ba2.out.trans (X.out.mono Ba2.out.size))
  have Kaa4 := Lib.hid (Kaa2.out.below X.out Kaa2.out.lt)
  have Kab4 := Lib.hid (Kab2.out.below X.out Kab2.out.lt)
  have Kac4 := Lib.hid (Kac2.out.below X.out Kac2.out.lt)
  clear X Ba2 Kaa2 Kab2 Kac2
  clear za0 za1 za2 za3
  obtain ⟨zb0, zb1, zb2, zb3, -, -, -, -⟩ := fr_cells Kab4.out
  have M := Lib.hid (few5_T ⟨s1b, A1b, n1b, c1b, s2b, A2b, n2b, c2b⟩ 12 wa3 HR1.out.1 HR1.out.2)
  (try dsimp only [frV] at M)
  go_wp2_with fail
  refine M.out.mono ?_
  rintro e wa5 ⟨rfl, hb⟩
  clear M
  have X := Lib.hid hb
  clear hb
  have Ba6 := Lib.hid (Ba4.out.trans (X.out.mono Ba4.out.size))
  have Kaa6 := Lib.hid (Kaa4.out.below X.out Kaa4.out.lt)
  have Kab6 := Lib.hid (Kab4.out.below X.out Kab4.out.lt)
  have Kac6 := Lib.hid (Kac4.out.below X.out Kac4.out.lt)
  clear X Ba4 Kaa4 Kab4 Kac4
  clear zb0 zb1 zb2 zb3
  obtain ⟨zc0, zc1, zc2, zc3, -, -, -, -⟩ := fr_cells Kac6.out
  have M := Lib.hid (few5_T ⟨s1c, A1c, n1c, c1c, s2c, A2c, n2c, c2c⟩ 12 wa5 HR2.out.1 HR2.out.2)
  (try dsimp only [frV] at M)
  go_wp2_with fail
  refine M.out.mono ?_
  rintro e wa7 ⟨rfl, hb⟩
  clear M
  have X := Lib.hid hb
  clear hb
  have Ba8 := Lib.hid (Ba6.out.trans (X.out.mono Ba6.out.size))
  have Kaa8 := Lib.hid (Kaa6.out.below X.out Kaa6.out.lt)
  have Kab8 := Lib.hid (Kab6.out.below X.out Kab6.out.lt)
  have Kac8 := Lib.hid (Kac6.out.below X.out Kac6.out.lt)
  clear X Ba6 Kaa6 Kab6 Kac6
  clear zc0 zc1 zc2 zc3
  obtain ⟨za0, za1, za2, za3, -, -, -, -⟩ := fr_cells Kaa8.out
  have M := Lib.hid (right_F ⟨s1a, A1a, n1a, c1a, s2a, A2a, n2a, c2a⟩ (HAa.out.past Ba8.out) (HT.out.on Ba8.out) (by have := HR0.out; dsimp only; omega) (by have := HR0.out; dsimp only; omega) (HAa.out.no Ba8.out HR3.out))
  (try dsimp only [frV] at M)
  go_wp2_with fail
  refine M.out.mono ?_
  rintro e wa9 ⟨rfl, hb⟩
  clear M
  have X := Lib.hid hb
  clear hb
  have Ba10 := Lib.hid (Ba8.out.trans (X.out.mono Ba8.out.size))
  have Kaa10 := Lib.hid (Kaa8.out.below X.out Kaa8.out.lt)
  have Kab10 := Lib.hid (Kab8.out.below X.out Kab8.out.lt)
  have Kac10 := Lib.hid (Kac8.out.below X.out Kac8.out.lt)
  clear X Ba8 Kaa8 Kab8 Kac8
  clear za0 za1 za2 za3
  go_wp2_with fail
  go_ret
  exact ⟨rfl, Ba10.out⟩
set_option maxHeartbeats 4000000 in
theorem order_e4 (ra : FrR) (l1a l2a : List Int) (rb : FrR) (l1b l2b : List Int) (rc : FrR) (l1c l2c : List Int) (w : World) (haa : FrArg w ra l1a l2a) (hab : FrArg w rb l1b l2b) (hac : FrArg w rc l1c l2c) (hT : TabZ w) (hS : Tab w) (hM : MaxL w) (t0 : (ra.n1 : Int) ≤ 12 ∧ (ra.n2 : Int) ≤ 12) (t1 : (rb.n1 : Int) ≤ 12 ∧ (rb.n2 : Int) ≤ 12) (t2 : (rc.n1 : Int) ≤ 12 ∧ (rc.n2 : Int) ≤ 12) (xa : Rat) (t3 : IsFr w ra xa) (t4 : ∀ x, ¬ IsFr w rb x) :
    Calls Tryz.prog 4 #[frV ra, frV rb, frV rc] w fun e w' => e = .returned (.bool true) ∧ Below w.heap.size w w' := by
  have HR0 := Lib.hid t0
  have HR1 := Lib.hid t1
  have HR2 := Lib.hid t2
  have HR3 := Lib.hid t3
  have HR4 := Lib.hid t4
  have HAa := Lib.hid haa
  have HAb := Lib.hid hab
  have HAc := Lib.hid hac
  clear t0 t1 t2 t3 t4 haa hab hac
  obtain ⟨W0, hW0⟩ : ∃ W0, W0 = ((w.alloc (.cells (frC ra) 26)).alloc (.cells (frC rb) 26)).alloc (.cells (frC rc) 26) := ⟨_, rfl⟩
  have B0 : Hid (Below w.heap.size w W0) := by show Below _ _ _; rw [hW0]; exact (bal (bal (bal (Below.refl w.heap.size w))))
  have Ka : Hid (Blk W0 (w.heap.size) 26 (frC ra)) := by show Blk _ _ _ _; rw [hW0]; exact (((Blk.new_ (by simp)).alloc _).alloc _)
  have Kb : Hid (Blk W0 (w.heap.size + 1) 26 (frC rb)) := by show Blk _ _ _ _; rw [hW0]; exact ((Blk.new_ (by simp)).alloc _)
  have Kc : Hid (Blk W0 (w.heap.size + 1 + 1) 26 (frC rc)) := by show Blk _ _ _ _; rw [hW0]; exact (Blk.new_ (by simp))
  have HT := Lib.hid hT
  have HS := Lib.hid hS
  have HM := Lib.hid hM
  obtain ⟨s1a, A1a, n1a, c1a, s2a, A2a, n2a, c2a⟩ := ra
  obtain ⟨s1b, A1b, n1b, c1b, s2b, A2b, n2b, c2b⟩ := rb
  obtain ⟨s1c, A1c, n1c, c1c, s2c, A2c, n2c, c2c⟩ := rc
  dsimp only [frV, frC] at *
  clear hT hS hM
  go_enter Tryz.func4, Tryz.ntmps4
  go_wp2_with fail
  rw [← hW0]
  clear hW0
  have M := Lib.hid (small5_any W0 (HT.out.on B0.out) (HS.out.on B0.out) (HM.out.on B0.out HM.out.pos))
  (try dsimp only [frV] at M)
  go_wp2_with fail
  refine M.out.mono ?_
  rintro e wa1 ⟨rfl, hb⟩
  clear M
  have X := Lib.hid hb
  clear hb
  have Ba2 := Lib.hid (B0.out.trans (X.out.mono B0.out.size))
  have Kaa2 := Lib.hid (Ka.out.below X.out Ka.out.lt)
  have Kab2 := Lib.hid (Kb.out.below X.out Kb.out.lt)
  have Kac2 := Lib.hid (Kc.out.below X.out Kc.out.lt)
  clear X B0 Ka Kb Kc
  obtain ⟨za0, za1, za2, za3, -, -, -, -⟩ := fr_cells Kaa2.out
  have M := Lib.hid (few5_T ⟨s1a, A1a, n1a, c1a, s2a, A2a, n2a, c2a⟩ 12 wa1 HR0.out.1 HR0.out.2)
  (try dsimp only [frV] at M)
  go_wp2_with fail
  refine M.out.mono ?_
  rintro e wa3 ⟨rfl, hb⟩
  clear M
  have X := Lib.hid hb
  clear hb
  have Ba4 := Lib.hid (Ba2.out.trans (X.out.mono Ba2.out.size))
  have Kaa4 := Lib.hid (Kaa2.out.below X.out Kaa2.out.lt)
  have Kab4 := Lib.hid (Kab2.out.below X.out Kab2.out.lt)
  have Kac4 := Lib.hid (Kac2.out.below X.out Kac2.out.lt)
  clear X Ba2 Kaa2 Kab2 Kac2
  clear za0 za1 za2 za3
  obtain ⟨zb0, zb1, zb2, zb3, -, -, -, -⟩ := fr_cells Kab4.out
  have M := Lib.hid (few5_T ⟨s1b, A1b, n1b, c1b, s2b, A2b, n2b, c2b⟩ 12 wa3 HR1.out.1 HR1.out.2)
  (try dsimp only [frV] at M)
  go_wp2_with fail
  refine M.out.mono ?_
  rintro e wa5 ⟨rfl, hb⟩
  clear M
  have X := Lib.hid hb
  clear hb
  have Ba6 := Lib.hid (Ba4.out.trans (X.out.mono Ba4.out.size))
  have Kaa6 := Lib.hid (Kaa4.out.below X.out Kaa4.out.lt)
  have Kab6 := Lib.hid (Kab4.out.below X.out Kab4.out.lt)
  have Kac6 := Lib.hid (Kac4.out.below X.out Kac4.out.lt)
  clear X Ba4 Kaa4 Kab4 Kac4
  clear zb0 zb1 zb2 zb3
  obtain ⟨zc0, zc1, zc2, zc3, -, -, -, -⟩ := fr_cells Kac6.out
  have M := Lib.hid (few5_T ⟨s1c, A1c, n1c, c1c, s2c, A2c, n2c, c2c⟩ 12 wa5 HR2.out.1 HR2.out.2)
  (try dsimp only [frV] at M)
  go_wp2_with fail
  refine M.out.mono ?_
  rintro e wa7 ⟨rfl, hb⟩
  clear M
  have X := Lib.hid hb
  clear hb
  have Ba8 := Lib.hid (Ba6.out.trans (X.out.mono Ba6.out.size))
  have Kaa8 := Lib.hid (Kaa6.out.below X.out Kaa6.out.lt)
  have Kab8 := Lib.hid (Kab6.out.below X.out Kab6.out.lt)
  have Kac8 := Lib.hid (Kac6.out.below X.out Kac6.out.lt)
  clear X Ba6 Kaa6 Kab6 Kac6
  clear zc0 zc1 zc2 zc3
  obtain ⟨za0, za1, za2, za3, -, -, -, -⟩ := fr_cells Kaa8.out
  have M := Lib.hid (right_T ⟨s1a, A1a, n1a, c1a, s2a, A2a, n2a, c2a⟩ (HR3.out.past Ba8.out) (HT.out.on Ba8.out) (by dsimp only; have := HR0.out; have := HR0.out; omega))
  (try dsimp only [frV] at M)
  go_wp2_with fail
  refine M.out.mono ?_
  rintro e wa9 ⟨rfl, hb⟩
  clear M
  have X := Lib.hid hb
  clear hb
  have Ba10 := Lib.hid (Ba8.out.trans (X.out.mono Ba8.out.size))
  have Kaa10 := Lib.hid (Kaa8.out.below X.out Kaa8.out.lt)
  have Kab10 := Lib.hid (Kab8.out.below X.out Kab8.out.lt)
  have Kac10 := Lib.hid (Kac8.out.below X.out Kac8.out.lt)
  clear X Ba8 Kaa8 Kab8 Kac8
  clear za0 za1 za2 za3
  obtain ⟨zb0, zb1, zb2, zb3, -, -, -, -⟩ := fr_cells Kab10.out
  have M := Lib.hid (right_F ⟨s1b, A1b, n1b, c1b, s2b, A2b, n2b, c2b⟩ (HAb.out.past Ba10.out) (HT.out.on Ba10.out) (by have := HR1.out; dsimp only; omega) (by have := HR1.out; dsimp only; omega) (HAb.out.no Ba10.out HR4.out))
  (try dsimp only [frV] at M)
  go_wp2_with fail
  refine M.out.mono ?_
  rintro e wa11 ⟨rfl, hb⟩
  clear M
  have X := Lib.hid hb
  clear hb
  have Ba12 := Lib.hid (Ba10.out.trans (X.out.mono Ba10.out.size))
  have Kaa12 := Lib.hid (Kaa10.out.below X.out Kaa10.out.lt)
  have Kab12 := Lib.hid (Kab10.out.below X.out Kab10.out.lt)
  have Kac12 := Lib.hid (Kac10.out.below X.out Kac10.out.lt)
  clear X Ba10 Kaa10 Kab10 Kac10
  clear zb0 zb1 zb2 zb3
  go_wp2_with fail
  go_ret
  exact ⟨rfl, Ba12.out⟩
set_option maxHeartbeats 4000000 in
theorem order_e5 (ra : FrR) (l1a l2a : List Int) (rb : FrR) (l1b l2b : List Int) (rc : FrR) (l1c l2c : List Int) (w : World) (haa : FrArg w ra l1a l2a) (hab : FrArg w rb l1b l2b) (hac : FrArg w rc l1c l2c) (hT : TabZ w) (hS : Tab w) (hM : MaxL w) (t0 : (ra.n1 : Int) ≤ 12 ∧ (ra.n2 : Int) ≤ 12) (t1 : (rb.n1 : Int) ≤ 12 ∧ (rb.n2 : Int) ≤ 12) (t2 : (rc.n1 : Int) ≤ 12 ∧ (rc.n2 : Int) ≤ 12) (xa : Rat) (t3 : IsFr w ra xa) (xb : Rat) (t4 : IsFr w rb xb) (t5 : ∀ x, ¬ IsFr w rc x) :
    Calls Tryz.prog 4 #[frV ra, frV rb, frV rc] w fun e w' => e = .returned (.bool true) ∧ Below w.heap.size w w' := by
  have HR0 := Lib.hid t0
  have HR1 := Lib.hid t1
  have HR2 := Lib.hid t2
  have HR3 := Lib.hid t3
  have HR4 := Lib.hid t4
  have HR5 := Lib.hid t5
  have HAa := Lib.hid haa
  have HAb := Lib.hid hab
  have HAc := Lib.hid hac
  clear t0 t1 t2 t3 t4 t5 haa hab hac
  obtain ⟨W0, hW0⟩ : ∃ W0, W0 = ((w.alloc (.cells (frC ra) 26)).alloc (.cells (frC rb) 26)).alloc (.cells (frC rc) 26) := ⟨_, rfl⟩
  have B0 : Hid (Below w.heap.size w W0) := by show Below _ _ _; rw [hW0]; exact (bal (bal (bal (Below.refl w.heap.size w))))
  have Ka : Hid (Blk W0 (w.heap.size) 26 (frC ra)) := by show Blk _ _ _ _; rw [hW0]; exact (((Blk.new_ (by simp)).alloc _).alloc _)
  have Kb : Hid (Blk W0 (w.heap.size + 1) 26 (frC rb)) := by show Blk _ _ _ _; rw [hW0]; exact ((Blk.new_ (by simp)).alloc _)
  have Kc : Hid (Blk W0 (w.heap.size + 1 + 1) 26 (frC rc)) := by show Blk _ _ _ _; rw [hW0]; exact (Blk.new_ (by simp))
  have HT := Lib.hid hT
  have HS := Lib.hid hS
  have HM := Lib.hid hM
  obtain ⟨s1a, A1a, n1a, c1a, s2a, A2a, n2a, c2a⟩ := ra
  obtain ⟨s1b, A1b, n1b, c1b, s2b, A2b, n2b, c2b⟩ := rb
  obtain ⟨s1c, A1c, n1c, c1c, s2c, A2c, n2c, c2c⟩ := rc
  dsimp only [frV, frC] at *
  clear hT hS hM
  go_enter Tryz.func4, Tryz.ntmps4
  go_wp2_with fail
  rw [← hW0]
  clear hW0
  have M := Lib.hid (small5_any W0 (HT.out.on B0.out) (HS.out.on B0.out) (HM.out.on B0.out HM.out.pos))
  (try dsimp only [frV] at M)
  go_wp2_with fail
  refine M.out.mono ?_
  rintro e wa1 ⟨rfl, hb⟩
  clear M
  have X := Lib.hid hb
  clear hb
  have Ba2 := Lib.hid (B0.out.trans (X.out.mono B0.out.size))
  have Kaa2 := Lib.hid (Ka.out.below X.out Ka.out.lt)
  have Kab2 := Lib.hid (Kb.out.below X.out Kb.out.lt)
  have Kac2 := Lib.hid (Kc.out.below X.out Kc.out.lt)
  clear X B0 Ka Kb Kc
  obtain ⟨za0, za1, za2, za3, -, -, -, -⟩ := fr_cells Kaa2.out
  have M := Lib.hid (few5_T ⟨s1a, A1a, n1a, c1a, s2a, A2a, n2a, c2a⟩ 12 wa1 HR0.out.1 HR0.out.2)
  (try dsimp only [frV] at M)
  go_wp2_with fail
  refine M.out.mono ?_
  rintro e wa3 ⟨rfl, hb⟩
  clear M
  have X := Lib.hid hb
  clear hb
  have Ba4 := Lib.hid (Ba2.out.trans (X.out.mono Ba2.out.size))
  have Kaa4 := Lib.hid (Kaa2.out.below X.out Kaa2.out.lt)
  have Kab4 := Lib.hid (Kab2.out.below X.out Kab2.out.lt)
  have Kac4 := Lib.hid (Kac2.out.below X.out Kac2.out.lt)
  clear X Ba2 Kaa2 Kab2 Kac2
  clear za0 za1 za2 za3
  obtain ⟨zb0, zb1, zb2, zb3, -, -, -, -⟩ := fr_cells Kab4.out
  have M := Lib.hid (few5_T ⟨s1b, A1b, n1b, c1b, s2b, A2b, n2b, c2b⟩ 12 wa3 HR1.out.1 HR1.out.2)
  (try dsimp only [frV] at M)
  go_wp2_with fail
  refine M.out.mono ?_
  rintro e wa5 ⟨rfl, hb⟩
  clear M
  have X := Lib.hid hb
  clear hb
  have Ba6 := Lib.hid (Ba4.out.trans (X.out.mono Ba4.out.size))
  have Kaa6 := Lib.hid (Kaa4.out.below X.out Kaa4.out.lt)
  have Kab6 := Lib.hid (Kab4.out.below X.out Kab4.out.lt)
  have Kac6 := Lib.hid (Kac4.out.below X.out Kac4.out.lt)
  clear X Ba4 Kaa4 Kab4 Kac4
  clear zb0 zb1 zb2 zb3
  obtain ⟨zc0, zc1, zc2, zc3, -, -, -, -⟩ := fr_cells Kac6.out
  have M := Lib.hid (few5_T ⟨s1c, A1c, n1c, c1c, s2c, A2c, n2c, c2c⟩ 12 wa5 HR2.out.1 HR2.out.2)
  (try dsimp only [frV] at M)
  go_wp2_with fail
  refine M.out.mono ?_
  rintro e wa7 ⟨rfl, hb⟩
  clear M
  have X := Lib.hid hb
  clear hb
  have Ba8 := Lib.hid (Ba6.out.trans (X.out.mono Ba6.out.size))
  have Kaa8 := Lib.hid (Kaa6.out.below X.out Kaa6.out.lt)
  have Kab8 := Lib.hid (Kab6.out.below X.out Kab6.out.lt)
  have Kac8 := Lib.hid (Kac6.out.below X.out Kac6.out.lt)
  clear X Ba6 Kaa6 Kab6 Kac6
  clear zc0 zc1 zc2 zc3
  obtain ⟨za0, za1, za2, za3, -, -, -, -⟩ := fr_cells Kaa8.out
  have M := Lib.hid (right_T ⟨s1a, A1a, n1a, c1a, s2a, A2a, n2a, c2a⟩ (HR3.out.past Ba8.out) (HT.out.on Ba8.out) (by dsimp only; have := HR0.out; have := HR0.out; omega))
  (try dsimp only [frV] at M)
  go_wp2_with fail
  refine M.out.mono ?_
  rintro e wa9 ⟨rfl, hb⟩
  clear M
  have X := Lib.hid hb
  clear hb
  have Ba10 := Lib.hid (Ba8.out.trans (X.out.mono Ba8.out.size))
  have Kaa10 := Lib.hid (Kaa8.out.below X.out Kaa8.out.lt)
  have Kab10 := Lib.hid (Kab8.out.below X.out Kab8.out.lt)
  have Kac10 := Lib.hid (Kac8.out.below X.out Kac8.out.lt)
  clear X Ba8 Kaa8 Kab8 Kac8
  clear za0 za1 za2 za3
  obtain ⟨zb0, zb1, zb2, zb3, -, -, -, -⟩ := fr_cells Kab10.out
  have M := Lib.hid (right_T ⟨s1b, A1b, n1b, c1b, s2b, A2b, n2b, c2b⟩ (HR4.out.past Ba10.out) (HT.out.on Ba10.out) (by dsimp only; have := HR1.out; have := HR1.out; omega))
  (try dsimp only [frV] at M)
  go_wp2_with fail
  refine M.out.mono ?_
  rintro e wa11 ⟨rfl, hb⟩
  clear M
  have X := Lib.hid hb
  clear hb
  have Ba12 := Lib.hid (Ba10.out.trans (X.out.mono Ba10.out.size))
  have Kaa12 := Lib.hid (Kaa10.out.below X.out Kaa10.out.lt)
  have Kab12 := Lib.hid (Kab10.out.below X.out Kab10.out.lt)
  have Kac12 := Lib.hid (Kac10.out.below X.out Kac10.out.lt)
  clear X Ba10 Kaa10 Kab10 Kac10
  clear zb0 zb1 zb2 zb3
  obtain ⟨zc0, zc1, zc2, zc3, -, -, -, -⟩ := fr_cells Kac12.out
  have M := Lib.hid (right_F ⟨s1c, A1c, n1c, c1c, s2c, A2c, n2c, c2c⟩ (HAc.out.past Ba12.out) (HT.out.on Ba12.out) (by have := HR2.out; dsimp only; omega) (by have := HR2.out; dsimp only; omega) (HAc.out.no Ba12.out HR5.out))
  (try dsimp only [frV] at M)
  go_wp2_with fail
  refine M.out.mono ?_
  rintro e wa13 ⟨rfl, hb⟩
  clear M
  have X := Lib.hid hb
  clear hb
  have Ba14 := Lib.hid (Ba12.out.trans (X.out.mono Ba12.out.size))
  have Kaa14 := Lib.hid (Kaa12.out.below X.out Kaa12.out.lt)
  have Kab14 := Lib.hid (Kab12.out.below X.out Kab12.out.lt)
  have Kac14 := Lib.hid (Kac12.out.below X.out Kac12.out.lt)
  clear X Ba12 Kaa12 Kab12 Kac12
  clear zc0 zc1 zc2 zc3
  go_wp2_with fail
  go_ret
  exact ⟨rfl, Ba14.out⟩
end Go.Proofs.YtmkhoofeekollaaGreatDoor
