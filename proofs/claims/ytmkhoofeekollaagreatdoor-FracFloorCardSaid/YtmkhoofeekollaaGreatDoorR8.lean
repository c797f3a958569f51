/- The walk of the law FracFloor. Conditions: the arguments' memory; the tables of math/bits and strconv as their texts lay them; the variable MaxLen of internal/bytealg holds an int. -/
import Derived.Test.YtmkhoofeekollaaGreatDoorR5
import Derived.Deep.DeepCutAuto
namespace Go.Proofs.YtmkhoofeekollaaGreatDoor
set_option maxRecDepth 20000
open Go.RowKit

theorem ratio_int (n : Int) : ratio n 1 = (n : Rat) := by
  unfold ratio
  rw [Rat.divInt_eq_div]
  grind
theorem floor_low (x : Rat) : ordR (ratio x.floor 1) x ≤ 0 := by
  rw [ratio_int]
  exact ordR_le.2 (Rat.floor_le x)
theorem floor_high (x : Rat) : ordR (ratio (x.floor + 1) 1) x = 1 := by
  rw [ratio_int]
  exact ordR_gt (Rat.lt_floor_add_one x)
theorem floor_neg_int {x : Rat} (h : ratio x.floor 1 = x) : (-x).floor = -x.floor := by
  rw [ratio_int] at h
  have e : -x = ((-x.floor : Int) : Rat) := by rw [Rat.intCast_neg, h]
  rw [e, Rat.floor_intCast]
theorem floor_neg_no {x : Rat} (h : ratio x.floor 1 ≠ x) : (-x).floor = -(x.floor + 1) := by
  rw [ratio_int] at h
  have h1 := Rat.floor_le x
  have h2 := Rat.lt_floor_add_one x
  have h3 := Rat.floor_le (-x)
  have h4 := Rat.lt_floor_add_one (-x)
  have a1 : ((-x).floor : Rat) < ((-x.floor : Int) : Rat) := by
    rw [Rat.intCast_neg]
    grind
  have a2 : ((-(x.floor + 1) : Int) : Rat) < (((-x).floor + 1 : Int) : Rat) := by
    rw [Rat.intCast_neg]
    grind
  have b1 := Rat.intCast_lt_intCast.1 a1
  have b2 := Rat.intCast_lt_intCast.1 a2
  omega
theorem neg_bg {w : World} {k : Nat} {x : Rat} {s : Int} {A : Option Addr} {n : Nat} (h : Bg w k (-x.num) s A n) : Bg w k (-x).num s A n := by rw [Rat.neg_num]; exact h
theorem neg_den {w : World} {k : Nat} {x : Rat} {s : Int} {A : Option Addr} {n : Nat} (h : Bg w k (x.den : Int) s A n) : Bg w k ((-x).den : Int) s A n := by rw [Rat.neg_den]; exact h
set_option maxHeartbeats 4000000 in
theorem floor_e0 (ra : FrR) (l1a l2a : List Int) (z : Int) (w : World) (haa : FrArg w ra l1a l2a) (hT : TabZ w) (hS : Tab w) (hM : MaxL w)  (t0 : (30 : Int) < (ra.n1 : Int) ∨ (30 : Int) < (ra.n2 : Int)) :
    Calls Tryz.prog 6 #[frV ra, .int .i64 z] w fun e w' => e = .returned (.bool true) ∧ Below w.heap.size w w' := by
  have HR0 := Lib.hid t0
  have HAa := Lib.hid haa
  clear t0 haa
  obtain ⟨W0, hW0⟩ : ∃ W0, W0 = w.alloc (.cells (frC ra) 26) := ⟨_, rfl⟩
  have B0 : Hid (Below w.heap.size w W0) := by show Below _ _ _; rw [hW0]; exact (bal (Below.refl w.heap.size w))
  have Ka : Hid (Blk W0 (w.heap.size) 26 (frC ra)) := by show Blk _ _ _ _; rw [hW0]; exact (Blk.new_ (by simp))
  have HT := Lib.hid hT
  have HS := Lib.hid hS
  have HM := Lib.hid hM
  obtain ⟨s1a, A1a, n1a, c1a, s2a, A2a, n2a, c2a⟩ := ra
  dsimp only [frV, frC] at *
  clear hT hS hM
  go_enter Tryz.func6, Tryz.ntmps6
  go_wp2_with fail
  rw [← hW0]
  clear hW0
  have M := Lib.hid (small5_any W0 (HT.out.on B0.out) (HS.out.on B0.out) (HM.out.on B0.out HM.out.pos))
  (try dsimp only [frV] at M)
  go_wp2_with fail
  refine M.out.mono ?_
  rintro e wa1 ⟨rfl, hb⟩
  clear M
  have X := Lib.hid hb
  clear hb
  have Ba2 := Lib.hid (B0.out.trans (X.out.mono B0.out.size))
  have Kaa2 := Lib.hid (Ka.out.below X.out Ka.out.lt)
  clear X B0 Ka
  obtain ⟨za0, za1, za2, za3, -, -, -, -⟩ := fr_cells Kaa2.out
  have M := Lib.hid (few5_F ⟨s1a, A1a, n1a, c1a, s2a, A2a, n2a, c2a⟩ 30 wa1 HR0.out)
  (try dsimp only [frV] at M)
  go_wp2_with fail
  refine M.out.mono ?_
  rintro e wa3 ⟨rfl, hb⟩
  clear M
  have X := Lib.hid hb
  clear hb
  have Ba4 := Lib.hid (Ba2.out.trans (X.out.mono Ba2.out.size))
  have Kaa4 := Lib.hid (Kaa2.out.below X.out Kaa2.out.lt)
  clear X Ba2 Kaa2
  clear za0 za1 za2 za3
  go_wp2_with fail
  go_ret
  exact ⟨rfl, Ba4.out⟩
set_option maxHeartbeats 4000000 in
theorem floor_e1 (ra : FrR) (l1a l2a : List Int) (z : Int) (w : World) (haa : FrArg w ra l1a l2a) (hT : TabZ w) (hS : Tab w) (hM : MaxL w) (t0 : (ra.n1 : Int) ≤ 30 ∧ (ra.n2 : Int) ≤ 30) (t1 : ∀ x, ¬ IsFr w ra x) :
    Calls Tryz.prog 6 #[frV ra, .int .i64 z] w fun e w' => e = .returned (.bool true) ∧ Below w.heap.size w w' := by
  have HR0 := Lib.hid t0
  have HR1 := Lib.hid t1
  have HAa := Lib.hid haa
  clear t0 t1 haa
  obtain ⟨W0, hW0⟩ : ∃ W0, W0 = w.alloc (.cells (frC ra) 26) := ⟨_, rfl⟩
  have B0 : Hid (Below w.heap.size w W0) := by show Below _ _ _; rw [hW0]; exact (bal (Below.refl w.heap.size w))
  have Ka : Hid (Blk W0 (w.heap.size) 26 (frC ra)) := by show Blk _ _ _ _; rw [hW0]; exact (Blk.new_ (by simp))
  have HT := Lib.hid hT
  have HS := Lib.hid hS
  have HM := Lib.hid hM
  obtain ⟨s1a, A1a, n1a, c1a, s2a, A2a, n2a, c2a⟩ := ra
  dsimp only [frV, frC] at *
  clear hT hS hM
  go_enter Tryz.func6, Tryz.ntmps6
  go_wp2_with fail
  rw [← hW0]
  clear hW0
  have M := Lib.hid (small5_any W0 (HT.out.on B0.out) (HS.out.on B0.out) (HM.out.on B0.out HM.out.pos))
  (try dsimp only [frV] at M)
  go_wp2_with fail
  refine M.out.mono ?_
  rintro e wa1 ⟨rfl, hb⟩
  clear M
  have X := Lib.hid hb
  clear hb
  have Ba2 := Lib.hid (B0.out.trans (X.out.mono B0.out.size))
  have Kaa2 := Lib.hid (Ka.out.below X.out Ka.out.lt)
  clear X B0 Ka
  obtain ⟨za0, za1, za2, za3, -, -, -, -⟩ := fr_cells Kaa2.out
  have M := Lib.hid (few5_T ⟨s1a, A1a, n1a, c1a, s2a, A2a, n2a, c2a⟩ 30 wa1 HR0.out.1 HR0.out.2)
  (try dsimp only [frV] at M)
  go_wp2_with fail
  refine M.out.mono ?_
  rintro e wa3 ⟨rfl, hb⟩
  clear M
  have X := Lib.hid hb
  clear hb
  have Ba4 := Lib.hid (Ba2.out.trans (X.out.mono Ba2.out.size))
  have Kaa4 := Lib.hid (Kaa2.out.below X.out Kaa2.out.lt)
  clear X Ba2 Kaa2
  clear za0 za1 za2 za3
  obtain ⟨za0, za1, za2, za3, -, -, -, -⟩ := fr_cells Kaa4.out
  have M := Lib.hid (right_F ⟨s1a, A1a, n1a, c1a, s2a, A2a, n2a, c2a⟩ (HAa.out.past Ba4.out) (HT.out.on Ba4.out) (by have := HR0.out; dsimp only; omega) (by have := HR0.out; dsimp only; omega) (HAa.out.no Ba4.out HR1.out))
  (try dsimp only [frV] at M)
  go_wp2_with fail
  refine M.out.mono ?_
  rintro e wa5 ⟨rfl, hb⟩
  clear M
  have X := Lib.hid hb
  clear hb
  have Ba6 := Lib.hid (Ba4.out.trans (X.out.mono Ba4.out.size))
  have Kaa6 := Lib.hid (Kaa4.out.below X.out Kaa4.out.lt)
  clear X Ba4 Kaa4
  clear za0 za1 za2 za3
  go_wp2_with fail
  go_ret
  exact ⟨rfl, Ba6.out⟩
end Go.Proofs.YtmkhoofeekollaaGreatDoor
