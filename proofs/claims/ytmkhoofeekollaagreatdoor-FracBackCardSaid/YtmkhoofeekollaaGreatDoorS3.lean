/- The walk of the law FracBack. Conditions: the arguments' memory; the tables of math/bits and strconv as their texts lay them; the variable MaxLen of internal/bytealg holds an int. -/
import Derived.Test.YtmkhoofeekollaaGreatDoorS2
import Derived.Deep.DeepCutAuto
namespace Go.Proofs.YtmkhoofeekollaaGreatDoor
set_option maxRecDepth 20000
open Go.RowKit

/-- What Read has told of a string. -/
def Got (s : ByteArray) (er : Int) (w : World) (r : FrR) : Prop := (er = 0 ∧ ∃ x, s.data.toList = txtF x ∧ Fg w 50 x r) ∨ (er = 2 ∧ r = ⟨0, none, 0, 0, 0, none, 0, 0⟩)
theorem Got.past {s : ByteArray} {er : Int} {w w' : World} {r : FrR} (h : Got s er w r) (hb : Below w.heap.size w w') : Got s er w' r := by
  rcases h with ⟨h, x, e, g⟩ | h
  · exact .inl ⟨h, x, e, g.past hb⟩
  · exact .inr h
section
variable {w : World} {k : Nat} {x : Rat}
theorem read_all (s : ByteArray) (hs : s.size ≤ 300) (hT : TabZ w) (hM : MaxL w) :
    Calls Tryz.prog 27 #[.string s] w fun e w' => ∃ (er : Int) (r : FrR), e = .returned (.tuple #[frV r, .int .i64 er]) ∧ Got s er w' r ∧ Below w.heap.size w w' := by
  by_cases h : ∃ x, txtF x = s.data.toList
  · obtain ⟨x, h⟩ := h
    obtain ⟨h1, h2, h3, h4⟩ := read_sz (x := x) (by rw [h, size_list]; exact hs)
    refine (read_yes s x h.symm h3 h4 hT hM).mono ?_
    rintro e w' ⟨r, rfl, -, -, hf, -, -, hb⟩
    exact ⟨0, r, rfl, .inl ⟨rfl, x, h.symm, hf.1.as h1, hf.2.as h2⟩, hb⟩
  · refine (read_no s (fun x hx => h ⟨x, hx⟩) (by omega) hT hM).mono ?_
    rintro e w' ⟨rfl, hb⟩
    exact ⟨2, ⟨0, none, 0, 0, 0, none, 0, 0⟩, rfl, .inr ⟨rfl, rfl⟩, hb⟩
theorem text_is (r : FrR) (t : ByteArray) (h1 : Fg w k x r) (ht : t.data.toList = txtF x) (hT : TabZ w) (hS : Tab w) (hk : k ≤ 60) :
    Calls Tryz.prog 28 #[frV r] w fun e w' => e = .returned (.string t) ∧ Below w.heap.size w w' := by
  have h := text_R r h1 hT hS hk
  have e : (⟨(txtF x).toArray⟩ : ByteArray) = t := by rw [← ht]
  rwa [e] at h
theorem same_zero : Calls Tryz.prog 16 #[frV ⟨0, none, 0, 0, 0, none, 0, 0⟩, frV ⟨0, none, 0, 0, 0, none, 0, 0⟩] w fun e w' => e = .returned (.bool true) ∧ Below w.heap.size w w' :=
  frSame5_any (k := 4) (p := 0) (q := 0) (p2 := 0) (q2 := 0) ⟨0, none, 0, 0, 0, none, 0, 0⟩ ⟨0, none, 0, 0, 0, none, 0, 0⟩ (Bg.nil w 4) (Bg.nil w 4) (Bg.nil w 4) (Bg.nil w 4) (by decide) (b1 := true) (b2 := true) (by decide) (by decide)
theorem ratio_self (x : Rat) : ratio x.num (x.den : Int) = x := Rat.num_divInt_den x
theorem ratio_mul (x : Rat) {z : Int} (hz : z ≠ 0) : ratio (x.num * z) ((x.den : Int) * z) = x := by
  unfold ratio
  rw [Rat.divInt_mul_right hz]
  exact Rat.num_divInt_den x
theorem new_self (r : FrR) (h : Fg w k x r) (hT : TabZ w) (hk : k ≤ 100000) :
    Calls Tryz.prog 29 #[.agg #[.int .i64 r.s1, .slice r.A1 r.n1 r.c1], .agg #[.int .i64 r.s2, .slice r.A2 r.n2 r.c2]] w (OkR w k x) := by
  have := new_R r h.1 h.2 (by have := x.den_pos; omega) hT hk
  rwa [ratio_self] at this
theorem new_times (r : FrR) {z : Int} (hz : z ≠ 0) (h1 : Bg w k (x.num * z) r.s1 r.A1 r.n1) (h2 : Bg w k ((x.den : Int) * z) r.s2 r.A2 r.n2) (hT : TabZ w) (hk : k ≤ 100000) :
    Calls Tryz.prog 29 #[.agg #[.int .i64 r.s1, .slice r.A1 r.n1 r.c1], .agg #[.int .i64 r.s2, .slice r.A2 r.n2 r.c2]] w (OkR w k x) := by
  have := new_R r h1 h2 (Int.mul_ne_zero (by have := x.den_pos; omega) hz) hT hk
  rwa [ratio_mul x hz] at this
end
set_option maxHeartbeats 4000000 in
theorem back_e0 (ra : FrR) (l1a l2a : List Int) (z : Int) (s : ByteArray) (w : World) (_haa : FrArg w ra l1a l2a) (hT : TabZ w) (hS : Tab w) (hM : MaxL w) (t : (40 : Int) < (ra.n1 : Int) ∨ (40 : Int) < (ra.n2 : Int)) :
    Calls Tryz.prog 5 #[frV ra, .int .i64 z, .string s] w fun e w' => e = .returned (.bool true) ∧ Below w.heap.size w w' := by
  have HR := Lib.hid t
  clear t _haa
  obtain ⟨W0, hW0⟩ : ∃ W0, W0 = w.alloc (.cells (frC ra) 26) := ⟨_, rfl⟩
  have B0 : Hid (Below w.heap.size w W0) := by show Below _ _ _; rw [hW0]; exact bal (Below.refl w.heap.size w)
  have Kf : Hid (Blk W0 w.heap.size 26 (frC ra)) := by show Blk _ _ _ _; rw [hW0]; exact Blk.new_ (by simp)
  have HT := Lib.hid hT
  have HS := Lib.hid hS
  have HM := Lib.hid hM
  obtain ⟨s1a, A1a, n1a, c1a, s2a, A2a, n2a, c2a⟩ := ra
  dsimp only [frV, frC] at *
  clear hT hS hM
  go_enter Tryz.func5, Tryz.ntmps5
  go_wp2_with fail
  rw [← hW0]
  clear hW0
  have M := Lib.hid (small5_any W0 (HT.out.on B0.out) (HS.out.on B0.out) (HM.out.on B0.out HM.out.pos))
  (try dsimp only [frV] at M)
  go_wp2_with fail
  refine M.out.mono ?_
  rintro e w1 ⟨rfl, hb⟩
  clear M
  have X := Lib.hid hb
  clear hb
  have B2 := Lib.hid (B0.out.trans (X.out.mono B0.out.size))
  have Kf2 := Lib.hid (Kf.out.below X.out Kf.out.lt)
  clear X B0 Kf
  obtain ⟨zf0, zf1, zf2, zf3, -, -, -, -⟩ := fr_cells Kf2.out
  have M := Lib.hid (few5_F ⟨s1a, A1a, n1a, c1a, s2a, A2a, n2a, c2a⟩ 40 w1 HR.out)
  (try dsimp only [frV] at M)
  go_wp2_with fail
  refine M.out.mono ?_
  rintro e w3 ⟨rfl, hb⟩
  clear M
  have X := Lib.hid hb
  clear hb
  have B4 := Lib.hid (B2.out.trans (X.out.mono B2.out.size))
  have Kf4 := Lib.hid (Kf2.out.below X.out Kf2.out.lt)
  clear X B2 Kf2
  clear zf0 zf1 zf2 zf3
  go_wp2_with fail
  go_ret
  exact ⟨rfl, B4.out⟩
set_option maxHeartbeats 4000000 in
theorem back_e1 (ra : FrR) (l1a l2a : List Int) (z : Int) (s : ByteArray) (w : World) (_haa : FrArg w ra l1a l2a) (hT : TabZ w) (hS : Tab w) (hM : MaxL w) (t : (ra.n1 : Int) ≤ 40 ∧ (ra.n2 : Int) ≤ 40) (hl : (300 : Int) < (s.size : Int)) :
    Calls Tryz.prog 5 #[frV ra, .int .i64 z, .string s] w fun e w' => e = .returned (.bool true) ∧ Below w.heap.size w w' := by
  have HR := Lib.hid t
  clear t _haa
  obtain ⟨W0, hW0⟩ : ∃ W0, W0 = w.alloc (.cells (frC ra) 26) := ⟨_, rfl⟩
  have B0 : Hid (Below w.heap.size w W0) := by show Below _ _ _; rw [hW0]; exact bal (Below.refl w.heap.size w)
  have Kf : Hid (Blk W0 w.heap.size 26 (frC ra)) := by show Blk _ _ _ _; rw [hW0]; exact Blk.new_ (by simp)
  have HT := Lib.hid hT
  have HS := Lib.hid hS
  have HM := Lib.hid hM
  obtain ⟨s1a, A1a, n1a, c1a, s2a, A2a, n2a, c2a⟩ := ra
  dsimp only [frV, frC] at *
  clear hT hS hM
  go_enter Tryz.func5, Tryz.ntmps5
  go_wp2_with fail
  rw [← hW0]
  clear hW0
  have M := Lib.hid (small5_any W0 (HT.out.on B0.out) (HS.out.on B0.out) (HM.out.on B0.out HM.out.pos))
  (try dsimp only [frV] at M)
  go_wp2_with fail
  refine M.out.mono ?_
  rintro e w1 ⟨rfl, hb⟩
  clear M
  have X := Lib.hid hb
  clear hb
  have B2 := Lib.hid (B0.out.trans (X.out.mono B0.out.size))
  have Kf2 := Lib.hid (Kf.out.below X.out Kf.out.lt)
  clear X B0 Kf
  obtain ⟨zf0, zf1, zf2, zf3, -, -, -, -⟩ := fr_cells Kf2.out
  have M := Lib.hid (few5_T ⟨s1a, A1a, n1a, c1a, s2a, A2a, n2a, c2a⟩ 40 w1 HR.out.1 HR.out.2)
  (try dsimp only [frV] at M)
  go_wp2_with fail
  refine M.out.mono ?_
  rintro e w3 ⟨rfl, hb⟩
  clear M
  have X := Lib.hid hb
  clear hb
  have B4 := Lib.hid (B2.out.trans (X.out.mono B2.out.size))
  have Kf4 := Lib.hid (Kf2.out.below X.out Kf2.out.lt)
  clear X B2 Kf2
  clear zf0 zf1 zf2 zf3
  go_wp2_with fail
  go_ret
  exact ⟨rfl, B4.out⟩
set_option maxHeartbeats 16000000 in
theorem back_no (ra : FrR) (l1a l2a : List Int) (z : Int) (s : ByteArray) (w : World) (haa : FrArg w ra l1a l2a) (hT : TabZ w) (hS : Tab w) (hM : MaxL w) (t : (ra.n1 : Int) ≤ 40 ∧ (ra.n2 : Int) ≤ 40) (hl : (s.size : Int) ≤ 300) (u : ∀ x, ¬ IsFr w ra x) :
    Calls Tryz.prog 5 #[frV ra, .int .i64 z, .string s] w fun e w' => e = .returned (.bool true) ∧ Below w.heap.size w w' := by
  have HR := Lib.hid t
  have hl2 : ¬ (300 : Int) < (s.size : Int) := by omega
  have HL : Hid (s.size ≤ 300) := by show _ ≤ _; omega
  have HA := Lib.hid haa
  have HU := Lib.hid u
  clear t u hl haa
  obtain ⟨W0, hW0⟩ : ∃ W0, W0 = w.alloc (.cells (frC ra) 26) := ⟨_, rfl⟩
  have B0 : Hid (Below w.heap.size w W0) := by show Below _ _ _; rw [hW0]; exact bal (Below.refl w.heap.size w)
  have Kf : Hid (Blk W0 w.heap.size 26 (frC ra)) := by show Blk _ _ _ _; rw [hW0]; exact Blk.new_ (by simp)
  have HT := Lib.hid hT
  have HS := Lib.hid hS
  have HM := Lib.hid hM
  obtain ⟨s1a, A1a, n1a, c1a, s2a, A2a, n2a, c2a⟩ := ra
  dsimp only [frV, frC] at *
  clear hT hS hM
  go_enter Tryz.func5, Tryz.ntmps5
  go_wp2_with fail
  rw [← hW0]
  clear hW0
  have M := Lib.hid (small5_any W0 (HT.out.on B0.out) (HS.out.on B0.out) (HM.out.on B0.out HM.out.pos))
  (try dsimp only [frV] at M)
  go_wp2_with fail
  refine M.out.mono ?_
  rintro e w1 ⟨rfl, hb⟩
  clear M
  have X := Lib.hid hb
  clear hb
  have B2 := Lib.hid (B0.out.trans (X.out.mono B0.out.size))
  have Kf2 := Lib.hid (Kf.out.below X.out Kf.out.lt)
  clear X B0 Kf
  obtain ⟨zf0, zf1, zf2, zf3, -, -, -, -⟩ := fr_cells Kf2.out
  have M := Lib.hid (few5_T ⟨s1a, A1a, n1a, c1a, s2a, A2a, n2a, c2a⟩ 40 w1 HR.out.1 HR.out.2)
  (try dsimp only [frV] at M)
  go_wp2_with fail
  refine M.out.mono ?_
  rintro e w3 ⟨rfl, hb⟩
  clear M
  have X := Lib.hid hb
  clear hb
  have B4 := Lib.hid (B2.out.trans (X.out.mono B2.out.size))
  have Kf4 := Lib.hid (Kf2.out.below X.out Kf2.out.lt)
  clear X B2 Kf2
  clear zf0 zf1 zf2 zf3
  have M := Lib.hid (read_all s HL.out (HT.out.on B4.out) (HM.out.on B4.out HM.out.pos))
  (try dsimp only [frV] at M)
  go_wp2_with fail
  refine M.out.mono ?_
  rintro e w5 ⟨er, ⟨s1g, A1g, n1g, c1g, s2g, A2g, n2g, c2g⟩, rfl, hd, hb⟩
  clear M
  (try dsimp only [frV])
  have X := Lib.hid hb
  have Gg := Lib.hid hd
  clear hd hb
  have B6 := Lib.hid (B4.out.trans (X.out.mono B4.out.size))
  have Kf6 := Lib.hid (Kf4.out.below X.out Kf4.out.lt)
  clear X B4 Kf4
  have log : w.heap.size ≤ w5.heap.size := B6.out.size
  obtain ⟨w7, hw⟩ : ∃ W, W = w5.alloc (.cells #[.int .i64 s1g, .slice A1g n1g c1g, .int .i64 s2g, .slice A2g n2g c2g] 26) := ⟨_, rfl⟩
  obtain ⟨bg, hbb⟩ : ∃ b, b = w5.heap.size := ⟨_, rfl⟩
  have X := Lib.hid (bal (Below.refl w5.heap.size w5) (o := .cells #[.int .i64 s1g, .slice A1g n1g c1g, .int .i64 s2g, .slice A2g n2g c2g] 26))
  rw [← hw] at X
  have Kg := Lib.hid (Blk.new w5 26 #[.int .i64 s1g, .slice A1g n1g c1g, .int .i64 s2g, .slice A2g n2g c2g])
  rw [← hw, ← hbb] at Kg
  rw [← hbb] at log
  go_upto_region 5 with (fail)
  rw [← hw, ← hbb]
  clear hw hbb
  have B8 := Lib.hid (B6.out.trans (X.out.mono B6.out.size))
  have Kf8 := Lib.hid (Kf6.out.below X.out Kf6.out.lt)
  have Gg8 := Lib.hid (Gg.out.past X.out)
  clear X B6 Kf6 Gg
  go_cut [62] (fun p1 wc => p1 = .bool false ∧ Below w7.heap.size w7 wc)
  case first => as_aux_lemma =>
   have BR := Lib.hid (Below.refl w7.heap.size w7)
   rcases Gg8.out with ⟨rfl, x, hx, hf⟩ | ⟨rfl, hr⟩
   · have HX := Lib.hid hx
     have Gx := Lib.hid hf
     clear hx hf
     obtain ⟨zg0, zg1, zg2, zg3, -, -, -, -⟩ := fr_cells Kg.out
     have M := Lib.hid (right_T ⟨s1g, A1g, n1g, c1g, s2g, A2g, n2g, c2g⟩ Gx.out (HT.out.on (B8.out.trans (BR.out.mono B8.out.size))) (by decide))
     (try dsimp only [frV] at M)
     go_wp2_with fail
     refine M.out.mono ?_
     rintro e w9 ⟨rfl, hb⟩
     clear M
     have X := Lib.hid hb
     clear hb
     have B10 := Lib.hid (BR.out.trans (X.out.mono BR.out.size))
     have Kf10 := Lib.hid (Kf8.out.below X.out Kf8.out.lt)
     have Kg10 := Lib.hid (Kg.out.below X.out Kg.out.lt)
     have Gg10 := Lib.hid (Gx.out.past X.out)
     clear X BR Kf8 Kg Gx
     clear zg0 zg1 zg2 zg3
     obtain ⟨zg0, zg1, zg2, zg3, -, -, -, -⟩ := fr_cells Kg10.out
     have M := Lib.hid (text_is (k := 50) ⟨s1g, A1g, n1g, c1g, s2g, A2g, n2g, c2g⟩ s Gg10.out HX.out (HT.out.on (B8.out.trans (B10.out.mono B8.out.size))) (HS.out.on (B8.out.trans (B10.out.mono B8.out.size))) (by decide))
     (try dsimp only [frV] at M)
     go_wp2_with fail
     refine M.out.mono ?_
     rintro e w11 ⟨rfl, hb⟩
     clear M
     have X := Lib.hid hb
     clear hb
     have B12 := Lib.hid (B10.out.trans (X.out.mono B10.out.size))
     have Kf12 := Lib.hid (Kf10.out.below X.out Kf10.out.lt)
     have Kg12 := Lib.hid (Kg10.out.below X.out Kg10.out.lt)
     have Gg12 := Lib.hid (Gg10.out.past X.out)
     clear X B10 Kf10 Kg10 Gg10
     clear zg0 zg1 zg2 zg3
     go_wp2_with fail
     go_meet
     exact ⟨rfl, B12.out⟩
   · obtain ⟨rfl, rfl, rfl, rfl, rfl, rfl, rfl, rfl⟩ := FrR.mk.inj hr
     clear hr
     obtain ⟨zg0, zg1, zg2, zg3, -, -, -, -⟩ := fr_cells Kg.out
     have M := Lib.hid (same_zero (w := w7))
     (try dsimp only [frV] at M)
     go_wp2_with fail
     refine M.out.mono ?_
     rintro e w13 ⟨rfl, hb⟩
     clear M
     have X := Lib.hid hb
     clear hb
     have B14 := Lib.hid (BR.out.trans (X.out.mono BR.out.size))
     have Kf14 := Lib.hid (Kf8.out.below X.out Kf8.out.lt)
     have Kg14 := Lib.hid (Kg.out.below X.out Kg.out.lt)
     clear X BR Kf8 Kg
     clear zg0 zg1 zg2 zg3
     go_wp2_with fail
     go_meet
     exact ⟨rfl, B14.out⟩
  case rest => as_aux_lemma =>
   obtain ⟨rfl, hb⟩ := hcut
   obtain ⟨w35, rfl⟩ : ∃ W : World, W = wc := ⟨_, rfl⟩
   have X := Lib.hid hb
   clear hb
   have B36 := Lib.hid (B8.out.trans (X.out.mono B8.out.size))
   have Kf36 := Lib.hid (Kf8.out.below X.out Kf8.out.lt)
   have Kg36 := Lib.hid (Kg.out.below X.out Kg.out.lt)
   have Gg36 := Lib.hid (Gg8.out.past X.out)
   clear X B8 Kf8 Kg Gg8
   obtain ⟨zf0, zf1, zf2, zf3, -, -, -, -⟩ := fr_cells Kf36.out
   have M := Lib.hid (text_no ⟨s1a, A1a, n1a, c1a, s2a, A2a, n2a, c2a⟩ (HA.out.past B36.out) (HT.out.on B36.out) (by have := HR.out; dsimp only; omega) (by have := HR.out; dsimp only; omega) (HA.out.no B36.out HU.out))
   (try dsimp only [frV] at M)
   go_wp2_with fail
   refine M.out.mono ?_
   rintro e w37 ⟨rfl, hb⟩
   clear M
   have X := Lib.hid hb
   clear hb
   have B38 := Lib.hid (B36.out.trans (X.out.mono B36.out.size))
   have Kf38 := Lib.hid (Kf36.out.below X.out Kf36.out.lt)
   clear X B36 Kf36
   clear zf0 zf1 zf2 zf3
   obtain ⟨zf0, zf1, zf2, zf3, -, -, -, -⟩ := fr_cells Kf38.out
   have M := Lib.hid (right_F ⟨s1a, A1a, n1a, c1a, s2a, A2a, n2a, c2a⟩ (HA.out.past B38.out) (HT.out.on B38.out) (by have := HR.out; dsimp only; omega) (by have := HR.out; dsimp only; omega) (HA.out.no B38.out HU.out))
   (try dsimp only [frV] at M)
   go_wp2_with fail
   refine M.out.mono ?_
   rintro e w39 ⟨rfl, hb⟩
   clear M
   have X := Lib.hid hb
   clear hb
   have B40 := Lib.hid (B38.out.trans (X.out.mono B38.out.size))
   have Kf40 := Lib.hid (Kf38.out.below X.out Kf38.out.lt)
   clear X B38 Kf38
   clear zf0 zf1 zf2 zf3
   go_wp2_with fail
   go_ret
   exact ⟨rfl, B40.out⟩
end Go.Proofs.YtmkhoofeekollaaGreatDoor
