/- Read of any string, and Text of a fraction that is not right, for the law FracBack. Conditions: lengths; the tables of math/bits and strconv as their texts lay them; the variable MaxLen of internal/bytealg holds an int. -/
import Derived.Test.YtmkhoofeekollaaGreatDoorR5
import Derived.Deep.DeepCutAuto
namespace Go.Proofs.YtmkhoofeekollaaGreatDoor
set_option maxRecDepth 20000
open Go.RowKit

section
variable {w : World} {k : Nat} {x : Rat}
theorem read_E (s : ByteArray) (o : Option Int) (w : World) (hs : s.size ≤ 402) (h : txtOk s.data.toList = o) :
    Calls Tryz.prog 64 #[.string s] w fun e w' => ∃ (a : Int) (A : Option Addr) (n c : Nat) (er : Int), e = .returned (.tuple #[.agg #[.int .i64 a, .slice A n c], .int .i64 er]) ∧ (er = 0 ∨ er = 2) ∧ (o = none → er ≠ 0) ∧ Below w.heap.size w w' := by
  have h1 := read_any s w hs
  rw [h] at h1
  refine h1.mono fun e w' he => ?_
  cases o with
  | some z =>
    obtain ⟨a, l, A, c, rfl, -, -, -, -, hb⟩ := he
    exact ⟨a, A, l.length, c, 0, rfl, .inl rfl, (fun h => by cases h), hb⟩
  | none =>
    obtain ⟨rfl, hb⟩ := he
    exact ⟨0, none, 0, 0, 2, rfl, .inr rfl, (fun _ => by decide), hb⟩
set_option maxHeartbeats 8000000 in
theorem read_two2 (s : ByteArray) {p q : Int} (hs : s.size ≤ 1000) (hT : TabZ w) (hM : MaxL w) (t1 : txtOk (Lib.cut s.data.toList [47]).1 = some p) (t2 : txtOk (Lib.cut s.data.toList [47]).2.1 = some q) (z1 : (Lib.cut s.data.toList [47]).1.length ≤ 402) (z2 : (Lib.cut s.data.toList [47]).2.1.length ≤ 402)
    (hx : x.num = p ∧ (x.den : Int) = q) :
    Calls Tryz.prog 27 #[.string s] w (OkR w 67 x) := by
  obtain ⟨W, hW⟩ : ∃ W, W = w.alloc (.cells #[.int .i64 0, .slice none 0 0, .int .i64 0, .slice none 0 0] 26) := ⟨_, rfl⟩
  have HB : Hid (Below w.heap.size w W) := by show Below _ _ _; rw [hW]; exact bal (Below.refl _ _)
  have K : Hid (Blk W w.heap.size 26 #[.int .i64 0, .slice none 0 0, .int .i64 0, .slice none 0 0]) := by show Blk _ _ _ _; rw [hW]; exact Blk.new _ _ _
  obtain ⟨m, hm⟩ := hM.on HB.out hM.pos
  have C := Lib.hid (Tryz.strings_Cut s ⟨#[47]⟩ m W (by omega) hm)
  rw [show (⟨#[47]⟩ : ByteArray).data.toList = [47] from rfl] at C
  obtain ⟨T1, hT1⟩ : ∃ T : ByteArray, T = ⟨(Lib.cut s.data.toList [47]).1.toArray⟩ := ⟨_, rfl⟩
  obtain ⟨T2, hT2⟩ : ∃ T : ByteArray, T = ⟨(Lib.cut s.data.toList [47]).2.1.toArray⟩ := ⟨_, rfl⟩
  obtain ⟨found, hfd⟩ : ∃ b : Bool, b = (Lib.cut s.data.toList [47]).2.2 := ⟨_, rfl⟩
  rw [← hT1, ← hT2, ← hfd] at C
  have R1 := Lib.hid (fun w => read_F T1 p w (by rw [hT1]; simpa [ByteArray.size] using z1) (by rw [hT1]; simpa using t1))
  have R2 := Lib.hid (fun w => read_F T2 q w (by rw [hT2]; simpa [ByteArray.size] using z2) (by rw [hT2]; simpa using t2))
  have HT := Lib.hid hT

  clear hT hM t1 t2 z1 z2 hT1 hT2 hfd hm hs
  go_enter Tryz.func27, Tryz.ntmps27
  go_wp2_with fail
  rw [← hW]
  clear hW
  refine C.out.mono ?_
  rintro e w1 ⟨rfl, d, rfl⟩
  have B1 : Hid (Below w.heap.size w (W.drewN d)) := below_drewN HB.out d
  have K1 : Hid (Blk (W.drewN d) w.heap.size 26 #[.int .i64 0, .slice none 0 0, .int .i64 0, .slice none 0 0]) := K.out.drewN d
  obtain ⟨w1, hw1⟩ : ∃ w1, w1 = W.drewN d := ⟨_, rfl⟩
  rw [← hw1] at B1 K1 ⊢
  have hlt1 := Lib.hid K1.out.lt
  clear hw1 C K HB
  go_wp2_with fail
  refine (R1.out _).mono ?_
  rintro e w2 ⟨s1, A1, n1, c1, rfl, hc1, hg1, hf1, hb⟩
  have B2 := Lib.hid (B1.out.trans (hb.mono B1.out.size))
  have K2 := Lib.hid (K1.out.below hb K1.out.lt)
  have G1 := Lib.hid (hg1.al (o := .cells #[.int .i64 s1, .slice A1 n1 c1] 24))
  have F1 : Hid (Fresh w1 A1 n1) := hf1
  have C1 := Lib.hid hc1
  have X2 := Lib.hid hb.size
  obtain ⟨w3, hw3⟩ : ∃ w3, w3 = w2.alloc (.cells #[.int .i64 s1, .slice A1 n1 c1] 24) := ⟨_, rfl⟩
  obtain ⟨b7, hb7⟩ : ∃ b, b = w2.heap.size := ⟨_, rfl⟩
  have X3 := Lib.hid (bal (Below.refl w2.heap.size w2) (o := .cells #[.int .i64 s1, .slice A1 n1 c1] 24))
  have J3 := Lib.hid (Blk.new w2 24 #[.int .i64 s1, .slice A1 n1 c1])
  rw [← hw3] at X3 J3 G1
  rw [← hb7] at J3
  have B3 := Lib.hid (B2.out.trans (X3.out.mono B2.out.size))
  have K3 := Lib.hid (K2.out.below X3.out K2.out.lt)
  clear hc1 hg1 hf1 hb R1 B2 K2
  go_upto_region 3 with (fail)
  rw [← hw3, ← hb7]
  have X3s := Lib.hid X3.out.size
  clear hw3 hb7 X3
  go_wp2_with fail
  refine (R2.out _).mono ?_
  rintro e w4 ⟨s2, A2, n2, c2, rfl, hc2, hg2, hf2, hb⟩
  have B4 := Lib.hid (B3.out.trans (hb.mono B3.out.size))
  have K4 := Lib.hid (K3.out.below hb K3.out.lt)
  have J4 := Lib.hid (J3.out.below hb J3.out.lt)
  have G14 := Lib.hid ((G1.out.past hb).al (o := .cells #[.int .i64 s2, .slice A2 n2 c2] 24))
  have G24 := Lib.hid (hg2.al (o := .cells #[.int .i64 s2, .slice A2 n2 c2] 24))
  have F2 : Hid (Fresh w3 A2 n2) := hf2
  have C2 := Lib.hid hc2
  obtain ⟨w5, hw5⟩ : ∃ w5, w5 = w4.alloc (.cells #[.int .i64 s2, .slice A2 n2 c2] 24) := ⟨_, rfl⟩
  obtain ⟨b9, hb9⟩ : ∃ b, b = w4.heap.size := ⟨_, rfl⟩
  have X5 := Lib.hid (bal (Below.refl w4.heap.size w4) (o := .cells #[.int .i64 s2, .slice A2 n2 c2] 24))
  have J5 := Lib.hid (Blk.new w4 24 #[.int .i64 s2, .slice A2 n2 c2])
  rw [← hw5] at X5 J5 G14 G24
  rw [← hb9] at J5
  have B5 := Lib.hid (B4.out.trans (X5.out.mono B4.out.size))
  have K5 := Lib.hid (K4.out.below X5.out K4.out.lt)
  have I5 := Lib.hid (J4.out.below X5.out J4.out.lt)
  clear hc2 hg2 hf2 hb R2 B4 K4 J4 J3 G1
  go_upto_region 4 with (fail)
  rw [← hw5, ← hb9]
  clear hw5 hb9 X5
  obtain ⟨i0, i1, -, -⟩ := sm_cells I5.out
  obtain ⟨j0, j1, -, -⟩ := sm_cells J5.out
  go_upto_region 5 with (fail)
  obtain ⟨w6, hw6⟩ : ∃ w6, w6 = w5.alloc (.cells #[.int .i64 s1, .slice A1 n1 c1, .int .i64 s2, .slice A2 n2 c2] 26) := ⟨_, rfl⟩
  obtain ⟨b11, hb11⟩ : ∃ b, b = w5.heap.size := ⟨_, rfl⟩
  have X6 := Lib.hid (bal (Below.refl w5.heap.size w5) (o := .cells #[.int .i64 s1, .slice A1 n1 c1, .int .i64 s2, .slice A2 n2 c2] 26))
  have J6 := Lib.hid (Blk.new w5 26 #[.int .i64 s1, .slice A1 n1 c1, .int .i64 s2, .slice A2 n2 c2])
  rw [← hw6] at X6 J6
  rw [← hb11] at J6
  have B6 := Lib.hid (B5.out.trans (X6.out.mono B5.out.size))
  have K6 := Lib.hid (K5.out.below X6.out K5.out.lt)
  have G16 := Lib.hid (G14.out.past X6.out)
  have G26 := Lib.hid (G24.out.past X6.out)
  rw [← hw6, ← hb11]
  clear hw6 hb11 i0 i1 j0 j1 I5 J5 G14 G24 X6 K5
  go_wp2_with fail
  refine (OrE_any _ 0 0 _ _ _ (two_newE w6 0 0)).mono ?_
  rintro e w_ ⟨rfl, rfl⟩
  obtain ⟨w7, hw7⟩ : ∃ w7, w7 = w6.alloc (.cells #[.int .i64 0, .int .i64 0] 32) := ⟨_, rfl⟩
  have X7 := Lib.hid (bal (Below.refl w6.heap.size w6) (o := .cells #[.int .i64 0, .int .i64 0] 32))
  rw [← hw7] at X7 ⊢
  have B7 := Lib.hid (B6.out.trans (X7.out.mono B6.out.size))
  have K7 := Lib.hid (K6.out.below X7.out K6.out.lt)
  have J7 := Lib.hid (J6.out.below X7.out J6.out.lt)
  have G17 := Lib.hid (G16.out.past X7.out)
  have G27 := Lib.hid (G26.out.past X7.out)
  clear hw7 B6 K6 J6 G16 G26 X7
  obtain ⟨j0, j1, j2, j3, -, -, -, -⟩ := fr_cells J7.out
  have HR := Lib.hid (right_T (k := 67) (x := x) ⟨s1, A1, n1, c1, s2, A2, n2, c2⟩ ⟨by rw [hx.1]; exact G17.out, by rw [hx.2]; exact G27.out⟩ (HT.out.on B7.out) (by decide))
  dsimp only [frV] at HR
  go_wp2_with fail
  refine HR.out.mono ?_
  rintro e w8 ⟨rfl, hb⟩
  have B8 := Lib.hid (B7.out.trans (hb.mono B7.out.size))
  have K8 := Lib.hid (K7.out.below hb K7.out.lt)
  have X2' := X2.out
  have hfr1 : Hid (Fresh w1 A1 n1) := F1.out
  have hfr2 : Hid (Fresh w1 A2 n2) := fun hp ad e => Nat.le_trans (Nat.le_trans X2.out X3s.out) (F2.out hp ad e)
  have J8 := Lib.hid (J7.out.below hb J7.out.lt)
  clear j0 j1 j2 j3
  obtain ⟨j0, j1, j2, j3, -, -, -, -⟩ := fr_cells J8.out
  obtain ⟨kr0, kr1, kr2, kr3, q0, q1, q2, q3⟩ := fr_cells K8.out
  obtain ⟨wf, hwf, r0, r1, r2, r3, kE⟩ := fr_end K8.out (Nat.le_refl _) hlt1.out B8.out (G17.out.past hb) (G27.out.past hb) hfr1.out hfr2.out C1.out C2.out ⟨hx.1, hx.2⟩
  have HE := Lib.hid kE.ok
  clear kE hb X2' HR hx
  go_wp2_with fail
  rw [← hwf]
  clear hwf
  exact bodyPost_ret (v := .tuple #[.agg #[.int .i64 s1, .slice A1 n1 c1, .int .i64 s2, .slice A2 n2 c2], .int .i64 0]) (by simp [results, Tryz.results27, go_sem, r0, r1, r2, r3]) rfl HE.out
set_option maxHeartbeats 8000000 in
theorem read_not2 (s : ByteArray) {p q : Int} (hs : s.size ≤ 1000) (hT : TabZ w) (hM : MaxL w) (t1 : txtOk (Lib.cut s.data.toList [47]).1 = some p) (t2 : txtOk (Lib.cut s.data.toList [47]).2.1 = some q) (z1 : (Lib.cut s.data.toList [47]).1.length ≤ 402) (z2 : (Lib.cut s.data.toList [47]).2.1.length ≤ 402)
    (hx : ¬ (0 < q ∧ Int.gcd p q = 1)) :
    Calls Tryz.prog 27 #[.string s] w (fun e w' => e = .returned (.tuple #[.agg #[.int .i64 0, .slice none 0 0, .int .i64 0, .slice none 0 0], .int .i64 2]) ∧ Below w.heap.size w w') := by
  obtain ⟨W, hW⟩ : ∃ W, W = w.alloc (.cells #[.int .i64 0, .slice none 0 0, .int .i64 0, .slice none 0 0] 26) := ⟨_, rfl⟩
  have HB : Hid (Below w.heap.size w W) := by show Below _ _ _; rw [hW]; exact bal (Below.refl _ _)
  have K : Hid (Blk W w.heap.size 26 #[.int .i64 0, .slice none 0 0, .int .i64 0, .slice none 0 0]) := by show Blk _ _ _ _; rw [hW]; exact Blk.new _ _ _
  obtain ⟨m, hm⟩ := hM.on HB.out hM.pos
  have C := Lib.hid (Tryz.strings_Cut s ⟨#[47]⟩ m W (by omega) hm)
  rw [show (⟨#[47]⟩ : ByteArray).data.toList = [47] from rfl] at C
  obtain ⟨T1, hT1⟩ : ∃ T : ByteArray, T = ⟨(Lib.cut s.data.toList [47]).1.toArray⟩ := ⟨_, rfl⟩
  obtain ⟨T2, hT2⟩ : ∃ T : ByteArray, T = ⟨(Lib.cut s.data.toList [47]).2.1.toArray⟩ := ⟨_, rfl⟩
  obtain ⟨found, hfd⟩ : ∃ b : Bool, b = (Lib.cut s.data.toList [47]).2.2 := ⟨_, rfl⟩
  rw [← hT1, ← hT2, ← hfd] at C
  have R1 := Lib.hid (fun w => read_F T1 p w (by rw [hT1]; simpa [ByteArray.size] using z1) (by rw [hT1]; simpa using t1))
  have R2 := Lib.hid (fun w => read_F T2 q w (by rw [hT2]; simpa [ByteArray.size] using z2) (by rw [hT2]; simpa using t2))
  have HT := Lib.hid hT

  clear hT hM t1 t2 z1 z2 hT1 hT2 hfd hm hs
  go_enter Tryz.func27, Tryz.ntmps27
  go_wp2_with fail
  rw [← hW]
  clear hW
  refine C.out.mono ?_
  rintro e w1 ⟨rfl, d, rfl⟩
  have B1 : Hid (Below w.heap.size w (W.drewN d)) := below_drewN HB.out d
  have K1 : Hid (Blk (W.drewN d) w.heap.size 26 #[.int .i64 0, .slice none 0 0, .int .i64 0, .slice none 0 0]) := K.out.drewN d
  obtain ⟨w1, hw1⟩ : ∃ w1, w1 = W.drewN d := ⟨_, rfl⟩
  rw [← hw1] at B1 K1 ⊢
  have hlt1 := Lib.hid K1.out.lt
  clear hw1 C K HB
  go_wp2_with fail
  refine (R1.out _).mono ?_
  rintro e w2 ⟨s1, A1, n1, c1, rfl, hc1, hg1, hf1, hb⟩
  have B2 := Lib.hid (B1.out.trans (hb.mono B1.out.size))
  have K2 := Lib.hid (K1.out.below hb K1.out.lt)
  have G1 := Lib.hid (hg1.al (o := .cells #[.int .i64 s1, .slice A1 n1 c1] 24))
  have F1 : Hid (Fresh w1 A1 n1) := hf1
  have C1 := Lib.hid hc1
  have X2 := Lib.hid hb.size
  obtain ⟨w3, hw3⟩ : ∃ w3, w3 = w2.alloc (.cells #[.int .i64 s1, .slice A1 n1 c1] 24) := ⟨_, rfl⟩
  obtain ⟨b7, hb7⟩ : ∃ b, b = w2.heap.size := ⟨_, rfl⟩
  have X3 := Lib.hid (bal (Below.refl w2.heap.size w2) (o := .cells #[.int .i64 s1, .slice A1 n1 c1] 24))
  have J3 := Lib.hid (Blk.new w2 24 #[.int .i64 s1, .slice A1 n1 c1])
  rw [← hw3] at X3 J3 G1
  rw [← hb7] at J3
  have B3 := Lib.hid (B2.out.trans (X3.out.mono B2.out.size))
  have K3 := Lib.hid (K2.out.below X3.out K2.out.lt)
  clear hc1 hg1 hf1 hb R1 B2 K2
  go_upto_region 3 with (fail)
  rw [← hw3, ← hb7]
  have X3s := Lib.hid X3.out.size
  clear hw3 hb7 X3
  go_wp2_with fail
  refine (R2.out _).mono ?_
  rintro e w4 ⟨s2, A2, n2, c2, rfl, hc2, hg2, hf2, hb⟩
  have B4 := Lib.hid (B3.out.trans (hb.mono B3.out.size))
  have K4 := Lib.hid (K3.out.below hb K3.out.lt)
  have J4 := Lib.hid (J3.out.below hb J3.out.lt)
  have G14 := Lib.hid ((G1.out.past hb).al (o := .cells #[.int .i64 s2, .slice A2 n2 c2] 24))
  have G24 := Lib.hid (hg2.al (o := .cells #[.int .i64 s2, .slice A2 n2 c2] 24))
  have F2 : Hid (Fresh w3 A2 n2) := hf2
  have C2 := Lib.hid hc2
  obtain ⟨w5, hw5⟩ : ∃ w5, w5 = w4.alloc (.cells #[.int .i64 s2, .slice A2 n2 c2] 24) := ⟨_, rfl⟩
  obtain ⟨b9, hb9⟩ : ∃ b, b = w4.heap.size := ⟨_, rfl⟩
  have X5 := Lib.hid (bal (Below.refl w4.heap.size w4) (o := .cells #[.int .i64 s2, .slice A2 n2 c2] 24))
  have J5 := Lib.hid (Blk.new w4 24 #[.int .i64 s2, .slice A2 n2 c2])
  rw [← hw5] at X5 J5 G14 G24
  rw [← hb9] at J5
  have B5 := Lib.hid (B4.out.trans (X5.out.mono B4.out.size))
  have K5 := Lib.hid (K4.out.below X5.out K4.out.lt)
  have I5 := Lib.hid (J4.out.below X5.out J4.out.lt)
  clear hc2 hg2 hf2 hb R2 B4 K4 J4 J3 G1
  go_upto_region 4 with (fail)
  rw [← hw5, ← hb9]
  clear hw5 hb9 X5
  obtain ⟨i0, i1, -, -⟩ := sm_cells I5.out
  obtain ⟨j0, j1, -, -⟩ := sm_cells J5.out
  go_upto_region 5 with (fail)
  obtain ⟨w6, hw6⟩ : ∃ w6, w6 = w5.alloc (.cells #[.int .i64 s1, .slice A1 n1 c1, .int .i64 s2, .slice A2 n2 c2] 26) := ⟨_, rfl⟩
  obtain ⟨b11, hb11⟩ : ∃ b, b = w5.heap.size := ⟨_, rfl⟩
  have X6 := Lib.hid (bal (Below.refl w5.heap.size w5) (o := .cells #[.int .i64 s1, .slice A1 n1 c1, .int .i64 s2, .slice A2 n2 c2] 26))
  have J6 := Lib.hid (Blk.new w5 26 #[.int .i64 s1, .slice A1 n1 c1, .int .i64 s2, .slice A2 n2 c2])
  rw [← hw6] at X6 J6
  rw [← hb11] at J6
  have B6 := Lib.hid (B5.out.trans (X6.out.mono B5.out.size))
  have K6 := Lib.hid (K5.out.below X6.out K5.out.lt)
  have G16 := Lib.hid (G14.out.past X6.out)
  have G26 := Lib.hid (G24.out.past X6.out)
  rw [← hw6, ← hb11]
  clear hw6 hb11 i0 i1 j0 j1 I5 J5 G14 G24 X6 K5
  go_wp2_with fail
  refine (OrE_any _ 0 0 _ _ _ (two_newE w6 0 0)).mono ?_
  rintro e w_ ⟨rfl, rfl⟩
  obtain ⟨w7, hw7⟩ : ∃ w7, w7 = w6.alloc (.cells #[.int .i64 0, .int .i64 0] 32) := ⟨_, rfl⟩
  have X7 := Lib.hid (bal (Below.refl w6.heap.size w6) (o := .cells #[.int .i64 0, .int .i64 0] 32))
  rw [← hw7] at X7 ⊢
  have B7 := Lib.hid (B6.out.trans (X7.out.mono B6.out.size))
  have K7 := Lib.hid (K6.out.below X7.out K6.out.lt)
  have J7 := Lib.hid (J6.out.below X7.out J6.out.lt)
  have G17 := Lib.hid (G16.out.past X7.out)
  have G27 := Lib.hid (G26.out.past X7.out)
  clear hw7 B6 K6 J6 G16 G26 X7
  obtain ⟨j0, j1, j2, j3, -, -, -, -⟩ := fr_cells J7.out
  have HR : Hid (Calls Tryz.prog 13 #[frV ⟨s1, A1, n1, c1, s2, A2, n2, c2⟩] w7 fun e w' => e = .returned (.bool false) ∧ Below w7.heap.size w7 w') := by
    show Calls _ _ _ _ _
    by_cases hs2 : s2 = 1
    · refine right_both ⟨s1, A1, n1, c1, s2, A2, n2, c2⟩ G17.out G27.out hs2 (HT.out.on B7.out) (by decide) (by decide) (decide_eq_false fun hg => hx ⟨?_, hg⟩)
      rcases G27.out.sign with ⟨-, h⟩ | ⟨h, -⟩ | ⟨h, -⟩ <;> omega
    · exact right_sign ⟨s1, A1, n1, c1, s2, A2, n2, c2⟩ hs2 w7
  dsimp only [frV] at HR
  go_wp2_with fail
  refine HR.out.mono ?_
  rintro e w8 ⟨rfl, hb⟩
  have B8 := Lib.hid (B7.out.trans (hb.mono B7.out.size))
  have K8 := Lib.hid (K7.out.below hb K7.out.lt)
  clear j0 j1 j2 j3 hb
  obtain ⟨kr0, kr1, kr2, kr3, q0, q1, q2, q3⟩ := fr_cells K8.out
  have K4 := (((K8.out.set_ 0 (.int .i64 0)).set_ 1 (.slice none 0 0)).set_ 2 (.int .i64 0)).set_ 3 (.slice none 0 0)
  obtain ⟨r0, r1, r2, r3, -, -, -, -⟩ := fr_cells (a := .int .i64 0) (b := .slice none 0 0) (c := .int .i64 0) (d := .slice none 0 0) (by simpa using K4)
  clear K4 HR
  go_wp2_with fail
  exact bodyPost_ret (v := .tuple #[.agg #[.int .i64 0, .slice none 0 0, .int .i64 0, .slice none 0 0], .int .i64 2]) (by simp [results, Tryz.results27, go_sem, r0, r1, r2, r3]) rfl ⟨rfl, below_set (below_set (below_set (below_set B8.out (Nat.le_refl _) _ _) (Nat.le_refl _) _ _) (Nat.le_refl _) _ _) (Nat.le_refl _) _ _⟩
set_option maxHeartbeats 8000000 in
theorem read_bad (s : ByteArray) (hs : s.size ≤ 1000) (hT : TabZ w) (hM : MaxL w) (ht : txtOk (Lib.cut s.data.toList [47]).1 = none ∨ txtOk (Lib.cut s.data.toList [47]).2.1 = none) (z1 : (Lib.cut s.data.toList [47]).1.length ≤ 402) (z2 : (Lib.cut s.data.toList [47]).2.1.length ≤ 402) :
    Calls Tryz.prog 27 #[.string s] w (fun e w' => e = .returned (.tuple #[.agg #[.int .i64 0, .slice none 0 0, .int .i64 0, .slice none 0 0], .int .i64 2]) ∧ Below w.heap.size w w') := by
  obtain ⟨W, hW⟩ : ∃ W, W = w.alloc (.cells #[.int .i64 0, .slice none 0 0, .int .i64 0, .slice none 0 0] 26) := ⟨_, rfl⟩
  have HB : Hid (Below w.heap.size w W) := by show Below _ _ _; rw [hW]; exact bal (Below.refl _ _)
  have K : Hid (Blk W w.heap.size 26 #[.int .i64 0, .slice none 0 0, .int .i64 0, .slice none 0 0]) := by show Blk _ _ _ _; rw [hW]; exact Blk.new _ _ _
  obtain ⟨m, hm⟩ := hM.on HB.out hM.pos
  have C := Lib.hid (Tryz.strings_Cut s ⟨#[47]⟩ m W (by omega) hm)
  rw [show (⟨#[47]⟩ : ByteArray).data.toList = [47] from rfl] at C
  obtain ⟨T1, hT1⟩ : ∃ T : ByteArray, T = ⟨(Lib.cut s.data.toList [47]).1.toArray⟩ := ⟨_, rfl⟩
  obtain ⟨T2, hT2⟩ : ∃ T : ByteArray, T = ⟨(Lib.cut s.data.toList [47]).2.1.toArray⟩ := ⟨_, rfl⟩
  obtain ⟨found, hfd⟩ : ∃ b : Bool, b = (Lib.cut s.data.toList [47]).2.2 := ⟨_, rfl⟩
  rw [← hT1, ← hT2, ← hfd] at C
  obtain ⟨o1, ho1⟩ : ∃ o, o = txtOk (Lib.cut s.data.toList [47]).1 := ⟨_, rfl⟩
  obtain ⟨o2, ho2⟩ : ∃ o, o = txtOk (Lib.cut s.data.toList [47]).2.1 := ⟨_, rfl⟩
  rw [← ho1, ← ho2] at ht
  have R1 := Lib.hid (fun w => read_E T1 o1 w (by rw [hT1]; simpa [ByteArray.size] using z1) (by rw [hT1]; simpa using ho1.symm))
  have R2 := Lib.hid (fun w => read_E T2 o2 w (by rw [hT2]; simpa [ByteArray.size] using z2) (by rw [hT2]; simpa using ho2.symm))
  have HN := Lib.hid ht
  have HT := Lib.hid hT

  clear hT hM z1 z2 hT1 hT2 hfd hm hs ho1 ho2 ht
  go_enter Tryz.func27, Tryz.ntmps27
  go_wp2_with fail
  rw [← hW]
  clear hW
  refine C.out.mono ?_
  rintro e w1 ⟨rfl, d, rfl⟩
  have B1 : Hid (Below w.heap.size w (W.drewN d)) := below_drewN HB.out d
  have K1 : Hid (Blk (W.drewN d) w.heap.size 26 #[.int .i64 0, .slice none 0 0, .int .i64 0, .slice none 0 0]) := K.out.drewN d
  obtain ⟨w1, hw1⟩ : ∃ w1, w1 = W.drewN d := ⟨_, rfl⟩
  rw [← hw1] at B1 K1 ⊢
  have hlt1 := Lib.hid K1.out.lt
  clear hw1 C K HB
  go_wp2_with fail
  refine (R1.out _).mono ?_
  rintro e w2 ⟨s1, A1, n1, c1, e1, rfl, he1, hn1, hb⟩
  have B2 := Lib.hid (B1.out.trans (hb.mono B1.out.size))
  have K2 := Lib.hid (K1.out.below hb K1.out.lt)
  obtain ⟨w3, hw3⟩ : ∃ w3, w3 = w2.alloc (.cells #[.int .i64 s1, .slice A1 n1 c1] 24) := ⟨_, rfl⟩
  obtain ⟨b7, hb7⟩ : ∃ b, b = w2.heap.size := ⟨_, rfl⟩
  have X3 := Lib.hid (bal (Below.refl w2.heap.size w2) (o := .cells #[.int .i64 s1, .slice A1 n1 c1] 24))
  have J3 := Lib.hid (Blk.new w2 24 #[.int .i64 s1, .slice A1 n1 c1])
  rw [← hw3] at X3 J3
  rw [← hb7] at J3
  have B3 := Lib.hid (B2.out.trans (X3.out.mono B2.out.size))
  have K3 := Lib.hid (K2.out.below X3.out K2.out.lt)
  have HE1 := Lib.hid (And.intro he1 hn1)
  clear he1 hn1 hb R1 B2 K2
  go_upto_region 3 with (fail)
  rw [← hw3, ← hb7]
  have X3s := Lib.hid X3.out.size
  clear hw3 hb7 X3
  go_wp2_with fail
  refine (R2.out _).mono ?_
  rintro e w4 ⟨s2, A2, n2, c2, e2, rfl, he2, hn2, hb⟩
  have B4 := Lib.hid (B3.out.trans (hb.mono B3.out.size))
  have K4 := Lib.hid (K3.out.below hb K3.out.lt)
  have J4 := Lib.hid (J3.out.below hb J3.out.lt)
  obtain ⟨w5, hw5⟩ : ∃ w5, w5 = w4.alloc (.cells #[.int .i64 s2, .slice A2 n2 c2] 24) := ⟨_, rfl⟩
  obtain ⟨b9, hb9⟩ : ∃ b, b = w4.heap.size := ⟨_, rfl⟩
  have X5 := Lib.hid (bal (Below.refl w4.heap.size w4) (o := .cells #[.int .i64 s2, .slice A2 n2 c2] 24))
  have J5 := Lib.hid (Blk.new w4 24 #[.int .i64 s2, .slice A2 n2 c2])
  rw [← hw5] at X5 J5
  rw [← hb9] at J5
  have B5 := Lib.hid (B4.out.trans (X5.out.mono B4.out.size))
  have K5 := Lib.hid (K4.out.below X5.out K4.out.lt)
  have I5 := Lib.hid (J4.out.below X5.out J4.out.lt)
  have HE2 := Lib.hid (And.intro he2 hn2)
  clear he2 hn2 hb R2 B4 K4 J4 J3
  go_upto_region 4 with (fail)
  rw [← hw5, ← hb9]
  clear hw5 hb9 X5
  obtain ⟨i0, i1, -, -⟩ := sm_cells I5.out
  obtain ⟨j0, j1, -, -⟩ := sm_cells J5.out
  go_upto_region 5 with (fail)
  obtain ⟨w6, hw6⟩ : ∃ w6, w6 = w5.alloc (.cells #[.int .i64 s1, .slice A1 n1 c1, .int .i64 s2, .slice A2 n2 c2] 26) := ⟨_, rfl⟩
  obtain ⟨b11, hb11⟩ : ∃ b, b = w5.heap.size := ⟨_, rfl⟩
  have X6 := Lib.hid (bal (Below.refl w5.heap.size w5) (o := .cells #[.int .i64 s1, .slice A1 n1 c1, .int .i64 s2, .slice A2 n2 c2] 26))
  have J6 := Lib.hid (Blk.new w5 26 #[.int .i64 s1, .slice A1 n1 c1, .int .i64 s2, .slice A2 n2 c2])
  rw [← hw6] at X6 J6
  rw [← hb11] at J6
  have B6 := Lib.hid (B5.out.trans (X6.out.mono B5.out.size))
  have K6 := Lib.hid (K5.out.below X6.out K5.out.lt)
  rw [← hw6, ← hb11]
  clear hw6 hb11 i0 i1 j0 j1 I5 J5 X6 K5
  go_wp2_with fail
  refine (OrE_any _ e1 e2 _ _ _ (two_newE w6 e1 e2)).mono ?_
  rintro e w_ ⟨rfl, rfl⟩
  obtain ⟨w7, hw7⟩ : ∃ w7, w7 = w6.alloc (.cells #[.int .i64 e1, .int .i64 e2] 32) := ⟨_, rfl⟩
  have X7 := Lib.hid (bal (Below.refl w6.heap.size w6) (o := .cells #[.int .i64 e1, .int .i64 e2] 32))
  rw [← hw7] at X7 ⊢
  have B7 := Lib.hid (B6.out.trans (X7.out.mono B6.out.size))
  have K7 := Lib.hid (K6.out.below X7.out K6.out.lt)
  have J7 := Lib.hid (J6.out.below X7.out J6.out.lt)
  clear hw7 B6 K6 J6 X7
  have HO : orI e1 e2 = 2 := by
    unfold orI
    obtain ⟨a1, a2⟩ := HE1.out
    obtain ⟨b1, b2⟩ := HE2.out
    by_cases h : e1 = 0
    · rw [if_pos h]
      rcases HN.out with g | g
      · exact absurd h (a2 g)
      · rcases b1 with b1 | b1
        · exact absurd b1 (b2 g)
        · exact b1
    · rw [if_neg h]
      exact a1.resolve_left h
  rw [HO]
  obtain ⟨kr0, kr1, kr2, kr3, q0, q1, q2, q3⟩ := fr_cells K7.out
  have K4 := (((K7.out.set_ 0 (.int .i64 0)).set_ 1 (.slice none 0 0)).set_ 2 (.int .i64 0)).set_ 3 (.slice none 0 0)
  obtain ⟨r0, r1, r2, r3, -, -, -, -⟩ := fr_cells (a := .int .i64 0) (b := .slice none 0 0) (c := .int .i64 0) (d := .slice none 0 0) (by simpa using K4)
  clear K4
  go_wp2_with fail
  exact bodyPost_ret (v := .tuple #[.agg #[.int .i64 0, .slice none 0 0, .int .i64 0, .slice none 0 0], .int .i64 2]) (by simp [results, Tryz.results27, go_sem, r0, r1, r2, r3]) rfl ⟨rfl, below_set (below_set (below_set (below_set B7.out (Nat.le_refl _) _ _) (Nat.le_refl _) _ _) (Nat.le_refl _) _ _) (Nat.le_refl _) _ _⟩
set_option maxHeartbeats 4000000 in
theorem text_no (r : FrR) {l1 l2 : List Int} (ha : FrArg w r l1 l2) (hT : TabZ w) (hn1 : r.n1 ≤ 500000) (hn2 : r.n2 ≤ 500000) (hno : ∀ x, ¬ IsFr w r x) :
    Calls Tryz.prog 28 #[frV r] w fun e w' => e = .returned (.string ⟨#[]⟩) ∧ Below w.heap.size w w' := by
  have HB : Hid (Below w.heap.size w (w.alloc (.cells (frC r) 26))) := (Below.refl _ _).alloc (Nat.le_refl _) _
  have R1 := Lib.hid (right_F r (ha.past HB.out) (hT.on HB.out) hn1 hn2 (ha.no HB.out hno))
  clear ha hT hno
  obtain ⟨s1, A1, n1, c1, s2, A2, n2, c2⟩ := r
  dsimp only [frV, frC] at *
  clear hn1 hn2
  go_enter Tryz.func28, Tryz.ntmps28
  go_wp2_with fail
  refine R1.out.mono ?_
  rintro e w1 ⟨rfl, hb⟩
  have B1 := Lib.hid (HB.out.trans (hb.mono HB.out.size))
  clear hb R1
  go_wp2_with fail
  go_ret
  exact ⟨rfl, B1.out⟩
end
end Go.Proofs.YtmkhoofeekollaaGreatDoor
