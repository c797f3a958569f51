/- The walk of the statement WireWrites: the writers return the encodings of the reference. Conditions: the table of strconv holds what its text lays. -/
import Derived.Test.YtkkaancpokahcaaDoorPrefix
import Derived.Test.YtkkaancpokahcaaDoorRw
namespace Go.Proofs.YtkkaancpokahcaaDoor
open Go.RowKit Go.Lib

theorem blq {w v v' w4 : World} (h : Below w.heap.size w v) (b : Below v'.heap.size v' w4) (he : v'.os = v.os ∧ v'.tape = v.tape ∧ v'.output = v.output ∧ v'.heap = v.heap) : Below w.heap.size w w4 := by
  obtain ⟨e1, e2, e3, e4⟩ := he
  have hs : v.heap.size ≤ w4.heap.size := by rw [← e4]; exact b.size
  exact ⟨(b.os.trans e1).trans h.os, (b.tape.trans e2).trans h.tape, (b.output.trans e3).trans h.output, Nat.le_trans h.size hs, fun k hk => by
    rw [b.block k (by rw [e4]; exact Nat.lt_of_lt_of_le hk h.size), e4]
    exact h.block k hk⟩
theorem bdrew {w v v' : World} {B : Nat} (h : Below B w v) (he : v'.os = v.os ∧ v'.tape = v.tape ∧ v'.output = v.output ∧ v'.heap = v.heap) : Below B w v' := by
  obtain ⟨e1, e2, e3, e4⟩ := he
  exact ⟨e1.trans h.os, e2.trans h.tape, e3.trans h.output, by rw [e4]; exact h.size, fun k hk => by rw [e4]; exact h.block k hk⟩
theorem keepc {v v' w4 : World} {a : Addr} {u : Value} (hc : v.cell? a = some u) (b : Below v'.heap.size v' w4) (hh : v'.heap = v.heap) : w4.cell? a = some u := by
  have h1 := World.block_lt_of_cell? v _ hc
  rw [b.cell (p := a) (by rw [hh]; exact h1), cell_heap hh]
  exact hc

def numE (n : Int) : List UInt8 := if n < 0 then [] else wInt n
theorem wNumE (n : Int) (h0 : -9223372036854775808 ≤ n) (h1 : n ≤ 9223372036854775807) (w : World) (ht : Tab w) :
    Calls Tryd.prog 11 #[.int .i64 n] w fun e w' => e = .returned (.string ⟨(numE n).toArray⟩) ∧ Below w.heap.size w w' := wNum_any n h0 h1 w ht
theorem refNumE (n : Int) (h0 : -9223372036854775808 ≤ n) (h1 : n ≤ 9223372036854775807) (w : World) :
    Calls Tryd.prog 12 #[.int .i64 n] w fun e w' => e = .returned (.string ⟨(numE n).toArray⟩) ∧ Below w.heap.size w w' := refNum n h0 h1 w

set_option maxHeartbeats 2000000 in
theorem writes_no (x : Va) (A1 : Option Addr) (c1 : Nat) (A2 : Option Addr) (c2 : Nat) (w : World) (ht : Tab w) (hx : x.Fits) (hr1 : Reads w w.heap.size 1 A1 x.l.length (x.l.map (Value.int .i64))) (hr2 : Reads w w.heap.size 1 A2 x.t.length (x.t.map Value.string)) (hfe : fewB [x] = false) :
    Calls Tryd.prog 3 #[aggV x A1 c1 A2 c2] w fun e w' => e = .returned (.bool true) ∧ Below w.heap.size w w' := by
  have b1 : Below w.heap.size w (w.alloc (boxV x A1 c1 A2 c2)) := (Below.refl _ _).alloc (Nat.le_refl _) _
  have hX : Blk (w.alloc (boxV x A1 c1 A2 c2)) w.heap.size 25 #[.int .i64 x.k, .int .i64 x.n, .string x.s, .slice A1 x.l.length c1, .slice A2 x.t.length c2] := Blk.new _ _ _
  have HFX := Lib.hid hfe
  have ht1 := ht.on b1
  clear hfe
  unfold aggV
  go_enter Tryd.func3, Tryd.ntmps3
  go_wp2_with fail
  refine (small_any _ ht1).mono ?_
  rintro e w3 ⟨rfl, b3⟩
  have hX3 := Blk.below hX b3 (Blk.lt hX)
  have q3 := blw b1 b3
  clear hX b3 b1
  have bA : Below w3.heap.size w3 (w3.alloc (boxV x A1 c1 A2 c2)) := (Below.refl _ _).alloc (Nat.le_refl _) _
  have hbx : Blk (w3.alloc (boxV x A1 c1 A2 c2)) w3.heap.size 25 #[.int .i64 x.k, .int .i64 x.n, .string x.s, .slice A1 x.l.length c1, .slice A2 x.t.length c2] := Blk.new _ _ _
  have hle := q3.size
  have q3' : Below w.heap.size w (w3.alloc (boxV x A1 c1 A2 c2)) := q3.trans (bA.mono hle)
  have rx1 := (hr1.below q3').more (show w.heap.size ≤ w3.heap.size + 1 by omega)
  have rx2 := (hr2.below q3').more (show w.heap.size ≤ w3.heap.size + 1 by omega)
  have CF := hide (few_one x (w3.alloc (boxV x A1 c1 A2 c2)) w3.heap.size (w3.heap.size + 1) hbx rx1 rx2 (by omega) hx HFX.out)
  clear rx1 rx2 hbx
  have g0 := Blk.cell hX3 0
  have g1 := Blk.cell hX3 1
  have g2 := Blk.cell hX3 2
  have g3 := Blk.cell hX3 3
  have g4 := Blk.cell hX3 4
  go_wp2_with fail
  clear g0 g1 g2 g3 g4
  refine (unhide CF).mono ?_
  rintro e w4 ⟨rfl, hd4⟩
  have q4 := below_thru q3' hd4 ⟨rfl, rfl, rfl, rfl⟩
  go_wp2
  go_ret
  exact ⟨rfl, q4⟩

set_option maxHeartbeats 4000000 in
theorem writes_yes (x : Va) (A1 : Option Addr) (c1 : Nat) (A2 : Option Addr) (c2 : Nat) (w : World) (ht : Tab w) (hx : x.Fits) (hr1 : Reads w w.heap.size 1 A1 x.l.length (x.l.map (Value.int .i64))) (hr2 : Reads w w.heap.size 1 A2 x.t.length (x.t.map Value.string)) (hfe : fewB [x] = true) :
    Calls Tryd.prog 3 #[aggV x A1 c1 A2 c2] w fun e w' => e = .returned (.bool true) ∧ Below w.heap.size w w' := by
  have hok := okx hfe
  obtain ⟨o1, o2, o3, o4⟩ := okB_parts hok
  have hil := ints_len hx hok
  have htl := texts_len hok
  have o4' := Lib.hid (show ∀ z ∈ x.t, z.size ≤ 140737488355328 from fun z hz => by have := o4 z hz; omega)
  clear hok o4
  have b1 : Below w.heap.size w (w.alloc (boxV x A1 c1 A2 c2)) := (Below.refl _ _).alloc (Nat.le_refl _) _
  have hX : Blk (w.alloc (boxV x A1 c1 A2 c2)) w.heap.size 25 #[.int .i64 x.k, .int .i64 x.n, .string x.s, .slice A1 x.l.length c1, .slice A2 x.t.length c2] := Blk.new _ _ _
  have HFX := Lib.hid hfe
  have ht1 := ht.on b1
  clear hfe
  unfold aggV
  go_enter Tryd.func3, Tryd.ntmps3
  go_wp2_with fail
  refine (small_any _ ht1).mono ?_
  rintro e w3 ⟨rfl, b3⟩
  have hX3 := Blk.below hX b3 (Blk.lt hX)
  have q3 := blw b1 b3
  clear hX b3 b1
  have bA : Below w3.heap.size w3 (w3.alloc (boxV x A1 c1 A2 c2)) := (Below.refl _ _).alloc (Nat.le_refl _) _
  have hbx : Blk (w3.alloc (boxV x A1 c1 A2 c2)) w3.heap.size 25 #[.int .i64 x.k, .int .i64 x.n, .string x.s, .slice A1 x.l.length c1, .slice A2 x.t.length c2] := Blk.new _ _ _
  have hle := q3.size
  have q3' : Below w.heap.size w (w3.alloc (boxV x A1 c1 A2 c2)) := q3.trans (bA.mono hle)
  have rx1 := (hr1.below q3').more (show w.heap.size ≤ w3.heap.size + 1 by omega)
  have rx2 := (hr2.below q3').more (show w.heap.size ≤ w3.heap.size + 1 by omega)
  have CF := hide (few_one x (w3.alloc (boxV x A1 c1 A2 c2)) w3.heap.size (w3.heap.size + 1) hbx rx1 rx2 (by omega) hx HFX.out)
  clear rx1 rx2 hbx
  have g0 := Blk.cell hX3 0
  have g1 := Blk.cell hX3 1
  have g2 := Blk.cell hX3 2
  have g3 := Blk.cell hX3 3
  have g4 := Blk.cell hX3 4
  go_wp2_with fail
  clear g0 g1 g2 g3 g4
  refine (unhide CF).mono ?_
  rintro e w4 ⟨rfl, hd4⟩
  have q4 := below_thru q3' hd4 ⟨rfl, rfl, rfl, rfl⟩
  have hh4 : w4.heap = (w3.alloc (boxV x A1 c1 A2 c2)).heap := hd4.heap
  have s1 : w4.cell? ⟨w.heap.size, 1, none⟩ = some (.int .i64 x.n) := (cell_heap hh4 _).trans ((bA.cell (p := ⟨w.heap.size, 1, none⟩) (Blk.lt hX3)).trans (Blk.cell hX3 1))
  have s2 : w4.cell? ⟨w.heap.size, 2, none⟩ = some (.string x.s) := (cell_heap hh4 _).trans ((bA.cell (p := ⟨w.heap.size, 2, none⟩) (Blk.lt hX3)).trans (Blk.cell hX3 2))
  have s3 : w4.cell? ⟨w.heap.size, 3, none⟩ = some (.slice A1 x.l.length c1) := (cell_heap hh4 _).trans ((bA.cell (p := ⟨w.heap.size, 3, none⟩) (Blk.lt hX3)).trans (Blk.cell hX3 3))
  have s4 : w4.cell? ⟨w.heap.size, 4, none⟩ = some (.slice A2 x.t.length c2) := (cell_heap hh4 _).trans ((bA.cell (p := ⟨w.heap.size, 4, none⟩) (Blk.lt hX3)).trans (Blk.cell hX3 4))
  have HT := Lib.hid ht
  have hl1 := hx.l1
  have ht1' := hx.t1
  have HLI := Lib.hid hx.li
  have hn0 := hx.n0
  have hn1 := hx.n1
  have HX := Lib.hid hx
  have HR1 := Lib.hid hr1
  have HR2 := Lib.hid hr2
  clear hd4 hh4 bA hX3 CF q3 q3' ht hx hr1 hr2
  go_wp2_with fail
  go_region_held3 (fun w' => w'.cell? ⟨w.heap.size, 1, none⟩ = some (.int .i64 x.n) ∧ w'.cell? ⟨w.heap.size, 2, none⟩ = some (.string x.s)) (first | exact ⟨s1, s2⟩ | exact ⟨s1_10, s2_10⟩ | exact ⟨s1_9, s2_9⟩ | exact ⟨s1_8, s2_8⟩ | exact ⟨s1_7, s2_7⟩ | exact ⟨s1_6, s2_6⟩ | exact ⟨s1_5, s2_5⟩) (first | (go_at_call 11; (with_reducible refine (wNumE _ hn0 hn1 _ ?_).mono ?_); (next => exact HT.out.on (bdrew q4 ⟨rfl, rfl, rfl, rfl⟩)); rintro e w5 ⟨rfl, b5⟩; have q5 := blq q4 b5 ⟨rfl, rfl, rfl, rfl⟩; have s1_5 := keepc s1 b5 rfl; have s2_5 := keepc s2 b5 rfl; have s3_5 := keepc s3 b5 rfl; have s4_5 := keepc s4 b5 rfl; clear b5) | (go_at_call 12; (with_reducible refine (refNumE _ hn0 hn1 _).mono ?_); rintro e w6 ⟨rfl, b6⟩; have q6 := blq q5 b6 ⟨rfl, rfl, rfl, rfl⟩; have s1_6 := keepc s1_5 b6 rfl; have s2_6 := keepc s2_5 b6 rfl; have s3_6 := keepc s3_5 b6 rfl; have s4_6 := keepc s4_5 b6 rfl; clear b6) | (go_at_call 13; (with_reducible refine (wInt_any _ hn0 hn1 _ ?_).mono ?_); (next => exact HT.out.on (bdrew q6 ⟨rfl, rfl, rfl, rfl⟩)); rintro e w7 ⟨rfl, b7⟩; have q7 := blq q6 b7 ⟨rfl, rfl, rfl, rfl⟩; have s1_7 := keepc s1_6 b7 rfl; have s2_7 := keepc s2_6 b7 rfl; have s3_7 := keepc s3_6 b7 rfl; have s4_7 := keepc s4_6 b7 rfl; clear b7) | (go_at_call 14; (with_reducible refine (refInt _ hn0 hn1 _).mono ?_); rintro e w8 ⟨rfl, b8⟩; have q8 := blq q7 b8 ⟨rfl, rfl, rfl, rfl⟩; have s1_8 := keepc s1_7 b8 rfl; have s2_8 := keepc s2_7 b8 rfl; have s3_8 := keepc s3_7 b8 rfl; have s4_8 := keepc s4_7 b8 rfl; clear b8) | (go_at_call 15; (with_reducible refine (wText_any _ (by omega) _ ?_).mono ?_); (next => exact HT.out.on (bdrew q8 ⟨rfl, rfl, rfl, rfl⟩)); rintro e w9 ⟨rfl, b9⟩; have q9 := blq q8 b9 ⟨rfl, rfl, rfl, rfl⟩; have s1_9 := keepc s1_8 b9 rfl; have s2_9 := keepc s2_8 b9 rfl; have s3_9 := keepc s3_8 b9 rfl; have s4_9 := keepc s4_8 b9 rfl; clear b9) | (go_at_call 16; (with_reducible refine (refText _ (by omega) _).mono ?_); rintro e w10 ⟨rfl, b10⟩; have q10 := blq q9 b10 ⟨rfl, rfl, rfl, rfl⟩; have s1_10 := keepc s1_9 b10 rfl; have s2_10 := keepc s2_9 b10 rfl; have s3_10 := keepc s3_9 b10 rfl; have s4_10 := keepc s4_9 b10 rfl; clear b10))
  go_wp2_with fail
  go_region_held3 (fun w' => w'.cell? ⟨w.heap.size, 3, none⟩ = some (.slice A1 x.l.length c1) ∧ w'.cell? ⟨w.heap.size, 4, none⟩ = some (.slice A2 x.t.length c2)) (first | exact ⟨s3_10, s4_10⟩ | exact ⟨s3_14, s4_14⟩ | exact ⟨s3_13, s4_13⟩ | exact ⟨s3_12, s4_12⟩ | exact ⟨s3_11, s4_11⟩) (first | (go_at_call 17; (with_reducible refine (nums_any A1 _ c1 w.heap.size x.l _ ?_ ?_ ?_ hl1 HLI.out (by omega)).mono ?_); (next => exact HT.out.on (bdrew q10 ⟨rfl, rfl, rfl, rfl⟩)); (next => exact HR1.out.below (bdrew q10 ⟨rfl, rfl, rfl, rfl⟩)); (next => exact (bdrew q10 ⟨rfl, rfl, rfl, rfl⟩).size); rintro e w11 ⟨rfl, b11⟩; have q11 := blq q10 b11 ⟨rfl, rfl, rfl, rfl⟩; have s3_11 := keepc s3_10 b11 rfl; have s4_11 := keepc s4_10 b11 rfl; clear b11) | (go_at_call 18; (with_reducible refine (refNums A1 _ c1 w.heap.size x.l _ ?_ ?_ hl1 HLI.out (by omega)).mono ?_); (next => exact HR1.out.below (bdrew q11 ⟨rfl, rfl, rfl, rfl⟩)); (next => exact (bdrew q11 ⟨rfl, rfl, rfl, rfl⟩).size); rintro e w12 ⟨rfl, b12⟩; have q12 := blq q11 b12 ⟨rfl, rfl, rfl, rfl⟩; have s3_12 := keepc s3_11 b12 rfl; have s4_12 := keepc s4_11 b12 rfl; clear b12) | (go_at_call 19; (with_reducible refine (texts_any A2 _ c2 w.heap.size x.t _ ?_ ?_ ?_ ht1' o4'.out (by omega)).mono ?_); (next => exact HT.out.on (bdrew q12 ⟨rfl, rfl, rfl, rfl⟩)); (next => exact HR2.out.below (bdrew q12 ⟨rfl, rfl, rfl, rfl⟩)); (next => exact (bdrew q12 ⟨rfl, rfl, rfl, rfl⟩).size); rintro e w13 ⟨rfl, b13⟩; have q13 := blq q12 b13 ⟨rfl, rfl, rfl, rfl⟩; have s3_13 := keepc s3_12 b13 rfl; have s4_13 := keepc s4_12 b13 rfl; clear b13) | (go_at_call 20; (with_reducible refine (refTexts A2 _ c2 w.heap.size x.t _ ?_ ?_ ht1' o4'.out (by omega)).mono ?_); (next => exact HR2.out.below (bdrew q13 ⟨rfl, rfl, rfl, rfl⟩)); (next => exact (bdrew q13 ⟨rfl, rfl, rfl, rfl⟩).size); rintro e w14 ⟨rfl, b14⟩; have q14 := blq q13 b14 ⟨rfl, rfl, rfl, rfl⟩; have s3_14 := keepc s3_13 b14 rfl; have s4_14 := keepc s4_13 b14 rfl; clear b14))
  go_wp2
  go_ret
  exact ⟨rfl, q14⟩

theorem writes_walk (x : Va) (A1 : Option Addr) (c1 : Nat) (A2 : Option Addr) (c2 : Nat) (w : World) (ht : Tab w) (hx : x.Fits) (hr1 : Reads w w.heap.size 1 A1 x.l.length (x.l.map (Value.int .i64))) (hr2 : Reads w w.heap.size 1 A2 x.t.length (x.t.map Value.string)) :
    Calls Tryd.prog 3 #[aggV x A1 c1 A2 c2] w fun e w' => e = .returned (.bool true) ∧ Below w.heap.size w w' := by
  cases hfe : fewB [x] with
  | false => exact writes_no x A1 c1 A2 c2 w ht hx hr1 hr2 hfe
  | true => exact writes_yes x A1 c1 A2 c2 w ht hx hr1 hr2 hfe

end Go.Proofs.YtkkaancpokahcaaDoor
