/- The walk of the law's small examples. Condition: the variables that the calls read. -/
import Derived.Test.YtkhkdgkafocpoaaDoorM1
namespace Go.Proofs.YtkhkdgkafocpoaaDoor
set_option maxRecDepth 20000
open Go.RowKit

def exL1 : List Tok := [⟨0, [97, 49], 0, 0⟩, ⟨3, [61], 0, 3⟩, ⟨2, [120, 34, 121], 0, 5⟩, ⟨3, [59], 0, 11⟩]
def exL2 : List Tok := [⟨0, [102], 0, 0⟩, ⟨3, [40], 0, 1⟩, ⟨1, [50], 2, 2⟩, ⟨3, [44], 0, 3⟩, ⟨2, [97], 0, 4⟩, ⟨3, [41], 0, 7⟩]
theorem ex_1 : scanT [97, 49, 32, 61, 32, 34, 120, 92, 34, 121, 34, 59, 32, 35, 32, 122] = .ok exL1 := by kernel_rfl
theorem ex_2 : scanT [120, 32, 48, 48, 55] = .err 2 3 := by kernel_rfl
theorem ex_3 : scanT [97, 32, 62, 32, 98] = .err 2 10 := by kernel_rfl
theorem ex_4 : scanT [34, 97, 98] = .err 0 2 := by kernel_rfl
theorem ex_5 : scanT [102, 40, 50, 44, 34, 97, 34, 41] = .ok exL2 := by kernel_rfl
theorem ex_6 : numP [49, 50] = some 12 := by kernel_rfl
theorem ex_7 : numP [48, 49, 50] = none := by kernel_rfl
theorem ex_8 : printA (exL2.map toA) = [102, 32, 40, 32, 50, 32, 44, 32, 34, 97, 34, 32, 41] := by kernel_rfl
theorem ex_9 : nameP [97, 95, 49] = true := by kernel_rfl
theorem ex_10 : nameP [49, 97] = false := by kernel_rfl

/-- Scan where a text has tokens, in the slice's words. -/
theorem scan_ok {s : ByteArray} {ts : List Tok} {w : World} {n : Nat} (hE : Env w) (h : scanT s.data.toList = .ok ts) (hn : ts.length = n) :
    Calls Tryd.prog 11 #[.string s] w fun e w' => ∃ A c, e = .returned (.tuple #[.slice A n c, .int .i64 0, .int .i64 0]) ∧ w'.ownsRow w.heap.size 25 4 (.slice A n c) n (tokC ts) ∧ Below w.heap.size w w' := by
  subst hn
  have := Scan_any s w hE
  refine this.mono fun e w' he => ?_
  unfold ScanEnd at he
  rw [h] at he
  obtain ⟨⟨A, c, h1, h2⟩, hb⟩ := he
  exact ⟨A, c, h1, h2, hb⟩
theorem scan_err {s : ByteArray} {a : Nat} {x : Int} {w : World} (hE : Env w) (h : scanT s.data.toList = .err a x) :
    Calls Tryd.prog 11 #[.string s] w fun e w' => e = .returned (.tuple #[.slice none 0 0, .int .i64 (a : Int), .int .i64 x]) ∧ Below w.heap.size w w' := by
  have := Scan_any s w hE
  refine this.mono fun e w' he => ?_
  unfold ScanEnd at he
  rw [h] at he
  exact he
theorem num_yes {s : ByteArray} {n : Nat} {w : World} (hs : s.size ≤ 1073741824) (hE : Env w) (h : numP s.data.toList = some n) :
    Calls Tryd.prog 13 #[.string s] w fun e w' => e = .returned (.tuple #[.int .i64 (n : Int), .bool true]) ∧ Below w.heap.size w w' := by
  refine (Number_any s w hs hE).mono fun e w' he => ?_
  unfold NumEnd at he
  rw [h] at he
  exact he
theorem num_no {s : ByteArray} {w : World} (hs : s.size ≤ 1073741824) (hE : Env w) (h : numP s.data.toList = none) :
    Calls Tryd.prog 13 #[.string s] w fun e w' => e = .returned (.tuple #[.int .i64 0, .bool false]) ∧ Below w.heap.size w w' := by
  refine (Number_any s w hs hE).mono fun e w' he => ?_
  unfold NumEnd at he
  rw [h] at he
  exact he
theorem own_reads {w : World} {base n c : Nat} {A : Option Addr} {ts : List Tok} (h : w.ownsRow base 25 4 (.slice A n c) n (tokC ts)) : Reads w w.heap.size 4 A n (arC (ts.map toA)) := by
  rw [← tokC_arC]
  exact Reads.of_own h
def wantC : Array Value := #[.int .i64 0, .string ⟨#[97, 49]⟩, .int .i64 0, .int .i64 0, .int .i64 3, .string ⟨#[61]⟩, .int .i64 0, .int .i64 3, .int .i64 2, .string ⟨#[120, 34, 121]⟩, .int .i64 0, .int .i64 5, .int .i64 3, .string ⟨#[59]⟩, .int .i64 0, .int .i64 11]
set_option maxHeartbeats 4000000 in
theorem sane_any (w : World) (hE : Hid (Env w)) :
    Calls Tryd.prog 9 #[] w fun e w' => e = .returned (.bool true) ∧ Below w.heap.size w w' := by
  have HB0 : Hid (Below w.heap.size w w) := Below.refl _ _
  go_enter Tryd.func9, Tryd.ntmps9
  go_wp2_with fail
  refine (scan_ok hE.out ex_1 rfl).mono ?_
  rintro e w1 ⟨A1, c1, rfl, ho, hb⟩
  have HO1 := Lib.hid ho
  have HB1 := Lib.hid hb
  clear ho hb
  go_wp2_with fail
  refine (scan_err (hE.out.on HB1.out) ex_2).mono ?_
  rintro e w2 ⟨rfl, hb⟩
  have HO2 := Lib.hid (own_on HO1.out hb)
  have HB2 : Hid (Below w.heap.size w w2) := HB1.out.trans (hb.mono HB1.out.size)
  clear hb HO1
  go_wp2_with fail
  refine (scan_err (hE.out.on HB2.out) ex_3).mono ?_
  rintro e w3 ⟨rfl, hb⟩
  have HO3 := Lib.hid (own_on HO2.out hb)
  have HB3 : Hid (Below w.heap.size w w3) := HB2.out.trans (hb.mono HB2.out.size)
  clear hb HO2
  go_wp2_with fail
  refine (scan_err (hE.out.on HB3.out) ex_4).mono ?_
  rintro e w4 ⟨rfl, hb⟩
  have HO4 := Lib.hid (own_on HO3.out hb)
  have HB4 : Hid (Below w.heap.size w w4) := HB3.out.trans (hb.mono HB3.out.size)
  clear hb HO3
  go_wp2_with fail
  refine (scan_ok (hE.out.on HB4.out) ex_5 rfl).mono ?_
  rintro e w5 ⟨A2, c2, rfl, ho, hb⟩
  have HO5 := Lib.hid (own_on HO4.out hb)
  have HP5 := Lib.hid ho
  have HB5 : Hid (Below w.heap.size w w5) := HB4.out.trans (hb.mono HB4.out.size)
  clear ho hb HO4
  go_wp2_with fail
  have hw6 : Reads (w5.alloc (.cells wantC 25)) (w5.alloc (.cells wantC 25)).heap.size 4 (some ⟨w5.heap.size, 0, none⟩) 4 (arC (exL1.map toA)) := by
    refine ⟨rfl, fun _ => ⟨_, rfl, by simp, fun j u hj => ?_⟩⟩
    have hc := cell_of_row (w5.alloc (.cells wantC 25)) w5.heap.size j _ _ (0, 0) (heap_alloc_new w5 _)
    rw [show (Addr.mk w5.heap.size 0 none).add j = ⟨w5.heap.size, j, none⟩ from by simp [Addr.add]; omega, hc]
    have e : arC (exL1.map toA) = wantC.toList := rfl
    rw [e] at hj
    rw [← hj]; simp
  have ho6 := HO5.out.alloc (.cells wantC 25)
  have hp6 := HP5.out.alloc (.cells wantC 25)
  have hb6 := HB5.out.alloc HB5.out.size (.cells wantC 25)
  obtain ⟨w6, hq6⟩ : ∃ w6, w6 = w5.alloc (.cells wantC 25) := ⟨_, rfl⟩
  rw [← hq6] at hw6 ho6 hp6 hb6
  have HW6 := Lib.hid hw6
  have HO6 := Lib.hid ho6
  have HP6 := Lib.hid hp6
  have HB6 := Lib.hid hb6
  have hq6' : w5.alloc (.cells #[.int .i64 0, .string ⟨#[97, 49]⟩, .int .i64 0, .int .i64 0, .int .i64 3, .string ⟨#[61]⟩, .int .i64 0, .int .i64 3, .int .i64 2, .string ⟨#[120, 34, 121]⟩, .int .i64 0, .int .i64 5, .int .i64 3, .string ⟨#[59]⟩, .int .i64 0, .int .i64 11] 25) = w6 := hq6.symm
  rw [hq6']
  clear hw6 ho6 hp6 hb6 hq6 hq6' HO5 HP5
  refine (num_yes (by decide) (hE.out.on HB6.out) ex_6).mono ?_
  rintro e w7 ⟨rfl, hb⟩
  have HW7 := Lib.hid (HW6.out.below hb)
  have HO7 := Lib.hid (own_on HO6.out hb)
  have HP7 := Lib.hid (own_on HP6.out hb)
  have HB7 : Hid (Below w.heap.size w w7) := HB6.out.trans (hb.mono HB6.out.size)
  have hz7 : w6.heap.size ≤ w7.heap.size := hb.size
  clear hb HO6 HP6 HW6
  go_wp2_with fail
  refine (num_no (by decide) (hE.out.on HB7.out) ex_7).mono ?_
  rintro e w8 ⟨rfl, hb⟩
  have HW8 := Lib.hid (HW7.out.keep (fun p hp => hb.cell (p := p) (by omega)))
  have HO8 := Lib.hid (own_on HO7.out hb)
  have HP8 := Lib.hid (own_on HP7.out hb)
  have HB8 : Hid (Below w.heap.size w w8) := HB7.out.trans (hb.mono HB7.out.size)
  have hz8 : w6.heap.size ≤ w8.heap.size := by have := hb.size; omega
  clear hb HO7 HP7 HW7 hz7
  go_wp2_with fail
  refine (Same_yes _ _ 4 _ _ w8.heap.size (exL1.map toA) w8 (own_reads HO8.out) (HW8.out.more hz8) (Nat.le_refl _) rfl (by omega)).mono ?_
  rintro e w9 ⟨rfl, hb⟩
  have HP9 := Lib.hid (own_on HP8.out hb)
  have HB9 : Hid (Below w.heap.size w w9) := HB8.out.trans (hb.mono HB8.out.size)
  clear hb HO8 HP8 HW8 hz8
  go_wp2_with fail
  refine (Print_any _ 6 _ w9.heap.size (exL2.map toA) w9 (own_reads HP9.out) (Nat.le_refl _) rfl (by omega) (by show ∀ t ∈ exL2.map toA, t.text.length ≤ 4096; decide +kernel) (hE.out.on HB9.out)).mono ?_
  rintro e w10 ⟨rfl, hb⟩
  have HB10 : Hid (Below w.heap.size w w10) := HB9.out.trans (hb.mono HB9.out.size)
  rw [ex_8]
  clear hb HP9
  go_wp2_with fail
  have N1 := Lib.hid (Name_any ⟨#[97, 95, 49]⟩ w10 (by decide))
  have N2 := Lib.hid (Name_any ⟨#[49, 97]⟩ w10 (by decide))
  refine N1.out.mono ?_
  rintro e w' ⟨rfl, rfl⟩
  rw [show nameP (⟨#[97, 95, 49]⟩ : ByteArray).data.toList = true from ex_9]
  go_wp2_with fail
  refine N2.out.mono ?_
  rintro e w' ⟨rfl, rfl⟩
  rw [show nameP (⟨#[49, 97]⟩ : ByteArray).data.toList = false from ex_10]
  go_wp2_with fail
  go_ret
  exact ⟨rfl, HB10.out⟩
end Go.Proofs.YtkhkdgkafocpoaaDoor
