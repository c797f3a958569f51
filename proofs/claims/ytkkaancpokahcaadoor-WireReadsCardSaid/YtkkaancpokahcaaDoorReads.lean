/- The walk of the statement WireReads: the reader and the reference's reader return the same, call after call. Condition: the table of strconv holds what its text lays. -/
import Derived.Test.YtkkaancpokahcaaDoorRq4
import Derived.Test.YtkkaancpokahcaaDoorAgain
import Derived.Test.YtkkaancpokahcaaDoorArg
namespace Go.Proofs.YtkkaancpokahcaaDoor
open Go.RowKit Go.Lib

/-- Both readers have t left, and have failed or not. -/
def Two (w : World) (br bq : Nat) (t : ByteArray) (f : Bool) : Prop := Rd w br t f ∧ Rq w bq t f ∧ (f = true → t.data.toList = []) ∧ t.size ≤ 400
theorem Two.below {w w' : World} {br bq : Nat} {t : ByteArray} {f : Bool} (h : Two w br bq t f) (hb : Below w.heap.size w w') : Two w' br bq t f :=
  ⟨Blk.below h.1 hb (Blk.lt h.1), Blk.below h.2.1 hb (Blk.lt h.2.1), h.2.2⟩
theorem rest_len {α : Type} {p : List UInt8 → Option (α × List UInt8)} {enc : α → List UInt8} {ok : α → Prop} (hc : Codec p enc ok) {t : ByteArray} {x : α} {r : List UInt8} (h : p t.data.toList = some (x, r)) (ht : t.size ≤ 400) : (ByteArray.mk r.toArray).size ≤ 400 := by
  have h1 := ((hc _ _ _).1 h).2
  have h2 := congrArg List.length h1
  rw [len_eq, List.length_append] at h2
  rw [size_of_list]
  omega
theorem qnum_yes {b : Nat} {s : ByteArray} {f : Bool} {x : Nat} {r : List UInt8} {w : World} (h : Rq w b s f) (hff : f = true → s.data.toList = []) (hs : s.size ≤ 9223372036854775806) (ho : numP s.data.toList = some (x, r)) :
    Calls Tryd.prog 25 #[.pointer (some ⟨b, 0, none⟩)] w fun e w' => e = .returned (.int .i64 (x : Int)) ∧ RqL w' b r false ∧ w.grownBy w' (some b) :=
  (qnum b s f w h hff hs).mono fun e w' hd => by rw [ho] at hd; exact hd
theorem qnum_no {b : Nat} {s : ByteArray} {f : Bool} {w : World} (h : Rq w b s f) (hff : f = true → s.data.toList = []) (hs : s.size ≤ 9223372036854775806) (ho : numP s.data.toList = none) :
    Calls Tryd.prog 25 #[.pointer (some ⟨b, 0, none⟩)] w fun e w' => e = .returned (.int .i64 0) ∧ RqL w' b [] true ∧ w.grownBy w' (some b) :=
  (qnum b s f w h hff hs).mono fun e w' hd => by rw [ho] at hd; exact hd

theorem nums_own {b : Nat} {s : ByteArray} {f : Bool} {w : World} {xs : List Int} {r : List UInt8} (h : Rd w b s f) (hff : f = true → s.data.toList = []) (hs : s.size ≤ 1099511627776) (ho : listP intP s.data.toList = some (xs, r)) :
    Calls Tryd.prog 31 #[.pointer (some ⟨b, 0, none⟩)] w fun e w' => ∃ A c, e = .returned (.slice A xs.length c) ∧ w'.ownsRow w.heap.size 3 1 (.slice A xs.length c) xs.length (xs.map (Value.int .i64)) ∧ RdL w' b r false ∧ w.grownBy w' (some b) :=
  (nums_rd_any b s f w h hff hs).mono fun e w' hd => by
    rw [ho] at hd
    obtain ⟨v, he, hown, hr, hg⟩ := hd
    obtain ⟨A, c, rfl, _⟩ := own_reads hown
    exact ⟨A, c, he, hown, hr, hg⟩
theorem qnums_own {b : Nat} {s : ByteArray} {f : Bool} {w : World} {xs : List Int} {r : List UInt8} (h : Rq w b s f) (hff : f = true → s.data.toList = []) (hs : s.size ≤ 1099511627776) (ho : listP intP s.data.toList = some (xs, r)) :
    Calls Tryd.prog 32 #[.pointer (some ⟨b, 0, none⟩)] w fun e w' => ∃ A c, e = .returned (.slice A xs.length c) ∧ w'.ownsRow w.heap.size 3 1 (.slice A xs.length c) xs.length (xs.map (Value.int .i64)) ∧ RqL w' b r false ∧ w.grownBy w' (some b) :=
  (qnums b s f w h hff hs).mono fun e w' hd => by
    rw [ho] at hd
    obtain ⟨v, he, hown, hr, hg⟩ := hd
    obtain ⟨A, c, rfl, _⟩ := own_reads hown
    exact ⟨A, c, he, hown, hr, hg⟩
def strV (l : List UInt8) : Value := Value.string ⟨l.toArray⟩
theorem texts_own {b : Nat} {s : ByteArray} {f : Bool} {w : World} {xs : List (List UInt8)} {r : List UInt8} (h : Rd w b s f) (hff : f = true → s.data.toList = []) (hs : s.size ≤ 1099511627776) (ho : listP textP s.data.toList = some (xs, r)) :
    Calls Tryd.prog 34 #[.pointer (some ⟨b, 0, none⟩)] w fun e w' => ∃ A c, e = .returned (.slice A xs.length c) ∧ w'.ownsRow w.heap.size 9 1 (.slice A xs.length c) xs.length (xs.map strV) ∧ RdL w' b r false ∧ w.grownBy w' (some b) :=
  (texts_rd_any b s f w h hff hs).mono fun e w' hd => by
    rw [ho] at hd
    obtain ⟨v, he, hown, hr, hg⟩ := hd
    obtain ⟨A, c, rfl, _⟩ := own_reads hown
    exact ⟨A, c, he, hown, hr, hg⟩
theorem qtexts_own {b : Nat} {s : ByteArray} {f : Bool} {w : World} {xs : List (List UInt8)} {r : List UInt8} (h : Rq w b s f) (hff : f = true → s.data.toList = []) (hs : s.size ≤ 1099511627776) (ho : listP textP s.data.toList = some (xs, r)) :
    Calls Tryd.prog 35 #[.pointer (some ⟨b, 0, none⟩)] w fun e w' => ∃ A c, e = .returned (.slice A xs.length c) ∧ w'.ownsRow w.heap.size 9 1 (.slice A xs.length c) xs.length (xs.map strV) ∧ RqL w' b r false ∧ w.grownBy w' (some b) :=
  (qtexts b s f w h hff hs).mono fun e w' hd => by
    rw [ho] at hd
    obtain ⟨v, he, hown, hr, hg⟩ := hd
    obtain ⟨A, c, rfl, _⟩ := own_reads hown
    exact ⟨A, c, he, hown, hr, hg⟩
theorem strV_map (xs : List (List UInt8)) : xs.map strV = (xs.map fun l : List UInt8 => (⟨l.toArray⟩ : ByteArray)).map Value.string := by
  rw [List.map_map]
  rfl
theorem own_len {w : World} {B e n : Nat} {A : Option Addr} {c : Nat} {xs : List Value} (h : w.ownsRow B e 1 (.slice A n c) n xs) : ∃ B', Reads w B' 1 A n xs ∧ B' = w.heap.size := ⟨_, Reads.of_own h, rfl⟩

theorem reads_no (s : ByteArray) (A : Option Addr) (cs : List Int) (c : Nat) (w : World) (ht : Tab w) (hm : s.size ≤ 9223372036854775807) (hn : cs.length ≤ 9223372036854775807) (hno : 400 < s.size ∨ 20 < cs.length) :
    Calls Tryd.prog 4 #[.string s, .slice A cs.length c] w fun e w' => e = .returned (.bool true) ∧ Below w.heap.size w w' := by
  by_cases hs : 400 < s.size
  · go_enter Tryd.func4, Tryd.ntmps4
    go_wp2_with fail
    refine (small_any _ ht).mono ?_
    rintro e w1 ⟨rfl, q1⟩
    go_wp2
    go_ret
    exact ⟨rfl, q1⟩
  · have hl : 20 < cs.length := by omega
    go_enter Tryd.func4, Tryd.ntmps4
    go_wp2_with fail
    refine (small_any _ ht).mono ?_
    rintro e w1 ⟨rfl, q1⟩
    go_wp2
    go_ret
    exact ⟨rfl, q1⟩

set_option maxRecDepth 4000 in
set_option maxHeartbeats 4000000 in
theorem reads_yes (s : ByteArray) (A : Option Addr) (cs : List Int) (c : Nat) (w : World) (ht : Tab w) (hr : Reads w w.heap.size 1 A cs.length (cs.map (Value.int .i64))) (hs : s.size ≤ 400) (hl : cs.length ≤ 20) :
    Calls Tryd.prog 4 #[.string s, .slice A cs.length c] w fun e w' => e = .returned (.bool true) ∧ Below w.heap.size w w' := by
  have HR := Lib.hid hr
  clear hr
  go_enter Tryd.func4, Tryd.ntmps4
  go_wp2_with fail
  refine (small_any _ ht).mono ?_
  rintro e w1 ⟨rfl, q1⟩
  go_wp2_with fail
  refine (open_any _ _).mono ?_
  rintro e w2 ⟨rfl, hR2, b2⟩
  have q2 := blw q1 b2
  go_wp2_with fail
  refine (qopen _ _).mono ?_
  rintro e w3 ⟨rfl, hQ3, b3⟩
  have q3 := blw q2 b3
  have hR3 : Rd w3 w1.heap.size s false := Blk.below hR2 b3 (Blk.lt hR2)
  have hne : w1.heap.size ≠ w2.heap.size := by have := Blk.lt hR2; omega
  have hbr : w.heap.size ≤ w1.heap.size := q1.size
  have hbq : w.heap.size ≤ w2.heap.size := q2.size
  have hT : Hid (Two w3 w1.heap.size w2.heap.size s false) := ⟨hR3, hQ3, (fun h => by cases h), hs⟩
  generalize w1.heap.size = br at *
  generalize w2.heap.size = bq at *
  clear q1 q2 b2 b3 hR2 hQ3 hR3 hs
  go_wp2_with fail
  go_loopw [8] (fun i wr => ∃ (j : Nat) (t : ByteArray) (f : Bool), j ≤ cs.length ∧ i = .int .i64 j ∧ Hid (Two wr br bq t f) ∧ Below w.heap.size w wr) (fun i _ => cs.length - (RowKit.intOf i).toNat)
  case atStart => exact ⟨0, s, false, Nat.zero_le _, rfl, hT, q3⟩
  case round =>
    obtain ⟨j, t, f, hj, rfl, hT, hq⟩ := hrel
    by_cases hjl : j < cs.length
    · obtain ⟨ad, u, rfl, hab, hu, hcell⟩ := (HR.out.below hq).at_ hjl
      obtain ⟨hkl, rfl⟩ := map_at hu
      generalize cs[j] = k at *
      clear hu
      have h5 : k % 5 = 0 ∨ k % 5 = 1 ∨ k % 5 = 2 ∨ k % 5 = 3 ∨ k % 5 = 4 := by omega
      have hbig := hq.size
      rcases h5 with h | h | h | h | h
      · cases ho : numP t.data.toList with
        | none =>
          have HO := Lib.hid ho
          clear ho
          go_wp2_with fail
          refine (kind_eq _ _ h _ _ _ _ _).mono ?_
          rintro e w4 ⟨rfl, b4⟩
          have hT4 := hT.out.below ⟨b4.os, b4.tape, b4.output, b4.size, b4.block⟩
          have q4 := blw hq ⟨b4.os, b4.tape, b4.output, b4.size, b4.block⟩
          have hs4 := q4.size
          have hts := hT4.2.2.2
          clear b4 hcell
          go_wp2_with fail
          refine (num_no hT4.1 hT4.2.2.1 (by omega) HO.out).mono ?_
          rintro e w5 ⟨rfl, hR5, g5⟩
          have hQ5 : Rq w5 bq t f := Rq.grown hT4.2.1 g5 (by simp; omega)
          have hs5 := g5.size
          go_wp2_with fail
          refine (qnum_no hQ5 hT4.2.2.1 (by omega) HO.out).mono ?_
          rintro e w6 ⟨rfl, hQ6, g6⟩
          have hR6 : Rd w6 br ⟨#[]⟩ true := Rd.grown hR5 g6 (by simp; omega)
          have hQ6' : Rq w6 bq ⟨#[]⟩ true := hQ6
          have q6 := (q4.trans (below_of_only g5 ⟨hbr, hs4⟩)).trans (below_of_only g6 ⟨hbq, by omega⟩)
          clear hT4 hQ5 hQ6 hR5 HO
          obtain ⟨dd, hdd⟩ : ∃ dd : Bool, (!true && (ByteArray.data ⟨#[]⟩).toList.isEmpty) = dd := ⟨_, rfl⟩
          have HDD := Lib.hid hdd
          clear hdd
          go_wp2_with fail
          refine (left_any _ _ _ _ hR6).mono ?_
          rintro e w7 ⟨rfl, rfl⟩
          go_wp2_with fail
          refine (qleft _ _ _ _ hQ6').mono ?_
          rintro e w7 ⟨rfl, rfl⟩
          go_wp2_with fail
          refine (done_any _ _ _ _ hR6).mono ?_
          rintro e w7 ⟨rfl, rfl⟩
          rw [HDD.out]
          go_wp2_with fail
          refine (qdone _ _ _ _ hQ6').mono ?_
          rintro e w7 ⟨rfl, rfl⟩
          rw [HDD.out]
          clear h HDD hts hs4 hs5 hbig q4 g5 g6 hq hT
          go_wp2_with fail
          go_roundw
          case rel => exact ⟨j + 1, ⟨#[]⟩, true, by omega, by go_num, ⟨hR6, hQ6', (fun _ => rfl), by decide⟩, q6⟩
          case measure => simp [RowKit.intOf]; omega
        | some o =>
          obtain ⟨x, r⟩ := o
          have hrl := rest_len num_codec ho hT.out.2.2.2
          have HO := Lib.hid ho
          clear ho
          go_wp2_with fail
          refine (kind_eq _ _ h _ _ _ _ _).mono ?_
          rintro e w4 ⟨rfl, b4⟩
          have hT4 := hT.out.below ⟨b4.os, b4.tape, b4.output, b4.size, b4.block⟩
          have q4 := blw hq ⟨b4.os, b4.tape, b4.output, b4.size, b4.block⟩
          have hs4 := q4.size
          have hts := hT4.2.2.2
          clear b4 hcell
          go_wp2_with fail
          refine (num_yes hT4.1 hT4.2.2.1 (by omega) HO.out).mono ?_
          rintro e w5 ⟨rfl, hR5, g5⟩
          have hQ5 : Rq w5 bq t f := Rq.grown hT4.2.1 g5 (by simp; omega)
          have hs5 := g5.size
          go_wp2_with fail
          refine (qnum_yes hQ5 hT4.2.2.1 (by omega) HO.out).mono ?_
          rintro e w6 ⟨rfl, hQ6, g6⟩
          have hR6 : Rd w6 br ⟨r.toArray⟩ false := Rd.grown hR5 g6 (by simp; omega)
          have hQ6' : Rq w6 bq ⟨r.toArray⟩ false := hQ6
          have q6 := (q4.trans (below_of_only g5 ⟨hbr, hs4⟩)).trans (below_of_only g6 ⟨hbq, by omega⟩)
          clear hT4 hQ5 hQ6 hR5 HO
          obtain ⟨dd, hdd⟩ : ∃ dd : Bool, (!false && (ByteArray.data ⟨r.toArray⟩).toList.isEmpty) = dd := ⟨_, rfl⟩
          have HDD := Lib.hid hdd
          clear hdd
          go_wp2_with fail
          refine (left_any _ _ _ _ hR6).mono ?_
          rintro e w7 ⟨rfl, rfl⟩
          go_wp2_with fail
          refine (qleft _ _ _ _ hQ6').mono ?_
          rintro e w7 ⟨rfl, rfl⟩
          go_wp2_with fail
          refine (done_any _ _ _ _ hR6).mono ?_
          rintro e w7 ⟨rfl, rfl⟩
          rw [HDD.out]
          go_wp2_with fail
          refine (qdone _ _ _ _ hQ6').mono ?_
          rintro e w7 ⟨rfl, rfl⟩
          rw [HDD.out]
          clear h HDD hts hs4 hs5 hbig q4 g5 g6 hq hT
          go_wp2_with fail
          go_roundw
          case rel => exact ⟨j + 1, ⟨r.toArray⟩, false, by omega, by go_num, ⟨hR6, hQ6', (fun h => by cases h), hrl⟩, q6⟩
          case measure => simp [RowKit.intOf]; omega
      · cases ho : intP t.data.toList with
        | none =>
          have HO := Lib.hid ho
          clear ho
          go_wp2_with fail
          refine (kind_eq _ _ h _ _ _ _ _).mono ?_
          rintro e w4 ⟨rfl, b4⟩
          have hT4 := hT.out.below ⟨b4.os, b4.tape, b4.output, b4.size, b4.block⟩
          have q4 := blw hq ⟨b4.os, b4.tape, b4.output, b4.size, b4.block⟩
          have hs4 := q4.size
          have hts := hT4.2.2.2
          clear b4 hcell
          go_wp2_with fail
          refine (int_no hT4.1 hT4.2.2.1 (by omega) HO.out).mono ?_
          rintro e w5 ⟨rfl, hR5, g5⟩
          have hQ5 : Rq w5 bq t f := Rq.grown hT4.2.1 g5 (by simp; omega)
          have hs5 := g5.size
          go_wp2_with fail
          refine (qint_no hQ5 hT4.2.2.1 (by omega) HO.out).mono ?_
          rintro e w6 ⟨rfl, hQ6, g6⟩
          have hR6 : Rd w6 br ⟨#[]⟩ true := Rd.grown hR5 g6 (by simp; omega)
          have hQ6' : Rq w6 bq ⟨#[]⟩ true := hQ6
          have q6 := (q4.trans (below_of_only g5 ⟨hbr, hs4⟩)).trans (below_of_only g6 ⟨hbq, by omega⟩)
          clear hT4 hQ5 hQ6 hR5 HO
          obtain ⟨dd, hdd⟩ : ∃ dd : Bool, (!true && (ByteArray.data ⟨#[]⟩).toList.isEmpty) = dd := ⟨_, rfl⟩
          have HDD := Lib.hid hdd
          clear hdd
          go_wp2_with fail
          refine (left_any _ _ _ _ hR6).mono ?_
          rintro e w7 ⟨rfl, rfl⟩
          go_wp2_with fail
          refine (qleft _ _ _ _ hQ6').mono ?_
          rintro e w7 ⟨rfl, rfl⟩
          go_wp2_with fail
          refine (done_any _ _ _ _ hR6).mono ?_
          rintro e w7 ⟨rfl, rfl⟩
          rw [HDD.out]
          go_wp2_with fail
          refine (qdone _ _ _ _ hQ6').mono ?_
          rintro e w7 ⟨rfl, rfl⟩
          rw [HDD.out]
          clear h HDD hts hs4 hs5 hbig q4 g5 g6 hq hT
          go_wp2_with fail
          go_roundw
          case rel => exact ⟨j + 1, ⟨#[]⟩, true, by omega, by go_num, ⟨hR6, hQ6', (fun _ => rfl), by decide⟩, q6⟩
          case measure => simp [RowKit.intOf]; omega
        | some o =>
          obtain ⟨x, r⟩ := o
          have hrl := rest_len int_codec ho hT.out.2.2.2
          have HO := Lib.hid ho
          clear ho
          go_wp2_with fail
          refine (kind_eq _ _ h _ _ _ _ _).mono ?_
          rintro e w4 ⟨rfl, b4⟩
          have hT4 := hT.out.below ⟨b4.os, b4.tape, b4.output, b4.size, b4.block⟩
          have q4 := blw hq ⟨b4.os, b4.tape, b4.output, b4.size, b4.block⟩
          have hs4 := q4.size
          have hts := hT4.2.2.2
          clear b4 hcell
          go_wp2_with fail
          refine (int_yes hT4.1 hT4.2.2.1 (by omega) HO.out).mono ?_
          rintro e w5 ⟨rfl, hR5, g5⟩
          have hQ5 : Rq w5 bq t f := Rq.grown hT4.2.1 g5 (by simp; omega)
          have hs5 := g5.size
          go_wp2_with fail
          refine (qint_yes hQ5 hT4.2.2.1 (by omega) HO.out).mono ?_
          rintro e w6 ⟨rfl, hQ6, g6⟩
          have hR6 : Rd w6 br ⟨r.toArray⟩ false := Rd.grown hR5 g6 (by simp; omega)
          have hQ6' : Rq w6 bq ⟨r.toArray⟩ false := hQ6
          have q6 := (q4.trans (below_of_only g5 ⟨hbr, hs4⟩)).trans (below_of_only g6 ⟨hbq, by omega⟩)
          clear hT4 hQ5 hQ6 hR5 HO
          obtain ⟨dd, hdd⟩ : ∃ dd : Bool, (!false && (ByteArray.data ⟨r.toArray⟩).toList.isEmpty) = dd := ⟨_, rfl⟩
          have HDD := Lib.hid hdd
          clear hdd
          go_wp2_with fail
          refine (left_any _ _ _ _ hR6).mono ?_
          rintro e w7 ⟨rfl, rfl⟩
          go_wp2_with fail
          refine (qleft _ _ _ _ hQ6').mono ?_
          rintro e w7 ⟨rfl, rfl⟩
          go_wp2_with fail
          refine (done_any _ _ _ _ hR6).mono ?_
          rintro e w7 ⟨rfl, rfl⟩
          rw [HDD.out]
          go_wp2_with fail
          refine (qdone _ _ _ _ hQ6').mono ?_
          rintro e w7 ⟨rfl, rfl⟩
          rw [HDD.out]
          clear h HDD hts hs4 hs5 hbig q4 g5 g6 hq hT
          go_wp2_with fail
          go_roundw
          case rel => exact ⟨j + 1, ⟨r.toArray⟩, false, by omega, by go_num, ⟨hR6, hQ6', (fun h => by cases h), hrl⟩, q6⟩
          case measure => simp [RowKit.intOf]; omega
      · cases ho : textP t.data.toList with
        | none =>
          have HO := Lib.hid ho
          clear ho
          go_wp2_with fail
          refine (kind_eq _ _ h _ _ _ _ _).mono ?_
          rintro e w4 ⟨rfl, b4⟩
          have hT4 := hT.out.below ⟨b4.os, b4.tape, b4.output, b4.size, b4.block⟩
          have q4 := blw hq ⟨b4.os, b4.tape, b4.output, b4.size, b4.block⟩
          have hs4 := q4.size
          have hts := hT4.2.2.2
          clear b4 hcell
          go_wp2_with fail
          refine (text_no hT4.1 hT4.2.2.1 (by omega) HO.out).mono ?_
          rintro e w5 ⟨rfl, hR5, g5⟩
          have hQ5 : Rq w5 bq t f := Rq.grown hT4.2.1 g5 (by simp; omega)
          have hs5 := g5.size
          go_wp2_with fail
          refine (qtext_no hQ5 hT4.2.2.1 (by omega) HO.out).mono ?_
          rintro e w6 ⟨rfl, hQ6, g6⟩
          have hR6 : Rd w6 br ⟨#[]⟩ true := Rd.grown hR5 g6 (by simp; omega)
          have hQ6' : Rq w6 bq ⟨#[]⟩ true := hQ6
          have q6 := (q4.trans (below_of_only g5 ⟨hbr, hs4⟩)).trans (below_of_only g6 ⟨hbq, by omega⟩)
          clear hT4 hQ5 hQ6 hR5 HO
          obtain ⟨dd, hdd⟩ : ∃ dd : Bool, (!true && (ByteArray.data ⟨#[]⟩).toList.isEmpty) = dd := ⟨_, rfl⟩
          have HDD := Lib.hid hdd
          clear hdd
          go_wp2_with fail
          refine (left_any _ _ _ _ hR6).mono ?_
          rintro e w7 ⟨rfl, rfl⟩
          go_wp2_with fail
          refine (qleft _ _ _ _ hQ6').mono ?_
          rintro e w7 ⟨rfl, rfl⟩
          go_wp2_with fail
          refine (done_any _ _ _ _ hR6).mono ?_
          rintro e w7 ⟨rfl, rfl⟩
          rw [HDD.out]
          go_wp2_with fail
          refine (qdone _ _ _ _ hQ6').mono ?_
          rintro e w7 ⟨rfl, rfl⟩
          rw [HDD.out]
          clear h HDD hts hs4 hs5 hbig q4 g5 g6 hq hT
          go_wp2_with fail
          go_roundw
          case rel => exact ⟨j + 1, ⟨#[]⟩, true, by omega, by go_num, ⟨hR6, hQ6', (fun _ => rfl), by decide⟩, q6⟩
          case measure => simp [RowKit.intOf]; omega
        | some o =>
          obtain ⟨x, r⟩ := o
          have hrl := rest_len text_codec ho hT.out.2.2.2
          have HO := Lib.hid ho
          clear ho
          go_wp2_with fail
          refine (kind_eq _ _ h _ _ _ _ _).mono ?_
          rintro e w4 ⟨rfl, b4⟩
          have hT4 := hT.out.below ⟨b4.os, b4.tape, b4.output, b4.size, b4.block⟩
          have q4 := blw hq ⟨b4.os, b4.tape, b4.output, b4.size, b4.block⟩
          have hs4 := q4.size
          have hts := hT4.2.2.2
          clear b4 hcell
          go_wp2_with fail
          refine (text_yes hT4.1 hT4.2.2.1 (by omega) HO.out).mono ?_
          rintro e w5 ⟨rfl, hR5, g5⟩
          have hQ5 : Rq w5 bq t f := Rq.grown hT4.2.1 g5 (by simp; omega)
          have hs5 := g5.size
          go_wp2_with fail
          refine (qtext_yes hQ5 hT4.2.2.1 (by omega) HO.out).mono ?_
          rintro e w6 ⟨rfl, hQ6, g6⟩
          have hR6 : Rd w6 br ⟨r.toArray⟩ false := Rd.grown hR5 g6 (by simp; omega)
          have hQ6' : Rq w6 bq ⟨r.toArray⟩ false := hQ6
          have q6 := (q4.trans (below_of_only g5 ⟨hbr, hs4⟩)).trans (below_of_only g6 ⟨hbq, by omega⟩)
          clear hT4 hQ5 hQ6 hR5 HO
          obtain ⟨dd, hdd⟩ : ∃ dd : Bool, (!false && (ByteArray.data ⟨r.toArray⟩).toList.isEmpty) = dd := ⟨_, rfl⟩
          have HDD := Lib.hid hdd
          clear hdd
          go_wp2_with fail
          refine (left_any _ _ _ _ hR6).mono ?_
          rintro e w7 ⟨rfl, rfl⟩
          go_wp2_with fail
          refine (qleft _ _ _ _ hQ6').mono ?_
          rintro e w7 ⟨rfl, rfl⟩
          go_wp2_with fail
          refine (done_any _ _ _ _ hR6).mono ?_
          rintro e w7 ⟨rfl, rfl⟩
          rw [HDD.out]
          go_wp2_with fail
          refine (qdone _ _ _ _ hQ6').mono ?_
          rintro e w7 ⟨rfl, rfl⟩
          rw [HDD.out]
          clear h HDD hts hs4 hs5 hbig q4 g5 g6 hq hT
          go_wp2_with fail
          go_roundw
          case rel => exact ⟨j + 1, ⟨r.toArray⟩, false, by omega, by go_num, ⟨hR6, hQ6', (fun h => by cases h), hrl⟩, q6⟩
          case measure => simp [RowKit.intOf]; omega
      · cases ho : listP intP t.data.toList with
        | none =>
          have HO := Lib.hid ho
          clear ho
          go_wp2_with fail
          refine (kind_eq _ _ h _ _ _ _ _).mono ?_
          rintro e w4 ⟨rfl, b4⟩
          have hT4 := hT.out.below ⟨b4.os, b4.tape, b4.output, b4.size, b4.block⟩
          have q4 := blw hq ⟨b4.os, b4.tape, b4.output, b4.size, b4.block⟩
          have hs4 := q4.size
          have hts := hT4.2.2.2
          clear b4 hcell
          go_wp2_with fail
          refine (nums_rd_no hT4.1 hT4.2.2.1 (by omega) HO.out).mono ?_
          rintro e w5 ⟨rfl, hR5, g5⟩
          have hQ5 : Rq w5 bq t f := Rq.grown hT4.2.1 g5 (by simp; omega)
          have hs5 := g5.size
          go_wp2_with fail
          refine (qnums_no hQ5 hT4.2.2.1 (by omega) HO.out).mono ?_
          rintro e w6 ⟨rfl, hQ6, g6⟩
          have hR6 : Rd w6 br ⟨#[]⟩ true := Rd.grown hR5 g6 (by simp; omega)
          have hQ6' : Rq w6 bq ⟨#[]⟩ true := hQ6
          have q6 := (q4.trans (below_of_only g5 ⟨hbr, hs4⟩)).trans (below_of_only g6 ⟨hbq, by omega⟩)
          clear hT4 hQ5 hQ6 hR5 HO
          go_wp2_with fail
          refine (sameNums_yes none none 0 0 0 0 [] _ (by omega) Reads.none_ Reads.none_).mono ?_
          rintro e w6 ⟨rfl, d, rfl⟩
          have hR6 := hR6.drewN d
          have hQ6' := hQ6'.drewN d
          have q6 := below_drewN q6 d
          obtain ⟨dd, hdd⟩ : ∃ dd : Bool, (!true && (ByteArray.data ⟨#[]⟩).toList.isEmpty) = dd := ⟨_, rfl⟩
          have HDD := Lib.hid hdd
          clear hdd
          go_wp2_with fail
          refine (left_any _ _ _ _ hR6).mono ?_
          rintro e w7 ⟨rfl, rfl⟩
          go_wp2_with fail
          refine (qleft _ _ _ _ hQ6').mono ?_
          rintro e w7 ⟨rfl, rfl⟩
          go_wp2_with fail
          refine (done_any _ _ _ _ hR6).mono ?_
          rintro e w7 ⟨rfl, rfl⟩
          rw [HDD.out]
          go_wp2_with fail
          refine (qdone _ _ _ _ hQ6').mono ?_
          rintro e w7 ⟨rfl, rfl⟩
          rw [HDD.out]
          clear h HDD hts hs4 hs5 hbig q4 g5 g6 hq hT
          go_wp2_with fail
          go_roundw
          case rel => exact ⟨j + 1, ⟨#[]⟩, true, by omega, by go_num, ⟨hR6, hQ6', (fun _ => rfl), by decide⟩, q6⟩
          case measure => simp [RowKit.intOf]; omega
        | some o =>
          obtain ⟨x, r⟩ := o
          have hrl := rest_len (list_codec int_codec) ho hT.out.2.2.2
          have HO := Lib.hid ho
          clear ho
          go_wp2_with fail
          refine (kind_eq _ _ h _ _ _ _ _).mono ?_
          rintro e w4 ⟨rfl, b4⟩
          have hT4 := hT.out.below ⟨b4.os, b4.tape, b4.output, b4.size, b4.block⟩
          have q4 := blw hq ⟨b4.os, b4.tape, b4.output, b4.size, b4.block⟩
          have hs4 := q4.size
          have hts := hT4.2.2.2
          clear b4 hcell
          go_wp2_with fail
          refine (nums_own hT4.1 hT4.2.2.1 (by omega) HO.out).mono ?_
          rintro e w5 ⟨A1, c1, rfl, o5, hR5, g5⟩
          have hQ5 : Rq w5 bq t f := Rq.grown hT4.2.1 g5 (by simp; omega)
          have hs5 := g5.size
          go_wp2_with fail
          refine (qnums_own hQ5 hT4.2.2.1 (by omega) HO.out).mono ?_
          rintro e w6 ⟨A2, c2, rfl, o6, hQ6, g6⟩
          have hR6 : Rd w6 br ⟨r.toArray⟩ false := Rd.grown hR5 g6 (by simp; omega)
          have hQ6' : Rq w6 bq ⟨r.toArray⟩ false := hQ6
          have q6 := (q4.trans (below_of_only g5 ⟨hbr, hs4⟩)).trans (below_of_only g6 ⟨hbq, by omega⟩)
          have o5' := o5.kept g6 (.inr (own_far o5 (Blk.lt hT4.2.1)))
          have r1 := Reads.of_own o5'
          have r2 := Reads.of_own o6
          have hxl : x.length ≤ 9223372036854775807 := (((list_codec int_codec _ _ _).1 HO.out).1).1
          clear o5 o5' o6 hT4 hQ5 hQ6 hR5 HO
          go_wp2_with fail
          refine (sameNums_yes A1 A2 c1 c2 _ _ x _ hxl r1 r2).mono ?_
          rintro e w6 ⟨rfl, d, rfl⟩
          have hR6 := hR6.drewN d
          have hQ6' := hQ6'.drewN d
          have q6 := below_drewN q6 d
          obtain ⟨dd, hdd⟩ : ∃ dd : Bool, (!false && (ByteArray.data ⟨r.toArray⟩).toList.isEmpty) = dd := ⟨_, rfl⟩
          have HDD := Lib.hid hdd
          clear hdd
          go_wp2_with fail
          refine (left_any _ _ _ _ hR6).mono ?_
          rintro e w7 ⟨rfl, rfl⟩
          go_wp2_with fail
          refine (qleft _ _ _ _ hQ6').mono ?_
          rintro e w7 ⟨rfl, rfl⟩
          go_wp2_with fail
          refine (done_any _ _ _ _ hR6).mono ?_
          rintro e w7 ⟨rfl, rfl⟩
          rw [HDD.out]
          go_wp2_with fail
          refine (qdone _ _ _ _ hQ6').mono ?_
          rintro e w7 ⟨rfl, rfl⟩
          rw [HDD.out]
          clear h HDD hts hs4 hs5 hbig q4 g5 g6 hq hT
          go_wp2_with fail
          go_roundw
          case rel => exact ⟨j + 1, ⟨r.toArray⟩, false, by omega, by go_num, ⟨hR6, hQ6', (fun h => by cases h), hrl⟩, q6⟩
          case measure => simp [RowKit.intOf]; omega
      · cases ho : listP textP t.data.toList with
        | none =>
          have HO := Lib.hid ho
          clear ho
          go_wp2_with fail
          refine (kind_eq _ _ h _ _ _ _ _).mono ?_
          rintro e w4 ⟨rfl, b4⟩
          have hT4 := hT.out.below ⟨b4.os, b4.tape, b4.output, b4.size, b4.block⟩
          have q4 := blw hq ⟨b4.os, b4.tape, b4.output, b4.size, b4.block⟩
          have hs4 := q4.size
          have hts := hT4.2.2.2
          clear b4 hcell
          go_wp2_with fail
          refine (texts_rd_no hT4.1 hT4.2.2.1 (by omega) HO.out).mono ?_
          rintro e w5 ⟨rfl, hR5, g5⟩
          have hQ5 : Rq w5 bq t f := Rq.grown hT4.2.1 g5 (by simp; omega)
          have hs5 := g5.size
          go_wp2_with fail
          refine (qtexts_no hQ5 hT4.2.2.1 (by omega) HO.out).mono ?_
          rintro e w6 ⟨rfl, hQ6, g6⟩
          have hR6 : Rd w6 br ⟨#[]⟩ true := Rd.grown hR5 g6 (by simp; omega)
          have hQ6' : Rq w6 bq ⟨#[]⟩ true := hQ6
          have q6 := (q4.trans (below_of_only g5 ⟨hbr, hs4⟩)).trans (below_of_only g6 ⟨hbq, by omega⟩)
          clear hT4 hQ5 hQ6 hR5 HO
          go_wp2_with fail
          refine (sameTexts_yes none none 0 0 0 0 [] _ (by omega) Reads.none_ Reads.none_).mono ?_
          rintro e w6 ⟨rfl, d, rfl⟩
          have hR6 := hR6.drewN d
          have hQ6' := hQ6'.drewN d
          have q6 := below_drewN q6 d
          obtain ⟨dd, hdd⟩ : ∃ dd : Bool, (!true && (ByteArray.data ⟨#[]⟩).toList.isEmpty) = dd := ⟨_, rfl⟩
          have HDD := Lib.hid hdd
          clear hdd
          go_wp2_with fail
          refine (left_any _ _ _ _ hR6).mono ?_
          rintro e w7 ⟨rfl, rfl⟩
          go_wp2_with fail
          refine (qleft _ _ _ _ hQ6').mono ?_
          rintro e w7 ⟨rfl, rfl⟩
          go_wp2_with fail
          refine (done_any _ _ _ _ hR6).mono ?_
          rintro e w7 ⟨rfl, rfl⟩
          rw [HDD.out]
          go_wp2_with fail
          refine (qdone _ _ _ _ hQ6').mono ?_
          rintro e w7 ⟨rfl, rfl⟩
          rw [HDD.out]
          clear h HDD hts hs4 hs5 hbig q4 g5 g6 hq hT
          go_wp2_with fail
          go_roundw
          case rel => exact ⟨j + 1, ⟨#[]⟩, true, by omega, by go_num, ⟨hR6, hQ6', (fun _ => rfl), by decide⟩, q6⟩
          case measure => simp [RowKit.intOf]; omega
        | some o =>
          obtain ⟨x, r⟩ := o
          have hrl := rest_len (list_codec text_codec) ho hT.out.2.2.2
          have HO := Lib.hid ho
          clear ho
          go_wp2_with fail
          refine (kind_eq _ _ h _ _ _ _ _).mono ?_
          rintro e w4 ⟨rfl, b4⟩
          have hT4 := hT.out.below ⟨b4.os, b4.tape, b4.output, b4.size, b4.block⟩
          have q4 := blw hq ⟨b4.os, b4.tape, b4.output, b4.size, b4.block⟩
          have hs4 := q4.size
          have hts := hT4.2.2.2
          clear b4 hcell
          go_wp2_with fail
          refine (texts_own hT4.1 hT4.2.2.1 (by omega) HO.out).mono ?_
          rintro e w5 ⟨A1, c1, rfl, o5, hR5, g5⟩
          have hQ5 : Rq w5 bq t f := Rq.grown hT4.2.1 g5 (by simp; omega)
          have hs5 := g5.size
          go_wp2_with fail
          refine (qtexts_own hQ5 hT4.2.2.1 (by omega) HO.out).mono ?_
          rintro e w6 ⟨A2, c2, rfl, o6, hQ6, g6⟩
          have hR6 : Rd w6 br ⟨r.toArray⟩ false := Rd.grown hR5 g6 (by simp; omega)
          have hQ6' : Rq w6 bq ⟨r.toArray⟩ false := hQ6
          have q6 := (q4.trans (below_of_only g5 ⟨hbr, hs4⟩)).trans (below_of_only g6 ⟨hbq, by omega⟩)
          have o5' := o5.kept g6 (.inr (own_far o5 (Blk.lt hT4.2.1)))
          have r1 := Reads.of_own o5'
          have r2 := Reads.of_own o6
          have hxl : x.length ≤ 9223372036854775807 := (((list_codec text_codec _ _ _).1 HO.out).1).1
          rw [strV_map] at r1 r2
          clear o5 o5' o6 hT4 hQ5 hQ6 hR5 HO
          go_wp2_with fail
          refine (sameTexts_yes A1 A2 c1 c2 _ _ (x.map fun l : List UInt8 => (⟨l.toArray⟩ : ByteArray)) _ hxl r1 r2).mono ?_
          rintro e w6 ⟨rfl, d, rfl⟩
          have hR6 := hR6.drewN d
          have hQ6' := hQ6'.drewN d
          have q6 := below_drewN q6 d
          obtain ⟨dd, hdd⟩ : ∃ dd : Bool, (!false && (ByteArray.data ⟨r.toArray⟩).toList.isEmpty) = dd := ⟨_, rfl⟩
          have HDD := Lib.hid hdd
          clear hdd
          go_wp2_with fail
          refine (left_any _ _ _ _ hR6).mono ?_
          rintro e w7 ⟨rfl, rfl⟩
          go_wp2_with fail
          refine (qleft _ _ _ _ hQ6').mono ?_
          rintro e w7 ⟨rfl, rfl⟩
          go_wp2_with fail
          refine (done_any _ _ _ _ hR6).mono ?_
          rintro e w7 ⟨rfl, rfl⟩
          rw [HDD.out]
          go_wp2_with fail
          refine (qdone _ _ _ _ hQ6').mono ?_
          rintro e w7 ⟨rfl, rfl⟩
          rw [HDD.out]
          clear h HDD hts hs4 hs5 hbig q4 g5 g6 hq hT
          go_wp2_with fail
          go_roundw
          case rel => exact ⟨j + 1, ⟨r.toArray⟩, false, by omega, by go_num, ⟨hR6, hQ6', (fun h => by cases h), hrl⟩, q6⟩
          case measure => simp [RowKit.intOf]; omega
    · have hRe := hT.out.1
      have hQe := hT.out.2.1
      go_wp2_with fail
      refine (rest_any _ _ _ _ hRe).mono ?_
      rintro e w5 ⟨rfl, hR5, g5⟩
      have hQ5 : Rq w5 bq t f := Rq.grown hQe g5 (by simp; omega)
      have hs5 := g5.size
      have hbig := hq.size
      go_wp2_with fail
      refine (qtail _ _ _ _ hQ5).mono ?_
      rintro e w6 ⟨rfl, hQ6, g6⟩
      have hR6 : Rd w6 br ⟨#[]⟩ f := Rd.grown hR5 g6 (by simp; omega)
      have q6 := (hq.trans (below_of_only g5 ⟨hbr, hbig⟩)).trans (below_of_only g6 ⟨hbq, by omega⟩)
      go_wp2_with fail
      refine (left_any _ _ _ _ hR6).mono ?_
      rintro e w7 ⟨rfl, rfl⟩
      go_wp2_with fail
      refine (qleft _ _ _ _ hQ6).mono ?_
      rintro e w7 ⟨rfl, rfl⟩
      go_wp2_with fail
      refine (done_any _ _ _ _ hR6).mono ?_
      rintro e w7 ⟨rfl, rfl⟩
      go_wp2_with fail
      refine (qdone _ _ _ _ hQ6).mono ?_
      rintro e w7 ⟨rfl, rfl⟩
      go_wp2
      go_ret
      exact ⟨ret_bool (by simp), q6⟩

theorem reads_walk (s : ByteArray) (A : Option Addr) (cs : List Int) (c : Nat) (w : World) (ht : Tab w) (hr : Reads w w.heap.size 1 A cs.length (cs.map (Value.int .i64))) (hm : s.size ≤ 9223372036854775807) (hn : cs.length ≤ 9223372036854775807) :
    Calls Tryd.prog 4 #[.string s, .slice A cs.length c] w fun e w' => e = .returned (.bool true) ∧ Below w.heap.size w w' := by
  by_cases h : 400 < s.size ∨ 20 < cs.length
  · exact reads_no s A cs c w ht hm hn h
  · exact reads_yes s A cs c w ht hr (by omega) (by omega)

end Go.Proofs.YtkkaancpokahcaaDoor
