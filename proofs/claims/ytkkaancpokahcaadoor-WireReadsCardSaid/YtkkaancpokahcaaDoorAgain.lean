/- The statement WireAgain: what a reader reads at the beginning of a string is exactly the encoding of the value that it returns. Conditions: none of its own; the table of strconv holds what its text lays, which the card ties. -/
import Derived.Test.YtkkaancpokahcaaDoorLaw0
namespace Go.Proofs.YtkkaancpokahcaaDoor
open Go.RowKit Go.Lib

theorem ret_bool {a b : Bool} (h : a = b) : Ending.returned (.bool a) = .returned (.bool b) := by rw [h]
theorem nil_enc {α : Type} (f : α → List UInt8) : wList f [] = [48, 91, 93] := by simp [wList, decDigits]
theorem again_eq {s t u : ByteArray} (h : s.data.toList = t.data.toList ++ u.data.toList) : (t.toList == (s.extract 0 (max 0 (min ((s.size : Int) - (u.size : Int)) (s.size : Int))).toNat).toList) = true := by
  have h1 : s.size = t.size + u.size := by rw [Lib.size_eq, Lib.size_eq, Lib.size_eq, h, List.length_append]
  have h2 : (max 0 (min ((s.size : Int) - (u.size : Int)) (s.size : Int))).toNat = t.size := by omega
  rw [h2, Lib.toList_data, Lib.toList_data, Lib.extract_from_zero, h, Lib.size_eq t, List.take_left]
  simp

set_option maxHeartbeats 1000000 in
theorem again_0 (s : ByteArray) (k : Int) (w : World) (ht : Tab w) (hs : s.size ≤ 400) (hq : k % 5 = 0) :
    Calls Tryd.prog 6 #[.string s, .int .i64 k] w fun e w' => e = .returned (.bool true) ∧ Below w.heap.size w w' := by
  have HQ := Lib.hid hq
  clear hq
  cases ho : numP s.data.toList with
  | none =>
    have HO := Lib.hid ho
    clear ho
    go_enter Tryd.func6, Tryd.ntmps6
    go_wp2_with fail
    refine (small_any _ ht).mono ?_
    rintro e w1 ⟨rfl, q1⟩
    go_wp2_with fail
    refine (open_any _ _).mono ?_
    rintro e w2 ⟨rfl, hR, b2⟩
    have q2 := blw q1 b2
    go_wp2_with fail
    refine (kind_eq _ _ HQ.out _ _ _ _ _).mono ?_
    rintro e w3 ⟨rfl, b3⟩
    have q3 := blw q2 b3
    have hR3 : Rd w3 w1.heap.size s false := Blk.below hR b3 (Blk.lt hR)
    go_wp2_with fail
    refine (num_no hR3 (fun h => by cases h) (by omega) HO.out).mono ?_
    rintro e w4 ⟨rfl, hR4, g4⟩
    have q4 := q3.trans (below_of_only g4 (by have := q1.size; have := q3.size; omega))
    have ht4 := ht.on q4
    go_wp2_with fail
    refine (wNum_any 0 (by omega) (by omega) _ ht4).mono ?_
    rintro e w5 ⟨rfl, b5⟩
    have q5 := blw q4 b5
    have hR5 : Rd w5 w1.heap.size ⟨#[]⟩ true := Blk.below hR4 b5 (Blk.lt hR4)
    go_wp2_with fail
    refine (left_any _ _ _ _ hR5).mono ?_
    rintro e w6 ⟨rfl, rfl⟩
    go_wp2_with fail
    refine (done_any _ _ _ _ hR5).mono ?_
    rintro e w6 ⟨rfl, rfl⟩
    go_wp2
    go_ret
    exact ⟨rfl, q5⟩
  | some o =>
    obtain ⟨x, r⟩ := o
    have hl0 := (num_codec _ _ _).1 ho
    have HL := Lib.hid hl0
    have HO := Lib.hid ho
    clear ho hl0
    go_enter Tryd.func6, Tryd.ntmps6
    go_wp2_with fail
    refine (small_any _ ht).mono ?_
    rintro e w1 ⟨rfl, q1⟩
    go_wp2_with fail
    refine (open_any _ _).mono ?_
    rintro e w2 ⟨rfl, hR, b2⟩
    have q2 := blw q1 b2
    go_wp2_with fail
    refine (kind_eq _ _ HQ.out _ _ _ _ _).mono ?_
    rintro e w3 ⟨rfl, b3⟩
    have q3 := blw q2 b3
    have hR3 : Rd w3 w1.heap.size s false := Blk.below hR b3 (Blk.lt hR)
    go_wp2_with fail
    refine (num_yes hR3 (fun h => by cases h) (by omega) HO.out).mono ?_
    rintro e w4 ⟨rfl, hR4, g4⟩
    have q4 := q3.trans (below_of_only g4 (by have := q1.size; have := q3.size; omega))
    have ht4 := ht.on q4
    go_wp2_with fail
    refine (wNum_any x (by omega) (by have := HL.out.1; omega) _ ht4).mono ?_
    rintro e w5 ⟨rfl, b5⟩
    have q5 := blw q4 b5
    rw [if_neg (by omega)]
    obtain ⟨t, htt⟩ : ∃ t : ByteArray, t = ⟨(wInt x).toArray⟩ := ⟨_, rfl⟩
    rw [← htt]
    obtain ⟨u, hu, hR5⟩ := RdL.ex (Blk.below hR4 b5 (Blk.lt hR4) : Rd w5 w1.heap.size ⟨r.toArray⟩ false)
    have hsum : s.data.toList = t.data.toList ++ u.data.toList := by rw [htt, hu]; exact HL.out.2
    have hu1 : u.size ≤ s.size := by rw [Lib.size_eq, Lib.size_eq, hsum, List.length_append]; omega
    have HS := Lib.hid hsum
    clear hsum htt hu hR4
    go_wp2_with fail
    refine (left_any _ _ _ _ hR5).mono ?_
    rintro e w6 ⟨rfl, rfl⟩
    by_cases hz : u.size = 0
    · have hz' : ((u.size : Int) == 0) = true := by simp [hz]
      have HE := Lib.hid (show u.data.toList.isEmpty = true by rw [List.isEmpty_iff_length_eq_zero, ← Lib.size_eq]; exact hz)
      clear hz
      go_wp2_with fail
      refine (done_any _ _ _ _ hR5).mono ?_
      rintro e w6 ⟨rfl, rfl⟩
      rw [HE.out]
      go_wp2_with fail
      refine (left_any _ _ _ _ hR5).mono ?_
      rintro e w6 ⟨rfl, rfl⟩
      go_wp2_with fail
      go_ret
      exact ⟨ret_bool (again_eq HS.out), q5⟩
    · have hz' : ((u.size : Int) == 0) = false := by simp [hz]
      clear hz
      go_wp2_with fail
      refine (left_any _ _ _ _ hR5).mono ?_
      rintro e w6 ⟨rfl, rfl⟩
      go_wp2_with fail
      go_ret
      exact ⟨ret_bool (again_eq HS.out), q5⟩

set_option maxHeartbeats 1000000 in
theorem again_1 (s : ByteArray) (k : Int) (w : World) (ht : Tab w) (hs : s.size ≤ 400) (hq : k % 5 = 1) :
    Calls Tryd.prog 6 #[.string s, .int .i64 k] w fun e w' => e = .returned (.bool true) ∧ Below w.heap.size w w' := by
  have HQ := Lib.hid hq
  clear hq
  cases ho : intP s.data.toList with
  | none =>
    have HO := Lib.hid ho
    clear ho
    go_enter Tryd.func6, Tryd.ntmps6
    go_wp2_with fail
    refine (small_any _ ht).mono ?_
    rintro e w1 ⟨rfl, q1⟩
    go_wp2_with fail
    refine (open_any _ _).mono ?_
    rintro e w2 ⟨rfl, hR, b2⟩
    have q2 := blw q1 b2
    go_wp2_with fail
    refine (kind_eq _ _ HQ.out _ _ _ _ _).mono ?_
    rintro e w3 ⟨rfl, b3⟩
    have q3 := blw q2 b3
    have hR3 : Rd w3 w1.heap.size s false := Blk.below hR b3 (Blk.lt hR)
    go_wp2_with fail
    refine (int_no hR3 (fun h => by cases h) (by omega) HO.out).mono ?_
    rintro e w4 ⟨rfl, hR4, g4⟩
    have q4 := q3.trans (below_of_only g4 (by have := q1.size; have := q3.size; omega))
    have ht4 := ht.on q4
    go_wp2_with fail
    refine (wInt_any 0 (by omega) (by omega) _ ht4).mono ?_
    rintro e w5 ⟨rfl, b5⟩
    have q5 := blw q4 b5
    have hR5 : Rd w5 w1.heap.size ⟨#[]⟩ true := Blk.below hR4 b5 (Blk.lt hR4)
    go_wp2_with fail
    refine (left_any _ _ _ _ hR5).mono ?_
    rintro e w6 ⟨rfl, rfl⟩
    go_wp2_with fail
    refine (done_any _ _ _ _ hR5).mono ?_
    rintro e w6 ⟨rfl, rfl⟩
    go_wp2
    go_ret
    exact ⟨rfl, q5⟩
  | some o =>
    obtain ⟨x, r⟩ := o
    have hl0 := (int_codec _ _ _).1 ho
    have HL := Lib.hid hl0
    have HO := Lib.hid ho
    clear ho hl0
    go_enter Tryd.func6, Tryd.ntmps6
    go_wp2_with fail
    refine (small_any _ ht).mono ?_
    rintro e w1 ⟨rfl, q1⟩
    go_wp2_with fail
    refine (open_any _ _).mono ?_
    rintro e w2 ⟨rfl, hR, b2⟩
    have q2 := blw q1 b2
    go_wp2_with fail
    refine (kind_eq _ _ HQ.out _ _ _ _ _).mono ?_
    rintro e w3 ⟨rfl, b3⟩
    have q3 := blw q2 b3
    have hR3 : Rd w3 w1.heap.size s false := Blk.below hR b3 (Blk.lt hR)
    go_wp2_with fail
    refine (int_yes hR3 (fun h => by cases h) (by omega) HO.out).mono ?_
    rintro e w4 ⟨rfl, hR4, g4⟩
    have q4 := q3.trans (below_of_only g4 (by have := q1.size; have := q3.size; omega))
    have ht4 := ht.on q4
    go_wp2_with fail
    refine (wInt_any x HL.out.1.1 HL.out.1.2 _ ht4).mono ?_
    rintro e w5 ⟨rfl, b5⟩
    have q5 := blw q4 b5
    obtain ⟨t, htt⟩ : ∃ t : ByteArray, t = ⟨(wInt x).toArray⟩ := ⟨_, rfl⟩
    rw [← htt]
    obtain ⟨u, hu, hR5⟩ := RdL.ex (Blk.below hR4 b5 (Blk.lt hR4) : Rd w5 w1.heap.size ⟨r.toArray⟩ false)
    have hsum : s.data.toList = t.data.toList ++ u.data.toList := by rw [htt, hu]; exact HL.out.2
    have hu1 : u.size ≤ s.size := by rw [Lib.size_eq, Lib.size_eq, hsum, List.length_append]; omega
    have HS := Lib.hid hsum
    clear hsum htt hu hR4
    go_wp2_with fail
    refine (left_any _ _ _ _ hR5).mono ?_
    rintro e w6 ⟨rfl, rfl⟩
    by_cases hz : u.size = 0
    · have hz' : ((u.size : Int) == 0) = true := by simp [hz]
      have HE := Lib.hid (show u.data.toList.isEmpty = true by rw [List.isEmpty_iff_length_eq_zero, ← Lib.size_eq]; exact hz)
      clear hz
      go_wp2_with fail
      refine (done_any _ _ _ _ hR5).mono ?_
      rintro e w6 ⟨rfl, rfl⟩
      rw [HE.out]
      go_wp2_with fail
      refine (left_any _ _ _ _ hR5).mono ?_
      rintro e w6 ⟨rfl, rfl⟩
      go_wp2_with fail
      go_ret
      exact ⟨ret_bool (again_eq HS.out), q5⟩
    · have hz' : ((u.size : Int) == 0) = false := by simp [hz]
      clear hz
      go_wp2_with fail
      refine (left_any _ _ _ _ hR5).mono ?_
      rintro e w6 ⟨rfl, rfl⟩
      go_wp2_with fail
      go_ret
      exact ⟨ret_bool (again_eq HS.out), q5⟩

set_option maxHeartbeats 1000000 in
theorem again_2 (s : ByteArray) (k : Int) (w : World) (ht : Tab w) (hs : s.size ≤ 400) (hq : k % 5 = 2) :
    Calls Tryd.prog 6 #[.string s, .int .i64 k] w fun e w' => e = .returned (.bool true) ∧ Below w.heap.size w w' := by
  have HQ := Lib.hid hq
  clear hq
  cases ho : textP s.data.toList with
  | none =>
    have HO := Lib.hid ho
    clear ho
    go_enter Tryd.func6, Tryd.ntmps6
    go_wp2_with fail
    refine (small_any _ ht).mono ?_
    rintro e w1 ⟨rfl, q1⟩
    go_wp2_with fail
    refine (open_any _ _).mono ?_
    rintro e w2 ⟨rfl, hR, b2⟩
    have q2 := blw q1 b2
    go_wp2_with fail
    refine (kind_eq _ _ HQ.out _ _ _ _ _).mono ?_
    rintro e w3 ⟨rfl, b3⟩
    have q3 := blw q2 b3
    have hR3 : Rd w3 w1.heap.size s false := Blk.below hR b3 (Blk.lt hR)
    go_wp2_with fail
    refine (text_no hR3 (fun h => by cases h) (by omega) HO.out).mono ?_
    rintro e w4 ⟨rfl, hR4, g4⟩
    have q4 := q3.trans (below_of_only g4 (by have := q1.size; have := q3.size; omega))
    have ht4 := ht.on q4
    go_wp2_with fail
    refine (wText_any ⟨#[]⟩ (by decide) _ ht4).mono ?_
    rintro e w5 ⟨rfl, b5⟩
    have q5 := blw q4 b5
    have hR5 : Rd w5 w1.heap.size ⟨#[]⟩ true := Blk.below hR4 b5 (Blk.lt hR4)
    go_wp2_with fail
    refine (left_any _ _ _ _ hR5).mono ?_
    rintro e w6 ⟨rfl, rfl⟩
    go_wp2_with fail
    refine (done_any _ _ _ _ hR5).mono ?_
    rintro e w6 ⟨rfl, rfl⟩
    go_wp2
    go_ret
    exact ⟨rfl, q5⟩
  | some o =>
    obtain ⟨x, r⟩ := o
    have hl0 := (text_codec _ _ _).1 ho
    have hxl : x.length ≤ 400 := by
      have h := congrArg List.length hl0.2
      rw [len_eq] at h
      unfold wText at h
      simp at h
      omega
    have HL := Lib.hid hl0
    have HO := Lib.hid ho
    clear ho hl0
    go_enter Tryd.func6, Tryd.ntmps6
    go_wp2_with fail
    refine (small_any _ ht).mono ?_
    rintro e w1 ⟨rfl, q1⟩
    go_wp2_with fail
    refine (open_any _ _).mono ?_
    rintro e w2 ⟨rfl, hR, b2⟩
    have q2 := blw q1 b2
    go_wp2_with fail
    refine (kind_eq _ _ HQ.out _ _ _ _ _).mono ?_
    rintro e w3 ⟨rfl, b3⟩
    have q3 := blw q2 b3
    have hR3 : Rd w3 w1.heap.size s false := Blk.below hR b3 (Blk.lt hR)
    go_wp2_with fail
    refine (text_yes hR3 (fun h => by cases h) (by omega) HO.out).mono ?_
    rintro e w4 ⟨rfl, hR4, g4⟩
    have q4 := q3.trans (below_of_only g4 (by have := q1.size; have := q3.size; omega))
    have ht4 := ht.on q4
    go_wp2_with fail
    refine (wText_any ⟨x.toArray⟩ (by rw [size_of_list]; omega) _ ht4).mono ?_
    rintro e w5 ⟨rfl, b5⟩
    have q5 := blw q4 b5
    obtain ⟨t, htt⟩ : ∃ t : ByteArray, t = ⟨(wText x).toArray⟩ := ⟨_, rfl⟩
    rw [← htt]
    obtain ⟨u, hu, hR5⟩ := RdL.ex (Blk.below hR4 b5 (Blk.lt hR4) : Rd w5 w1.heap.size ⟨r.toArray⟩ false)
    have hsum : s.data.toList = t.data.toList ++ u.data.toList := by rw [htt, hu]; exact HL.out.2
    have hu1 : u.size ≤ s.size := by rw [Lib.size_eq, Lib.size_eq, hsum, List.length_append]; omega
    have HS := Lib.hid hsum
    clear hsum htt hu hR4
    go_wp2_with fail
    refine (left_any _ _ _ _ hR5).mono ?_
    rintro e w6 ⟨rfl, rfl⟩
    by_cases hz : u.size = 0
    · have hz' : ((u.size : Int) == 0) = true := by simp [hz]
      have HE := Lib.hid (show u.data.toList.isEmpty = true by rw [List.isEmpty_iff_length_eq_zero, ← Lib.size_eq]; exact hz)
      clear hz
      go_wp2_with fail
      refine (done_any _ _ _ _ hR5).mono ?_
      rintro e w6 ⟨rfl, rfl⟩
      rw [HE.out]
      go_wp2_with fail
      refine (left_any _ _ _ _ hR5).mono ?_
      rintro e w6 ⟨rfl, rfl⟩
      go_wp2_with fail
      go_ret
      exact ⟨ret_bool (again_eq HS.out), q5⟩
    · have hz' : ((u.size : Int) == 0) = false := by simp [hz]
      clear hz
      go_wp2_with fail
      refine (left_any _ _ _ _ hR5).mono ?_
      rintro e w6 ⟨rfl, rfl⟩
      go_wp2_with fail
      go_ret
      exact ⟨ret_bool (again_eq HS.out), q5⟩

set_option maxHeartbeats 1000000 in
theorem again_3 (s : ByteArray) (k : Int) (w : World) (ht : Tab w) (hs : s.size ≤ 400) (hq : k % 5 = 3) :
    Calls Tryd.prog 6 #[.string s, .int .i64 k] w fun e w' => e = .returned (.bool true) ∧ Below w.heap.size w w' := by
  have HQ := Lib.hid hq
  clear hq
  cases ho : listP intP s.data.toList with
  | none =>
    have HO := Lib.hid ho
    clear ho
    go_enter Tryd.func6, Tryd.ntmps6
    go_wp2_with fail
    refine (small_any _ ht).mono ?_
    rintro e w1 ⟨rfl, q1⟩
    go_wp2_with fail
    refine (open_any _ _).mono ?_
    rintro e w2 ⟨rfl, hR, b2⟩
    have q2 := blw q1 b2
    go_wp2_with fail
    refine (kind_eq _ _ HQ.out _ _ _ _ _).mono ?_
    rintro e w3 ⟨rfl, b3⟩
    have q3 := blw q2 b3
    have hR3 : Rd w3 w1.heap.size s false := Blk.below hR b3 (Blk.lt hR)
    go_wp2_with fail
    refine (nums_rd_no hR3 (fun h => by cases h) (by omega) HO.out).mono ?_
    rintro e w4 ⟨rfl, hR4, g4⟩
    have q4 := q3.trans (below_of_only g4 (by have := q1.size; have := q3.size; omega))
    have ht4 := ht.on q4
    go_wp2_with fail
    refine (nums_any none 0 0 0 [] _ ht4 Reads.none_ (Nat.zero_le _) (by omega) (by simp) (by rw [nil_enc]; decide)).mono ?_
    rintro e w5 ⟨rfl, b5⟩
    have q5 := blw q4 b5
    have hR5 : Rd w5 w1.heap.size ⟨#[]⟩ true := Blk.below hR4 b5 (Blk.lt hR4)
    go_wp2_with fail
    refine (left_any _ _ _ _ hR5).mono ?_
    rintro e w6 ⟨rfl, rfl⟩
    go_wp2_with fail
    refine (done_any _ _ _ _ hR5).mono ?_
    rintro e w6 ⟨rfl, rfl⟩
    go_wp2
    go_ret
    exact ⟨rfl, q5⟩
  | some o =>
    obtain ⟨x, r⟩ := o
    have hl0 := (list_codec int_codec _ _ _).1 ho
    have hxl : (wList wInt x).length ≤ 140737488355328 := by
      have h := congrArg List.length hl0.2
      rw [len_eq, List.length_append] at h
      omega
    have HL := Lib.hid hl0
    have HO := Lib.hid ho
    clear ho hl0
    go_enter Tryd.func6, Tryd.ntmps6
    go_wp2_with fail
    refine (small_any _ ht).mono ?_
    rintro e w1 ⟨rfl, q1⟩
    go_wp2_with fail
    refine (open_any _ _).mono ?_
    rintro e w2 ⟨rfl, hR, b2⟩
    have q2 := blw q1 b2
    go_wp2_with fail
    refine (kind_eq _ _ HQ.out _ _ _ _ _).mono ?_
    rintro e w3 ⟨rfl, b3⟩
    have q3 := blw q2 b3
    have hR3 : Rd w3 w1.heap.size s false := Blk.below hR b3 (Blk.lt hR)
    go_wp2_with fail
    refine (nums_rd_yes hR3 (fun h => by cases h) (by omega) HO.out).mono ?_
    rintro e w4 ⟨A, c, rfl, hRe, hR4, g4⟩
    have q4 := q3.trans (below_of_only g4 (by have := q1.size; have := q3.size; omega))
    have ht4 := ht.on q4
    go_wp2_with fail
    refine (nums_any A x.length c _ x _ ht4 hRe (Nat.le_refl _) HL.out.1.1 HL.out.1.2 hxl).mono ?_
    rintro e w5 ⟨rfl, b5⟩
    have q5 := blw q4 b5
    obtain ⟨t, htt⟩ : ∃ t : ByteArray, t = ⟨(wList wInt x).toArray⟩ := ⟨_, rfl⟩
    rw [← htt]
    obtain ⟨u, hu, hR5⟩ := RdL.ex (Blk.below hR4 b5 (Blk.lt hR4) : Rd w5 w1.heap.size ⟨r.toArray⟩ false)
    have hsum : s.data.toList = t.data.toList ++ u.data.toList := by rw [htt, hu]; exact HL.out.2
    have hu1 : u.size ≤ s.size := by rw [Lib.size_eq, Lib.size_eq, hsum, List.length_append]; omega
    have HS := Lib.hid hsum
    clear hsum htt hu hR4
    go_wp2_with fail
    refine (left_any _ _ _ _ hR5).mono ?_
    rintro e w6 ⟨rfl, rfl⟩
    by_cases hz : u.size = 0
    · have hz' : ((u.size : Int) == 0) = true := by simp [hz]
      have HE := Lib.hid (show u.data.toList.isEmpty = true by rw [List.isEmpty_iff_length_eq_zero, ← Lib.size_eq]; exact hz)
      clear hz
      go_wp2_with fail
      refine (done_any _ _ _ _ hR5).mono ?_
      rintro e w6 ⟨rfl, rfl⟩
      rw [HE.out]
      go_wp2_with fail
      refine (left_any _ _ _ _ hR5).mono ?_
      rintro e w6 ⟨rfl, rfl⟩
      go_wp2_with fail
      go_ret
      exact ⟨ret_bool (again_eq HS.out), q5⟩
    · have hz' : ((u.size : Int) == 0) = false := by simp [hz]
      clear hz
      go_wp2_with fail
      refine (left_any _ _ _ _ hR5).mono ?_
      rintro e w6 ⟨rfl, rfl⟩
      go_wp2_with fail
      go_ret
      exact ⟨ret_bool (again_eq HS.out), q5⟩

set_option maxHeartbeats 1000000 in
theorem again_4 (s : ByteArray) (k : Int) (w : World) (ht : Tab w) (hs : s.size ≤ 400) (hq : k % 5 = 4) :
    Calls Tryd.prog 6 #[.string s, .int .i64 k] w fun e w' => e = .returned (.bool true) ∧ Below w.heap.size w w' := by
  have HQ := Lib.hid hq
  clear hq
  cases ho : listP textP s.data.toList with
  | none =>
    have HO := Lib.hid ho
    clear ho
    go_enter Tryd.func6, Tryd.ntmps6
    go_wp2_with fail
    refine (small_any _ ht).mono ?_
    rintro e w1 ⟨rfl, q1⟩
    go_wp2_with fail
    refine (open_any _ _).mono ?_
    rintro e w2 ⟨rfl, hR, b2⟩
    have q2 := blw q1 b2
    go_wp2_with fail
    refine (kind_eq _ _ HQ.out _ _ _ _ _).mono ?_
    rintro e w3 ⟨rfl, b3⟩
    have q3 := blw q2 b3
    have hR3 : Rd w3 w1.heap.size s false := Blk.below hR b3 (Blk.lt hR)
    go_wp2_with fail
    refine (texts_rd_no hR3 (fun h => by cases h) (by omega) HO.out).mono ?_
    rintro e w4 ⟨rfl, hR4, g4⟩
    have q4 := q3.trans (below_of_only g4 (by have := q1.size; have := q3.size; omega))
    have ht4 := ht.on q4
    go_wp2_with fail
    refine (texts_any none 0 0 0 [] _ ht4 Reads.none_ (Nat.zero_le _) (by omega) (by simp) (by rw [nil_enc]; decide)).mono ?_
    rintro e w5 ⟨rfl, b5⟩
    have q5 := blw q4 b5
    have hR5 : Rd w5 w1.heap.size ⟨#[]⟩ true := Blk.below hR4 b5 (Blk.lt hR4)
    go_wp2_with fail
    refine (left_any _ _ _ _ hR5).mono ?_
    rintro e w6 ⟨rfl, rfl⟩
    go_wp2_with fail
    refine (done_any _ _ _ _ hR5).mono ?_
    rintro e w6 ⟨rfl, rfl⟩
    go_wp2
    go_ret
    exact ⟨rfl, q5⟩
  | some o =>
    obtain ⟨x, r⟩ := o
    have hl0 := (list_codec text_codec _ _ _).1 ho
    rw [← texts_enc] at hl0
    have hxl : (wList wTextB (x.map fun l : List UInt8 => (⟨l.toArray⟩ : ByteArray))).length ≤ 140737488355328 := by
      have h := congrArg List.length hl0.2
      rw [len_eq, List.length_append] at h
      omega
    have hxm : ∀ y ∈ x.map fun l : List UInt8 => (⟨l.toArray⟩ : ByteArray), y.size ≤ 140737488355328 := fun y hy => by
      have h1 := enc_mem (f := wTextB) hy
      have h2 : y.size ≤ (wTextB y).length := by
        rw [Lib.size_eq]
        unfold wTextB wText
        simp
        omega
      omega
    have HL := Lib.hid hl0
    have HO := Lib.hid ho
    clear ho hl0
    go_enter Tryd.func6, Tryd.ntmps6
    go_wp2_with fail
    refine (small_any _ ht).mono ?_
    rintro e w1 ⟨rfl, q1⟩
    go_wp2_with fail
    refine (open_any _ _).mono ?_
    rintro e w2 ⟨rfl, hR, b2⟩
    have q2 := blw q1 b2
    go_wp2_with fail
    refine (kind_eq _ _ HQ.out _ _ _ _ _).mono ?_
    rintro e w3 ⟨rfl, b3⟩
    have q3 := blw q2 b3
    have hR3 : Rd w3 w1.heap.size s false := Blk.below hR b3 (Blk.lt hR)
    go_wp2_with fail
    refine (texts_rd_yes hR3 (fun h => by cases h) (by omega) HO.out).mono ?_
    rintro e w4 ⟨A, c, rfl, hRe, hR4, g4⟩
    have q4 := q3.trans (below_of_only g4 (by have := q1.size; have := q3.size; omega))
    have ht4 := ht.on q4
    go_wp2_with fail
    refine (texts_any A x.length c _ _ _ ht4 hRe (Nat.le_refl _) HL.out.1.1 hxm hxl).mono ?_
    rintro e w5 ⟨rfl, b5⟩
    have q5 := blw q4 b5
    obtain ⟨t, htt⟩ : ∃ t : ByteArray, t = ⟨(wList wTextB (x.map fun l : List UInt8 => (⟨l.toArray⟩ : ByteArray))).toArray⟩ := ⟨_, rfl⟩
    rw [← htt]
    obtain ⟨u, hu, hR5⟩ := RdL.ex (Blk.below hR4 b5 (Blk.lt hR4) : Rd w5 w1.heap.size ⟨r.toArray⟩ false)
    have hsum : s.data.toList = t.data.toList ++ u.data.toList := by rw [htt, hu]; exact HL.out.2
    have hu1 : u.size ≤ s.size := by rw [Lib.size_eq, Lib.size_eq, hsum, List.length_append]; omega
    have HS := Lib.hid hsum
    clear hsum htt hu hR4
    go_wp2_with fail
    refine (left_any _ _ _ _ hR5).mono ?_
    rintro e w6 ⟨rfl, rfl⟩
    by_cases hz : u.size = 0
    · have hz' : ((u.size : Int) == 0) = true := by simp [hz]
      have HE := Lib.hid (show u.data.toList.isEmpty = true by rw [List.isEmpty_iff_length_eq_zero, ← Lib.size_eq]; exact hz)
      clear hz
      go_wp2_with fail
      refine (done_any _ _ _ _ hR5).mono ?_
      rintro e w6 ⟨rfl, rfl⟩
      rw [HE.out]
      go_wp2_with fail
      refine (left_any _ _ _ _ hR5).mono ?_
      rintro e w6 ⟨rfl, rfl⟩
      go_wp2_with fail
      go_ret
      exact ⟨ret_bool (again_eq HS.out), q5⟩
    · have hz' : ((u.size : Int) == 0) = false := by simp [hz]
      clear hz
      go_wp2_with fail
      refine (left_any _ _ _ _ hR5).mono ?_
      rintro e w6 ⟨rfl, rfl⟩
      go_wp2_with fail
      go_ret
      exact ⟨ret_bool (again_eq HS.out), q5⟩

set_option maxHeartbeats 400000 in
theorem again_long (s : ByteArray) (k : Int) (w : World) (ht : Tab w) (hs : 400 < s.size) (hm : s.size ≤ 9223372036854775807) :
    Calls Tryd.prog 6 #[.string s, .int .i64 k] w fun e w' => e = .returned (.bool true) ∧ Below w.heap.size w w' := by
  go_enter Tryd.func6, Tryd.ntmps6
  go_wp2_with fail
  refine (small_any _ ht).mono ?_
  rintro e w1 ⟨rfl, q1⟩
  go_wp2
  go_ret
  exact ⟨rfl, q1⟩

theorem again_walk (s : ByteArray) (k : Int) (w : World) (ht : Tab w) (hm : s.size ≤ 9223372036854775807) :
    Calls Tryd.prog 6 #[.string s, .int .i64 k] w fun e w' => e = .returned (.bool true) ∧ Below w.heap.size w w' := by
  by_cases hs : 400 < s.size
  · exact again_long s k w ht hs hm
  · have h5 : k % 5 = 0 ∨ k % 5 = 1 ∨ k % 5 = 2 ∨ k % 5 = 3 ∨ k % 5 = 4 := by omega
    rcases h5 with h | h | h | h | h
    · exact again_0 s k w ht (by omega) h
    · exact again_1 s k w ht (by omega) h
    · exact again_2 s k w ht (by omega) h
    · exact again_3 s k w ht (by omega) h
    · exact again_4 s k w ht (by omega) h

end Go.Proofs.YtkkaancpokahcaaDoor
