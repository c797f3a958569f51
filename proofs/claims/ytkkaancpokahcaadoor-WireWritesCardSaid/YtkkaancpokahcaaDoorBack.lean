/- The walk of the statement WireBack: a reader of the concatenated encodings returns the values in order, and then what follows. Conditions: the slice reads as the values; the table of strconv holds what its text lays. -/
import Derived.Test.YtkkaancpokahcaaDoorEq
namespace Go.Proofs.YtkkaancpokahcaaDoor
open Go.RowKit Go.Lib

theorem data_app (a b : ByteArray) : (a ++ b).data.toList = a.data.toList ++ b.data.toList := by
  rw [ByteArray.data_append, Array.toList_append]
theorem tail_nil {s : ByteArray} {b : Bool} (h : s.data.toList.isEmpty = b) : (s.toList = [] ↔ b = true) := by
  rw [Lib.toList_data, ← h]
  simp
theorem few_parts {xs : List Va} (h : fewB xs = true) : xs.length ≤ 20 ∧ ∀ x ∈ xs, x.okB = true := by
  unfold fewB at h
  rw [Bool.and_eq_true, Bool.and_eq_true] at h
  exact ⟨of_decide_eq_true h.1, fun x hx => List.all_eq_true.1 h.2.1 x hx⟩
theorem encV_len {x : Va} (hf : x.Fits) (h : x.okB = true) : (encV x).length ≤ 200000 := by
  have h1 := ints_len hf h
  have h2 := texts_len h
  obtain ⟨_, _, h3, _⟩ := okB_parts h
  have hi (z : Int) (h0 : -9223372036854775808 ≤ z) (h1 : z ≤ 9223372036854775807) : (wInt z).length ≤ 22 := by
    unfold wInt
    have := itoa_length_le z h0 h1
    simp
    omega
  have hn := numberP_in hf.n0 hf.n1
  have h4 := hi (numberP x.n) (by omega) hn.2
  have h5 := hi x.n hf.n0 hf.n1
  have h6 : (wText x.s.data.toList).length ≤ 1000 := by
    unfold wText
    have := dec_len (n := x.s.data.toList.length) (by rw [len_eq]; omega)
    have h7 := len_eq x.s
    simp at this h7 ⊢
    omega
  unfold encV
  repeat' split
  all_goals omega

theorem VsIs.keep {w w' : World} {B n : Nat} {A : Option Addr} {xs : List Va} (h : VsIs w B A n xs) (hk : ∀ q : Addr, q.block < B → w'.cell? q = w.cell? q) : VsIs w' B A n xs := by
  obtain ⟨hl, hh⟩ := h
  refine ⟨hl, fun hn => ?_⟩
  obtain ⟨ad, rfl, hab, hx⟩ := hh hn
  refine ⟨ad, rfl, hab, fun i hi => ?_⟩
  obtain ⟨v0, v1, v2, v3, v4, hv, g0, g1, g2, g3, g4⟩ := hx i hi
  exact ⟨v0, v1, v2, v3, v4, hv.keep hk, by rw [hk _ (by rw [block_of_add]; exact hab)]; exact g0, by rw [hk _ (by rw [block_of_add]; exact hab)]; exact g1, by rw [hk _ (by rw [block_of_add]; exact hab)]; exact g2, by rw [hk _ (by rw [block_of_add]; exact hab)]; exact g3, by rw [hk _ (by rw [block_of_add]; exact hab)]; exact g4⟩
theorem VsIs.below {w w' : World} {B n : Nat} {A : Option Addr} {xs : List Va} (h : VsIs w B A n xs) (hb : Below B w w') : VsIs w' B A n xs := h.keep fun _ hp => hb.cell hp

theorem Drawn.below {w w' : World} (h : Drawn w w') : Below w.heap.size w w' := by
  obtain ⟨d, rfl⟩ := h
  exact below_drewN (Below.refl _ _) d

set_option maxHeartbeats 1000000 in
theorem back_no (A : Option Addr) (n c B : Nat) (xs : List Va) (tail : ByteArray) (w : World) (ht : Tab w) (h : VsIs w B A n xs) (hB : B ≤ w.heap.size) (hn : n ≤ 9223372036854775807) (hf : ∀ x ∈ xs, x.Fits) (hts : tail.size ≤ 9223372036854775807)
    (hno : fewB xs = false ∨ 400 < tail.size) :
    Calls Tryd.prog 5 #[.slice A n c, .string tail] w fun e w' => e = .returned (.bool true) ∧ Below w.heap.size w w' := by
  go_enter Tryd.func5, Tryd.ntmps5
  go_wp2_with fail
  refine (small_any _ ht).mono ?_
  rintro e w1 ⟨rfl, q1⟩
  have h1 := h.below (q1.mono hB)
  go_wp2_with fail
  refine (few_any _ _ _ _ xs _ h1 hn hf).mono ?_
  rintro e w2 ⟨rfl, hd⟩
  have q2 := blw q1 hd.below
  cases hfe : fewB xs with
  | false =>
    go_wp2
    go_ret
    exact ⟨rfl, q2⟩
  | true =>
    have hlong : 400 < tail.size := by
      rcases hno with h | h
      · rw [hfe] at h; cases h
      · exact h
    clear hfe hno
    go_wp2
    go_ret
    exact ⟨rfl, q2⟩

set_option maxHeartbeats 2000000 in
theorem back_yes (A : Option Addr) (n c B : Nat) (xs : List Va) (tail : ByteArray) (w : World) (ht : Tab w) (h : VsIs w B A n xs) (hB : B ≤ w.heap.size) (hf : ∀ x ∈ xs, x.Fits) (hts : tail.size ≤ 400) (hfe : fewB xs = true) :
    Calls Tryd.prog 5 #[.slice A n c, .string tail] w fun e w' => e = .returned (.bool true) ∧ Below w.heap.size w w' := by
  obtain ⟨h20, hok⟩ := few_parts hfe
  have HL := Lib.hid h.1
  have hn20 : n ≤ 20 := by rw [← h.1]; exact h20
  have HOK := Lib.hid hok
  have HFT := Lib.hid hf
  have HFE := Lib.hid hfe
  clear hok hfe h20
  go_enter Tryd.func5, Tryd.ntmps5
  go_wp2_with fail
  refine (small_any _ ht).mono ?_
  rintro e w1 ⟨rfl, q1⟩
  have h1 := h.below (q1.mono hB)
  go_wp2_with fail
  refine (few_any _ _ _ _ xs _ h1 (by omega) hf).mono ?_
  rintro e w2 ⟨rfl, hd⟩
  have q2 := blw q1 hd.below
  rw [HFE.out]
  have HW := Lib.hid h
  clear h h1 hf hd
  go_wp2_with fail
  go_loopw [6, 7] (fun s i wr => ∃ (k : Nat) (t : ByteArray), k ≤ n ∧ i = .int .i64 k ∧ s = .string t ∧ Hid (t.data.toList = (xs.take k).flatMap encV) ∧ t.size ≤ 200000 * k ∧ Below w.heap.size w wr) (fun _ i _ => n - (RowKit.intOf i).toNat)
  case atStart => exact ⟨0, ⟨#[]⟩, Nat.zero_le _, rfl, rfl, rfl, by decide, q2⟩
  case round =>
    obtain ⟨k, t, hk, rfl, rfl, htd, hts, hq⟩ := hrel
    by_cases hlt : k < n
    · obtain ⟨ad, hkx, rfl, A1, c1, A2, c2, g0, g1, g2, g3, g4, hr1, hr2⟩ := VsIs.at (HW.out.below (hq.mono hB)) hlt
      have hfx := HFT.out _ (List.getElem_mem hkx)
      have hox := HOK.out _ (List.getElem_mem hkx)
      have HX := Lib.hid (take_flat (f := encV) hkx)
      generalize xs[k] = x at *
      have htr := ht.on hq
      have hlen := encV_len hfx hox
      have hlen2 : (ByteArray.mk (encV x).toArray).size ≤ 200000 := by rw [size_of_list]; exact hlen
      go_wp2_with fail
      refine (write_any x A1 c1 A2 c2 _ htr hfx hox (hr1.more (by have := hq.size; omega)) (hr2.more (by have := hq.size; omega))).mono ?_
      rintro e w3 ⟨rfl, b3⟩
      have hq3 := blw hq b3
      clear g0 g1 g2 g3 g4 hr1 hr2
      obtain ⟨y, hy⟩ : ∃ y : ByteArray, y = ⟨(encV x).toArray⟩ := ⟨_, rfl⟩
      rw [← hy] at hlen2 ⊢
      have HY := Lib.hid hy
      clear hy
      go_wp2_with fail
      go_roundw
      case rel =>
        refine ⟨k + 1, t ++ y, by omega, by go_num, rfl, ?_, ?_, hq3⟩
        · show _ = _
          rw [HX.out, ← htd.out, data_app, HY.out]
        · rw [Lib.size_eq, data_app, List.length_append, ← Lib.size_eq, ← Lib.size_eq]
          omega
      case measure => simp [RowKit.intOf]; omega
    · have hkn : k = n := by omega
      have HT := Lib.hid (show t.data.toList = xs.flatMap encV by rw [htd.out, List.take_of_length_le (by rw [HL.out]; omega)])
      have ht4 : t.size ≤ 4000000 := by omega
      clear htd
      go_wp2_with fail
      refine (open_any _ _).mono ?_
      rintro e w3 ⟨rfl, hR, b3⟩
      have hq3 := blw hq b3
      have hb : w.heap.size ≤ wr.heap.size := hq.size
      generalize hbb : wr.heap.size = b at hR hb
      clear hbb
      have hR3 : RdL w3 b ((xs.drop 0).flatMap encV ++ tail.data.toList) false := RdL.to hR (by rw [data_app, HT.out]; rfl)
      go_wp2_with fail
      go_loopw [9] (fun i wi => ∃ k : Nat, k ≤ n ∧ i = .int .i64 k ∧ Hid (RdL wi b ((xs.drop k).flatMap encV ++ tail.data.toList) false) ∧ Below w.heap.size w wi) (fun i _ => n - (RowKit.intOf i).toNat)
      case atStart => exact ⟨0, Nat.zero_le _, rfl, hR3, hq3⟩
      case round =>
        obtain ⟨j, hj, rfl, hRj, hqj⟩ := hrel
        by_cases hjt : j < n
        · obtain ⟨ad, hjx, rfl, A1, c1, A2, c2, g0, g1, g2, g3, g4, hr1, hr2⟩ := VsIs.at (HW.out.below (hqj.mono hB)) hjt
          have hfx := HFT.out _ (List.getElem_mem hjx)
          have HX := Lib.hid (show (xs.drop j).flatMap encV ++ tail.data.toList = encV xs[j] ++ ((xs.drop (j + 1)).flatMap encV ++ tail.data.toList) by rw [List.drop_eq_getElem_cons hjx, List.flatMap_cons, List.append_assoc])
          have hsz : (xs.drop j).length ≤ 20 := by rw [List.length_drop, HL.out]; omega
          have hbd := flat_len (f := encV) (m := 200000) (l := xs.drop j) (fun z hz => encV_len (HFT.out z (List.mem_of_mem_drop hz)) (HOK.out z (List.mem_of_mem_drop hz)))
          have hbt := len_eq tail
          obtain ⟨u, hu, hRu⟩ := RdL.ex hRj.out
          have hus : u.size ≤ 1099511627776 := by
            rw [Lib.size_eq, hu, List.length_append]
            omega
          have HU := Lib.hid (hu.trans HX.out)
          clear hu hbd hbt hsz
          generalize xs[j] = x at *
          go_wp2_with fail
          refine (equal_yes b w.heap.size u _ x A1 c1 A2 c2 _ hRu hus hfx hb (hr1.more hB) (hr2.more hB) HU.out).mono ?_
          rintro e w4 ⟨rfl, hR4, g4'⟩
          have hq4 := hqj.trans (below_of_only g4' (by have := hqj.size; omega))
          clear g0 g1 g2 g3 g4 hr1 hr2
          go_wp2_with fail
          go_roundw
          case rel => exact ⟨j + 1, by omega, by go_num, hR4, hq4⟩
          case measure => simp [RowKit.intOf]; omega
        · have hRe : Rd wr b tail false := by
            have h0 := hRj.out
            rw [List.drop_of_length_le (by rw [HL.out]; omega)] at h0
            obtain ⟨u, hu, hRu⟩ := RdL.ex h0
            have : u = tail := by
              rw [str_of hu]
              cases tail
              simp
            rw [← this]
            exact hRu
          clear hRj
          have hem : tail.data.toList.isEmpty = true ∨ tail.data.toList.isEmpty = false := by
            cases tail.data.toList.isEmpty
            · exact .inr rfl
            · exact .inl rfl
          rcases hem with hem | hem
          all_goals
            have HD := Lib.hid hem
            have hem2 := hem
            rw [← Lib.toList_data] at hem2
            have hem3 := tail_nil hem
            clear hem
            go_wp2_with fail
            refine (left_any _ _ _ _ hRe).mono ?_
            rintro e w5 ⟨rfl, rfl⟩
            go_wp2_with fail
            refine (done_any _ _ _ _ hRe).mono ?_
            rintro e w5 ⟨rfl, rfl⟩
            rw [HD.out]
            go_wp2_with fail
            refine (rest_any _ _ _ _ hRe).mono ?_
            rintro e w6 ⟨rfl, hR6, g6⟩
            have hq6 := hqj.trans (below_of_only g6 (by have := hqj.size; omega))
            go_wp2_with fail
            refine (done_any _ _ _ _ hR6).mono ?_
            rintro e w7 ⟨rfl, rfl⟩
            go_wp2_with fail
            refine (left_any _ _ _ _ hR6).mono ?_
            rintro e w7 ⟨rfl, rfl⟩
            go_wp2
            go_ret
            exact ⟨rfl, hq6⟩

theorem back_walk (A : Option Addr) (n c B : Nat) (xs : List Va) (tail : ByteArray) (w : World) (ht : Tab w) (h : VsIs w B A n xs) (hB : B ≤ w.heap.size) (hn : n ≤ 9223372036854775807) (hf : ∀ x ∈ xs, x.Fits) (hts : tail.size ≤ 9223372036854775807) :
    Calls Tryd.prog 5 #[.slice A n c, .string tail] w fun e w' => e = .returned (.bool true) ∧ Below w.heap.size w w' := by
  cases hfe : fewB xs with
  | false => exact back_no A n c B xs tail w ht h hB hn hf hts (.inl hfe)
  | true =>
    by_cases hl : 400 < tail.size
    · exact back_no A n c B xs tail w ht h hB hn hf hts (.inr hl)
    · exact back_yes A n c B xs tail w ht h hB hf (by omega) hfe

end Go.Proofs.YtkkaancpokahcaaDoor
