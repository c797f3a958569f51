/- The walks of the reference's writers: they return the same encodings. Conditions: an int's bounds; lengths. -/
import Derived.Test.YtkkaancpokahcaaDoorWl
namespace Go.Proofs.YtkkaancpokahcaaDoor
open Go.RowKit Go.Lib

theorem dec_len' {n : Nat} (h : n ≤ 9223372036854775808) : (decDigits n).length ≤ 22 := by
  have h1 := itoa_length_le (-(n : Int)) (by omega) (by omega)
  by_cases h0 : n = 0
  · subst h0
    rw [decDigits_small (by omega)]
    simp
  · rw [itoa_neg n (by omega)] at h1
    simp at h1
    omega
theorem tm10 (m : Nat) : (-(m : Int)).tmod 10 = -((m % 10 : Nat) : Int) := by
  rw [Int.neg_tmod, Int.tmod_eq_emod_of_nonneg (by omega)]
  rfl
theorem td10 (m : Nat) : (-(m : Int)).tdiv 10 = -((m / 10 : Nat) : Int) := by
  rw [Int.neg_tdiv, Int.tdiv_eq_ediv_of_nonneg (by omega)]
  rfl

theorem dig_conv (w : World) (d : Nat) (hd : d < 10) : (convert 66 9 (.slice (some ⟨w.heap.size, 0, none⟩) 1 1)).run Tryd.prog (w.alloc (.cells #[.int .u8 (48 + (d : Int))] 5)) = .ok (.string ⟨[UInt8.ofNat (48 + d)].toArray⟩) (w.alloc (.cells #[.int .u8 (48 + (d : Int))] 5)) :=
  run_convert_bytes_back (P := Tryd.prog) (w.alloc (.cells #[.int .u8 (48 + (d : Int))] 5)) 66 9 5 ⟨w.heap.size, 0, none⟩ 1 [UInt8.ofNat (48 + d)] Tryd.underlying66 Tryd.underlying5 Tryd.underlying9 (fun j hj => by
    have hj0 : j = 0 := by simp at hj; omega
    subst hj0
    have h := dig_byte hd
    simp only [List.getElem_cons_zero]
    rw [h]
    simp [Addr.add])

set_option maxHeartbeats 1000000 in
theorem refDigits (m : Nat) : ∀ (w : World), m ≤ 9223372036854775808 →
    Calls Tryd.prog 45 #[.int .i64 (-(m : Int))] w fun e w' => e = .returned (.string ⟨(decDigits m).toArray⟩) ∧ Below w.heap.size w w' := by
  induction m using Nat.strongRecOn with
  | _ m ih =>
    intro w hm
    have h1 := tm10 m
    have h2 := td10 m
    have hd : m % 10 < 10 := by omega
    by_cases hs : m < 10
    · have hcv := dig_conv w m hs
      have hds := decDigits_small hs
      obtain ⟨u, hu⟩ : ∃ u, UInt8.ofNat (48 + m) = u := ⟨_, rfl⟩
      rw [hu] at hcv hds
      have HD := Lib.hid hds
      clear hu hds
      rw [Nat.mod_eq_of_lt hs] at h1
      clear h2 hd
      go_enter Tryd.func45, Tryd.ntmps45
      go_wp2
      go_ret
      exact ⟨ret_bytes HD.out.symm, (Below.refl _ _).alloc (Nat.le_refl _) _⟩
    · have hcv := dig_conv w (m % 10) hd
      have hds := decDigits_big hs
      obtain ⟨u, hu⟩ : ∃ u, UInt8.ofNat (48 + m % 10) = u := ⟨_, rfl⟩
      rw [hu] at hcv hds
      have HD := Lib.hid hds
      clear hu hds
      have HI := hide (ih (m / 10) (by omega))
      have hq : m / 10 ≤ 922337203685477580 := by omega
      have hl := dec_len' (n := m / 10) (by omega)
      clear ih
      generalize m % 10 = d at *
      generalize m / 10 = q at *
      have hb0 : Below w.heap.size w (w.alloc (.cells #[.int .u8 (48 + (d : Int))] 5)) := (Below.refl _ _).alloc (Nat.le_refl _) _
      go_enter Tryd.func45, Tryd.ntmps45
      go_wp2_with fail
      refine ((unhide HI) _ (by omega)).mono ?_
      rintro e w1 ⟨rfl, b1⟩
      generalize hdq : decDigits q = dq at hl
      have HQ := Lib.hid hdq
      clear hdq hcv h1 h2
      go_wp2
      go_ret
      exact ⟨ret_str (by rw [HD.out, HQ.out]; simp), hb0.trans (b1.mono hb0.size)⟩

set_option maxHeartbeats 400000 in
theorem refInt (n : Int) (h0 : -9223372036854775808 ≤ n) (h1 : n ≤ 9223372036854775807) (w : World) :
    Calls Tryd.prog 14 #[.int .i64 n] w fun e w' => e = .returned (.string ⟨(wInt n).toArray⟩) ∧ Below w.heap.size w w' := by
  by_cases hn : n < 0
  · obtain ⟨m, rfl⟩ : ∃ m : Nat, n = -(m : Int) := ⟨n.natAbs, by omega⟩
    have hl := dec_len' (n := m) (by omega)
    have HW := Lib.hid (show wInt (-(m : Int)) = 45 :: (decDigits m ++ [59]) by unfold wInt; rw [itoa_neg m (by omega)]; rfl)
    go_enter Tryd.func14, Tryd.ntmps14
    go_wp2_with fail
    refine (refDigits m _ (by omega)).mono ?_
    rintro e w1 ⟨rfl, b1⟩
    generalize hdq : decDigits m = dq at hl
    have HQ := Lib.hid hdq
    clear hdq
    go_wp2
    go_ret
    exact ⟨ret_str (by rw [HW.out, HQ.out]; simp), b1⟩
  · obtain ⟨m, rfl⟩ : ∃ m : Nat, n = (m : Int) := ⟨n.toNat, by omega⟩
    have hl := dec_len' (n := m) (by omega)
    have HW := Lib.hid (show wInt (m : Int) = decDigits m ++ [59] by unfold wInt; rw [itoa_nonneg])
    go_enter Tryd.func14, Tryd.ntmps14
    go_wp2_with fail
    refine (refDigits m _ (by omega)).mono ?_
    rintro e w1 ⟨rfl, b1⟩
    generalize hdq : decDigits m = dq at hl
    have HQ := Lib.hid hdq
    clear hdq
    go_wp2
    go_ret
    exact ⟨ret_str (by rw [HW.out, HQ.out]; simp), b1⟩

set_option maxHeartbeats 400000 in
theorem refNum (n : Int) (h0 : -9223372036854775808 ≤ n) (h1 : n ≤ 9223372036854775807) (w : World) :
    Calls Tryd.prog 12 #[.int .i64 n] w fun e w' => e = .returned (.string ⟨(if n < 0 then [] else wInt n).toArray⟩) ∧ Below w.heap.size w w' := by
  by_cases hn : n < 0
  · rw [if_pos hn]
    go_enter Tryd.func12, Tryd.ntmps12
    go_wp2
    go_ret
    exact ⟨rfl, Below.refl _ _⟩
  · rw [if_neg hn]
    go_enter Tryd.func12, Tryd.ntmps12
    go_wp2_with fail
    refine (refInt n h0 h1 _).mono ?_
    rintro e w1 ⟨rfl, hb⟩
    go_wp2
    go_ret
    exact ⟨rfl, hb⟩

set_option maxHeartbeats 400000 in
theorem refText (s : ByteArray) (hs : s.size ≤ 140737488355328) (w : World) :
    Calls Tryd.prog 16 #[.string s] w fun e w' => e = .returned (.string ⟨(wText s.data.toList).toArray⟩) ∧ Below w.heap.size w w' := by
  have hl := dec_len' (n := s.size) (by omega)
  go_enter Tryd.func16, Tryd.ntmps16
  go_wp2_with fail
  refine (refDigits s.size _ (by omega)).mono ?_
  rintro e w1 ⟨rfl, hb⟩
  generalize ht : Lib.decDigits s.size = t at hl
  have HT := Lib.hid ht
  clear ht
  go_wp2
  go_ret
  refine ⟨?_, hb⟩
  unfold wText
  rw [len_eq, HT.out]
  exact ret_str (by simp)

theorem wInt_len {z : Int} (h : -9223372036854775808 ≤ z ∧ z ≤ 9223372036854775807) : (wInt z).length ≤ 22 := by
  unfold wInt
  have := itoa_length_le z h.1 h.2
  simp
  omega
theorem wTextB_len {z : ByteArray} (h : z.size ≤ 140737488355328) : (wTextB z).length ≤ 140737488355424 := by
  unfold wTextB wText
  have := dec_len' (n := z.data.toList.length) (by rw [len_eq]; omega)
  have h6 := len_eq z
  simp at this h6 ⊢
  omega
theorem data_app' (a b : ByteArray) : (a ++ b).data.toList = a.data.toList ++ b.data.toList := by
  rw [ByteArray.data_append, Array.toList_append]

set_option maxHeartbeats 1000000 in
theorem refNums (A : Option Addr) (n c B0 : Nat) (l : List Int) (w : World) (hr : Reads w B0 1 A n (l.map (Value.int .i64))) (hB0 : B0 ≤ w.heap.size) (hn : n ≤ 9223372036854775807) (hi : ∀ x ∈ l, -9223372036854775808 ≤ x ∧ x ≤ 9223372036854775807) (hlen : (wList wInt l).length ≤ 140737488355328) :
    Calls Tryd.prog 18 #[.slice A n c] w fun e w' => e = .returned (.string ⟨(wList wInt l).toArray⟩) ∧ Below w.heap.size w w' := by
  have hln : l.length = n := by have := hr.1; simpa using this
  have hlen' : (decDigits n).length + 1 + (l.flatMap wInt).length + 1 ≤ 140737488355328 := by
    unfold wList at hlen
    simp only [List.length_append, List.length_cons, List.length_nil] at hlen
    rw [hln] at hlen
    omega
  have HLN := Lib.hid hln
  have hl := dec_len' (n := n) (by omega)
  clear hln hlen
  go_enter Tryd.func18, Tryd.ntmps18
  go_wp2_with fail
  refine (refDigits n _ (by omega)).mono ?_
  rintro e w1 ⟨rfl, hb1⟩
  generalize hdg : decDigits n = dg at hlen' hl
  have HDG := Lib.hid hdg
  clear hdg
  go_wp2_with fail
  go_loopw [3, 4] (fun s i wr => ∃ (k : Nat) (t : ByteArray), k ≤ n ∧ i = .int .i64 k ∧ s = .string t ∧ Hid (t.data.toList = dg ++ 91 :: (l.take k).flatMap wInt) ∧ Below w.heap.size w wr) (fun _ i _ => n - (RowKit.intOf i).toNat)
  case atStart => exact ⟨0, _, Nat.zero_le _, rfl, rfl, show _ = _ by simp, hb1⟩
  case round =>
    obtain ⟨k, t, hk, rfl, rfl, htd, hq⟩ := hrel
    have htl : t.size ≤ 140737488355328 := by
      rw [Lib.size_eq, htd.out]
      have := flat_le (f := wInt) (l := l) k
      simp only [List.length_append, List.length_cons]
      omega
    by_cases hlt : k < n
    · obtain ⟨ad, u, rfl, hab, hx, hc⟩ := (hr.below (hq.mono hB0)).at_ hlt
      obtain ⟨hkl, hu⟩ : ∃ h : k < l.length, u = .int .i64 l[k] := map_at hx
      subst hu
      have hx' := hi l[k] (List.getElem_mem hkl)
      have HS := Lib.hid (take_flat (f := wInt) hkl)
      have hel := wInt_len hx'
      generalize l[k] = x at hc hx' HS hel
      clear hx
      go_wp2_with fail
      refine (refInt x hx'.1 hx'.2 _).mono ?_
      rintro e w4 ⟨rfl, hb4⟩
      have hq4 := hq.trans (hb4.mono hq.size)
      obtain ⟨y, hy⟩ : ∃ y : ByteArray, y = ⟨(wInt x).toArray⟩ := ⟨_, rfl⟩
      have hys : y.size ≤ 140737488355424 := by rw [hy, size_of_list]; exact Nat.le_trans hel (by omega)
      rw [← hy]
      have HY := Lib.hid hy
      clear hy hc hr hel
      go_wp2_with fail
      go_roundw
      case rel => exact ⟨k + 1, t ++ y, by omega, by go_num, rfl, show _ = _ by rw [data_app', htd.out, HS.out, HY.out]; simp, hq4⟩
      case measure => simp [RowKit.intOf]; omega
    · have HF := Lib.hid (show l.take k = l from List.take_of_length_le (by rw [HLN.out]; omega))
      clear hr
      go_wp2_with fail
      go_ret
      exact ⟨ret_str (by rw [data_app', htd.out, HF.out]; unfold wList; rw [HLN.out, HDG.out]; simp), hq⟩

set_option maxHeartbeats 1000000 in
theorem refTexts (A : Option Addr) (n c B0 : Nat) (l : List ByteArray) (w : World) (hr : Reads w B0 1 A n (l.map Value.string)) (hB0 : B0 ≤ w.heap.size) (hn : n ≤ 9223372036854775807) (hi : ∀ x ∈ l, x.size ≤ 140737488355328) (hlen : (wList wTextB l).length ≤ 140737488355328) :
    Calls Tryd.prog 20 #[.slice A n c] w fun e w' => e = .returned (.string ⟨(wList wTextB l).toArray⟩) ∧ Below w.heap.size w w' := by
  have hln : l.length = n := by have := hr.1; simpa using this
  have hlen' : (decDigits n).length + 1 + (l.flatMap wTextB).length + 1 ≤ 140737488355328 := by
    unfold wList at hlen
    simp only [List.length_append, List.length_cons, List.length_nil] at hlen
    rw [hln] at hlen
    omega
  have HLN := Lib.hid hln
  have hl := dec_len' (n := n) (by omega)
  clear hln hlen
  go_enter Tryd.func20, Tryd.ntmps20
  go_wp2_with fail
  refine (refDigits n _ (by omega)).mono ?_
  rintro e w1 ⟨rfl, hb1⟩
  generalize hdg : decDigits n = dg at hlen' hl
  have HDG := Lib.hid hdg
  clear hdg
  go_wp2_with fail
  go_loopw [3, 4] (fun s i wr => ∃ (k : Nat) (t : ByteArray), k ≤ n ∧ i = .int .i64 k ∧ s = .string t ∧ Hid (t.data.toList = dg ++ 91 :: (l.take k).flatMap wTextB) ∧ Below w.heap.size w wr) (fun _ i _ => n - (RowKit.intOf i).toNat)
  case atStart => exact ⟨0, _, Nat.zero_le _, rfl, rfl, show _ = _ by simp, hb1⟩
  case round =>
    obtain ⟨k, t, hk, rfl, rfl, htd, hq⟩ := hrel
    have htl : t.size ≤ 140737488355328 := by
      rw [Lib.size_eq, htd.out]
      have := flat_le (f := wTextB) (l := l) k
      simp only [List.length_append, List.length_cons]
      omega
    by_cases hlt : k < n
    · obtain ⟨ad, u, rfl, hab, hx, hc⟩ := (hr.below (hq.mono hB0)).at_ hlt
      obtain ⟨hkl, hu⟩ : ∃ h : k < l.length, u = .string l[k] := map_at hx
      subst hu
      have hx' := hi l[k] (List.getElem_mem hkl)
      have HS := Lib.hid (take_flat (f := wTextB) hkl)
      have hel := wTextB_len hx'
      generalize l[k] = x at hc hx' HS hel
      clear hx
      go_wp2_with fail
      refine (refText x hx' _).mono ?_
      rintro e w4 ⟨rfl, hb4⟩
      have hq4 := hq.trans (hb4.mono hq.size)
      obtain ⟨y, hy⟩ : ∃ y : ByteArray, y = ⟨(wText x.data.toList).toArray⟩ := ⟨_, rfl⟩
      have hys : y.size ≤ 140737488355424 := by rw [hy, size_of_list]; exact Nat.le_trans hel (by omega)
      rw [← hy]
      have HY := Lib.hid hy
      clear hy hc hr hel
      go_wp2_with fail
      go_roundw
      case rel => exact ⟨k + 1, t ++ y, by omega, by go_num, rfl, show _ = _ by rw [data_app', htd.out, HS.out, HY.out]; simp [wTextB], hq4⟩
      case measure => simp [RowKit.intOf]; omega
    · have HF := Lib.hid (show l.take k = l from List.take_of_length_le (by rw [HLN.out]; omega))
      clear hr
      go_wp2_with fail
      go_ret
      exact ⟨ret_str (by rw [data_app', htd.out, HF.out]; unfold wList; rw [HLN.out, HDG.out]; simp), hq⟩

end Go.Proofs.YtkkaancpokahcaaDoor
