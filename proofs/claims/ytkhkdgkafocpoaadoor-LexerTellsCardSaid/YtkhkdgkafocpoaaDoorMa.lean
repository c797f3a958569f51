/- The walks of the reference's Escaped and Blank, and of idle. Conditions: lengths. -/
import Derived.Test.YtkhkdgkafocpoaaDoorM3
namespace Go.Proofs.YtkhkdgkafocpoaaDoor
set_option maxRecDepth 20000
open Go.RowKit

theorem app_toList (a b : ByteArray) : (a ++ b).data.toList = a.data.toList ++ b.data.toList := by
  rw [ByteArray.data_append, Array.toList_append]
theorem app_size (a b : ByteArray) : (a ++ b).size = a.size + b.size := ByteArray.size_append
theorem extract_one {s : ByteArray} {k : Nat} (h : k < s.size) : (s.extract k (k + 1)).data.toList = [s[k]] := by
  rw [Lib.extract_data, str_drop h]
  simp
theorem extract_one_size {s : ByteArray} {k : Nat} (h : k < s.size) : (s.extract k (k + 1)).size = 1 := by
  have h1 := congrArg List.length (extract_one h)
  have h2 : (s.extract k (k + 1)).data.toList.length = (s.extract k (k + 1)).size := (Lib.size_eq _).symm
  rw [h2] at h1
  exact h1
theorem take_snoc {s : ByteArray} {k : Nat} (h : k < s.size) : s.data.toList.take (k + 1) = s.data.toList.take k ++ [s[k]] := by
  rw [List.take_succ_eq_append_getElem (by simpa using h)]; rfl
theorem escP_app (a b : List UInt8) : escP (a ++ b) = escP a ++ escP b := by
  induction a with
  | nil => rfl
  | cons x a ih =>
    rw [List.cons_append, escP, escP, ih]
    split <;> simp
set_option maxHeartbeats 2000000 in
theorem Escaped_any (s : ByteArray) (w : World) (hs : s.size ≤ 1073741824) :
    Calls Tryd.prog 23 #[.string s] w fun e w' => e = .returned (.string ⟨(quoP s.data.toList).toArray⟩) ∧ w = w' := by
  go_enter Tryd.func23, Tryd.ntmps23
  go_wp2_with fail
  go_loop [3, 4] (fun t i => ∃ (k : Nat) (u : ByteArray), k ≤ s.size ∧ i = .int .i64 k ∧ t = .string u ∧ u.size ≤ 2 * k + 1 ∧ Hid (u.data.toList = 34 :: escP (s.data.toList.take k))) (fun _ i => s.size - (RowKit.intOf i).toNat)
  case atStart => exact ⟨0, ⟨#[34]⟩, Nat.zero_le _, rfl, rfl, Nat.le_refl _, rfl⟩
  case round =>
    obtain ⟨k, u, hk, rfl, rfl, hus, HU⟩ := hrel
    by_cases hlt : k < s.size
    · have hkc : (k : Int) < (s.size : Int) := by omega
      have hes := extract_one_size hlt
      have HE := Lib.hid (extract_one hlt)
      have hts := take_snoc hlt
      by_cases h34 : s[k].toNat = 34 ∨ s[k].toNat = 92
      · have hnx : Hid ((u ++ ⟨#[92]⟩ ++ s.extract k (k + 1)).data.toList = 34 :: escP (s.data.toList.take (k + 1))) := by
          show _ = _
          have hb : (s[k].toNat == 34 || s[k].toNat == 92) = true := by rcases h34 with h | h <;> simp [h]
          rw [hts, escP_app, app_toList, app_toList, HU.out, HE.out, escP, if_pos hb]
          simp [escP]
        have hsz : (u ++ ⟨#[92]⟩ ++ s.extract k (k + 1)).size ≤ 2 * (k + 1) + 1 := by
          rw [app_size, app_size, hes]
          show u.size + 1 + 1 ≤ _
          omega
        by_cases h3 : s[k].toNat = 34
        · have hb1 : ((s[k].toNat : Int) == 34) = true := by simp [h3]
          have HES := Lib.hid hes
          have hes1 : (s.extract k (k + 1)).size ≤ 1 := by omega
          clear h34 h3 hts hes
          go_wp2_with fail
          go_round
          case rel => exact ⟨k + 1, _, by omega, by go_num, rfl, hsz, hnx⟩
          case measure => simp [RowKit.intOf]; omega
        · have h9 : s[k].toNat = 92 := by omega
          have hb1 : ((s[k].toNat : Int) == 34) = false := by simp [h9]
          have hb2 : ((s[k].toNat : Int) == 92) = true := by simp [h9]
          have HES := Lib.hid hes
          have hes1 : (s.extract k (k + 1)).size ≤ 1 := by omega
          clear h34 h3 h9 hts hes
          go_wp2_with fail
          go_round
          case rel => exact ⟨k + 1, _, by omega, by go_num, rfl, hsz, hnx⟩
          case measure => simp [RowKit.intOf]; omega
      · have hnx : Hid ((u ++ s.extract k (k + 1)).data.toList = 34 :: escP (s.data.toList.take (k + 1))) := by
          show _ = _
          have hb : (s[k].toNat == 34 || s[k].toNat == 92) = false := by
            have n1 : s[k].toNat ≠ 34 := fun h => h34 (.inl h)
            have n2 : s[k].toNat ≠ 92 := fun h => h34 (.inr h)
            simp [n1, n2]
          rw [hts, escP_app, app_toList, HU.out, HE.out, escP, if_neg (by simp [hb])]
          simp [escP]
        have hsz : (u ++ s.extract k (k + 1)).size ≤ 2 * (k + 1) + 1 := by
          rw [app_size, hes]
          omega
        have hb1 : ((s[k].toNat : Int) == 34) = false := by
          have : (s[k].toNat : Int) ≠ 34 := by have : s[k].toNat ≠ 34 := fun h => h34 (.inl h)
                                               omega
          simpa using this
        have hb2 : ((s[k].toNat : Int) == 92) = false := by
          have : (s[k].toNat : Int) ≠ 92 := by have : s[k].toNat ≠ 92 := fun h => h34 (.inr h)
                                               omega
          simpa using this
        have HES := Lib.hid hes
        have hes1 : (s.extract k (k + 1)).size ≤ 1 := by omega
        clear h34 hts hes
        go_wp2_with fail
        go_round
        case rel => exact ⟨k + 1, _, by omega, by go_num, rfl, hsz, hnx⟩
        case measure => simp [RowKit.intOf]; omega
    · obtain rfl : k = s.size := by omega
      have hres : Hid (u ++ ⟨#[34]⟩ = ⟨(quoP s.data.toList).toArray⟩) := by
        show _ = _
        have h : (u ++ ⟨#[34]⟩).data.toList = quoP s.data.toList := by
          rw [app_toList, HU.out, List.take_of_length_le (by simp)]; rfl
        rw [← h, str_mk]
      go_wp2_with fail
      go_ret
      exact ⟨by rw [← hres.out]; rfl, rfl⟩
set_option maxHeartbeats 400000 in
theorem refBlank_any (b : UInt8) (w : World) :
    Calls Tryd.prog 27 #[.int .u8 (b.toNat : Int)] w fun e w' => e = .returned (.bool (blankB b)) ∧ w = w' := by
  have hb : Hid (blankB b = (((b.toNat : Int) == 9) || ((b.toNat : Int) == 10) || ((b.toNat : Int) == 32))) := by
    show _ = _
    unfold blankB
    rw [Bool.eq_iff_iff]; simp; omega
  cases h1 : ((b.toNat : Int) == 9) <;> cases h2 : ((b.toNat : Int) == 10)
  all_goals
    go_enter Tryd.func27, Tryd.ntmps27
    go_wp2
    go_ret
    (refine ⟨congrArg (fun x => Ending.returned (Value.bool x)) ?_, rfl⟩; rw [hb.out, Bool.eq_iff_iff]; simp at h1 h2 ⊢; omega)
theorem idleP_cons (c : Bool) (b : UInt8) (l : List UInt8) : idleP c (b :: l) = if !(b.toNat == 35 || (c && b.toNat != 10)) && !blankB b then false else idleP (b.toNat == 35 || (c && b.toNat != 10)) l := rfl
set_option maxHeartbeats 2000000 in
theorem idle_yes (s : ByteArray) (w : World) (hs : s.size ≤ 1073741824) (hi : Hid (idleP false s.data.toList = true)) :
    Calls Tryd.prog 24 #[.string s] w fun e w' => e = .returned (.bool true) ∧ w = w' := by
  go_enter Tryd.func24, Tryd.ntmps24
  go_wp2_with fail
  go_loop [3, 4] (fun t i => ∃ (k : Nat) (c : Bool), k ≤ s.size ∧ i = .int .i64 k ∧ t = .bool c ∧ Hid (idleP c (s.data.toList.drop k) = true)) (fun _ i => s.size - (RowKit.intOf i).toNat)
  case atStart => exact ⟨0, false, Nat.zero_le _, rfl, rfl, by show _ = _; simpa using hi.out⟩
  case round =>
    obtain ⟨k, c, hk, rfl, rfl, HA⟩ := hrel
    by_cases hlt : k < s.size
    · have hkc : (k : Int) < (s.size : Int) := by omega
      have hA := HA.out
      rw [str_drop hlt, idleP_cons] at hA
      have cb := refBlank_any s[k] w
      by_cases h35 : s[k].toNat = 35
      · have hb1 : ((s[k].toNat : Int) == 35) = true := by simp [h35]
        have hnx : Hid (idleP true (s.data.toList.drop (k + 1)) = true) := by
          show _ = _
          simpa [h35] using hA
        clear hA cb h35
        go_wp2_with fail
        go_round
        case rel => exact ⟨k + 1, true, by omega, by go_num, rfl, hnx⟩
        case measure => simp [RowKit.intOf]; omega
      · have hb1 : ((s[k].toNat : Int) == 35) = false := by
          have : (s[k].toNat : Int) ≠ 35 := by omega
          simpa using this
        have hn35 : (s[k].toNat == 35) = false := by simpa using h35
        rw [hn35, Bool.false_or] at hA
        cases c
        · rw [Bool.false_and, Bool.not_false, Bool.true_and] at hA
          cases hbl : blankB s[k]
          · rw [hbl] at hA; simp at hA
          · rw [hbl] at hA cb
            have hnx : Hid (idleP false (s.data.toList.drop (k + 1)) = true) := by
              show _ = _
              simpa using hA
            have CB := Lib.hid cb
            clear hA cb h35 hn35 hbl
            go_wp2_with (go_at_call 27; refine CB.out.mono ?_; rintro e w' ⟨rfl, rfl⟩)
            go_round
            case rel => exact ⟨k + 1, false, by omega, by go_num, rfl, hnx⟩
            case measure => simp [RowKit.intOf]; omega
        · by_cases h10 : s[k].toNat = 10
          · have hb2 : ((s[k].toNat : Int) != 10) = false := by simp [h10]
            have hbl : blankB s[k] = true := by simp [blankB, h10]
            have hnx : Hid (idleP false (s.data.toList.drop (k + 1)) = true) := by
              show _ = _
              simpa [h10, hbl] using hA
            rw [hbl] at cb
            have CB := Lib.hid cb
            clear hA cb h35 hn35 hbl h10
            go_wp2_with (go_at_call 27; refine CB.out.mono ?_; rintro e w' ⟨rfl, rfl⟩)
            go_round
            case rel => exact ⟨k + 1, false, by omega, by go_num, rfl, hnx⟩
            case measure => simp [RowKit.intOf]; omega
          · have hb2 : ((s[k].toNat : Int) != 10) = true := by
              have : (s[k].toNat : Int) ≠ 10 := by omega
              simpa using this
            have hn10 : (s[k].toNat != 10) = true := by simpa using h10
            have hnx : Hid (idleP true (s.data.toList.drop (k + 1)) = true) := by
              show _ = _
              rw [hn10] at hA
              simpa using hA
            clear hA cb h35 hn35 h10 hn10
            go_wp2_with fail
            go_round
            case rel => exact ⟨k + 1, true, by omega, by go_num, rfl, hnx⟩
            case measure => simp [RowKit.intOf]; omega
    · obtain rfl : k = s.size := by omega
      go_wp2_with fail
      go_ret
      exact ⟨rfl, rfl⟩
end Go.Proofs.YtkhkdgkafocpoaaDoor
