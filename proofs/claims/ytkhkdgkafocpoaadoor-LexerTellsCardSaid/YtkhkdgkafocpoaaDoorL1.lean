/- The walks of lexer's small functions on bytes, and of count. No condition but that a length is below 2^62. -/
import Derived.Test.YtkhkdgkafocpoaaDoorRows
import Derived.Test.YtkhkdgkafocpoaaDoorMem
import Derived.Test.YtkhkdgkafocpoaaDoorLp
import Derived.WalkKit
import Derived.LoopTactic
import Derived.WalkSpells
import Derived.WalkLawsBesides
import Derived.Lib.Strings
import Derived.Lib.SmallJoins
import Derived.Deep.QuietTactic
import Derived.BigQuiet
import Derived.IntWalk
namespace Go.Proofs.YtkhkdgkafocpoaaDoor
set_option maxRecDepth 8000
open Go.RowKit

set_option maxHeartbeats 400000 in
theorem isPlain_any (b : UInt8) (w : World) :
    Calls Tryd.prog 51 #[.int .u8 (b.toNat : Int)] w fun e w' => e = .returned (.bool (plainB b)) ∧ w = w' := by
  have hb : Hid (plainB b = (decide (32 ≤ (b.toNat : Int)) && decide ((b.toNat : Int) ≤ 126))) := by
    show _ = _
    unfold plainB
    rw [Bool.eq_iff_iff]; simp; omega
  by_cases h : 32 ≤ (b.toNat : Int)
  · go_enter Tryd.func51, Tryd.ntmps51
    go_wp2
    go_ret
    (refine ⟨congrArg (fun x => Ending.returned (Value.bool x)) ?_, rfl⟩; rw [hb.out] <;> (rw [Bool.eq_iff_iff] <;> simp <;> omega))
  · go_enter Tryd.func51, Tryd.ntmps51
    go_wp2
    go_ret
    (refine ⟨congrArg (fun x => Ending.returned (Value.bool x)) ?_, rfl⟩; rw [hb.out] <;> (rw [Bool.eq_iff_iff] <;> simp <;> omega))
set_option maxHeartbeats 400000 in
theorem isDigit_any (b : UInt8) (w : World) :
    Calls Tryd.prog 30 #[.int .u8 (b.toNat : Int)] w fun e w' => e = .returned (.bool (digB b)) ∧ w = w' := by
  have hb : Hid (digB b = (decide (48 ≤ (b.toNat : Int)) && decide ((b.toNat : Int) ≤ 57))) := by
    show _ = _
    unfold digB
    rw [Bool.eq_iff_iff]; simp; omega
  by_cases h : 48 ≤ (b.toNat : Int)
  · go_enter Tryd.func30, Tryd.ntmps30
    go_wp2
    go_ret
    (refine ⟨congrArg (fun x => Ending.returned (Value.bool x)) ?_, rfl⟩; rw [hb.out] <;> (rw [Bool.eq_iff_iff] <;> simp <;> omega))
  · go_enter Tryd.func30, Tryd.ntmps30
    go_wp2
    go_ret
    (refine ⟨congrArg (fun x => Ending.returned (Value.bool x)) ?_, rfl⟩; rw [hb.out] <;> (rw [Bool.eq_iff_iff] <;> simp <;> omega))
set_option maxHeartbeats 400000 in
theorem isLetter_any (b : UInt8) (w : World) :
    Calls Tryd.prog 37 #[.int .u8 (b.toNat : Int)] w fun e w' => e = .returned (.bool (letB b)) ∧ w = w' := by
  have hb : Hid (letB b = ((decide (97 ≤ (b.toNat : Int)) && decide ((b.toNat : Int) ≤ 122)) || (decide (65 ≤ (b.toNat : Int)) && decide ((b.toNat : Int) ≤ 90)))) := by
    show _ = _
    unfold letB
    rw [Bool.eq_iff_iff]; simp; omega
  by_cases h : 97 ≤ (b.toNat : Int) <;> by_cases h2 : (b.toNat : Int) ≤ 122 <;> by_cases h3 : 65 ≤ (b.toNat : Int)
  all_goals first
    | (exfalso; omega)
    | (go_enter Tryd.func37, Tryd.ntmps37
       go_wp2
       all_goals go_ret
       all_goals (refine ⟨congrArg (fun x => Ending.returned (Value.bool x)) ?_, rfl⟩; rw [hb.out] <;> (rw [Bool.eq_iff_iff] <;> simp <;> omega)))
set_option maxHeartbeats 400000 in
theorem isNameByte_any (b : UInt8) (w : World) :
    Calls Tryd.prog 38 #[.int .u8 (b.toNat : Int)] w fun e w' => e = .returned (.bool (nameB b)) ∧ w = w' := by
  have c1 := isLetter_any b w
  have c2 := isDigit_any b w
  cases h : letB b
  · cases h2 : digB b
    · have hb : Hid (nameB b = ((b.toNat : Int) == 95)) := by
        show _ = _
        unfold nameB
        rw [h, h2, Bool.eq_iff_iff]; simp; omega
      rw [h] at c1
      rw [h2] at c2
      have C1 := Lib.hid c1
      have C2 := Lib.hid c2
      clear c1 c2 h h2
      go_enter Tryd.func38, Tryd.ntmps38
      go_wp2_with (first | (go_at_call 37; refine C1.out.mono ?_; rintro e w' ⟨rfl, rfl⟩) | (go_at_call 30; refine C2.out.mono ?_; rintro e w' ⟨rfl, rfl⟩))
      go_ret
      (refine ⟨congrArg (fun x => Ending.returned (Value.bool x)) ?_, rfl⟩; rw [hb.out] <;> (rw [Bool.eq_iff_iff] <;> simp <;> omega))
    · have hb : Hid (nameB b = true) := by
        show _ = _
        unfold nameB
        rw [h2]; simp
      rw [h] at c1
      rw [h2] at c2
      have C1 := Lib.hid c1
      have C2 := Lib.hid c2
      clear c1 c2 h h2
      go_enter Tryd.func38, Tryd.ntmps38
      go_wp2_with (first | (go_at_call 37; refine C1.out.mono ?_; rintro e w' ⟨rfl, rfl⟩) | (go_at_call 30; refine C2.out.mono ?_; rintro e w' ⟨rfl, rfl⟩))
      go_ret
      (refine ⟨congrArg (fun x => Ending.returned (Value.bool x)) ?_, rfl⟩; rw [hb.out] <;> (rw [Bool.eq_iff_iff] <;> simp <;> omega))
  · have hb : Hid (nameB b = true) := by
      show _ = _
      unfold nameB
      rw [h]; simp
    rw [h] at c1
    have C1 := Lib.hid c1
    clear c1 c2 h
    go_enter Tryd.func38, Tryd.ntmps38
    go_wp2_with (first | (go_at_call 37; refine C1.out.mono ?_; rintro e w' ⟨rfl, rfl⟩))
    go_ret
    (refine ⟨congrArg (fun x => Ending.returned (Value.bool x)) ?_, rfl⟩; rw [hb.out] <;> (rw [Bool.eq_iff_iff] <;> simp <;> omega))
set_option maxHeartbeats 400000 in
theorem isBlank_any (b : UInt8) (w : World) :
    Calls Tryd.prog 41 #[.int .u8 (b.toNat : Int)] w fun e w' => e = .returned (.bool (blankB b)) ∧ w = w' := by
  have hb : Hid (blankB b = (((b.toNat : Int) == 9) || ((b.toNat : Int) == 10) || ((b.toNat : Int) == 32))) := by
    show _ = _
    unfold blankB
    rw [Bool.eq_iff_iff]; simp; omega
  cases h1 : ((b.toNat : Int) == 9) <;> cases h2 : ((b.toNat : Int) == 10)
  all_goals
    go_enter Tryd.func41, Tryd.ntmps41
    go_wp2
    go_ret
    (refine ⟨congrArg (fun x => Ending.returned (Value.bool x)) ?_, rfl⟩; rw [hb.out, Bool.eq_iff_iff]; simp at h1 h2 ⊢; omega)

theorem str_at {s : ByteArray} {k : Nat} (h : k < s.size) : s.data.toList[k]? = some s[k] := by
  rw [List.getElem?_eq_getElem (by simpa using h)]; rfl
theorem str_drop {s : ByteArray} {k : Nat} (h : k < s.size) : s.data.toList.drop k = s[k] :: s.data.toList.drop (k + 1) := by
  rw [List.drop_eq_getElem_cons (by simpa using h)]; rfl
theorem str_end {s : ByteArray} : s.data.toList.drop s.size = [] := List.drop_eq_nil_of_le (by simp)

set_option maxHeartbeats 1000000 in
theorem count_plain (s : ByteArray) (w : World) (hs : s.size ≤ 1073741824) :
    Calls Tryd.prog 29 #[.string s, .func (.func 51) #[] #[]] w fun e w' => e = .returned (.int .i64 (cntP plainB s.data.toList : Nat)) ∧ w = w' := by
  go_enter Tryd.func29, Tryd.ntmps29
  go_wp2_with fail
  go_loop [5] (fun i => ∃ k : Nat, k ≤ s.size ∧ i = .int .i64 k ∧ Hid (cntP plainB s.data.toList = k + cntP plainB (s.data.toList.drop k))) (fun i => s.size - (RowKit.intOf i).toNat)
  case atStart => exact ⟨0, Nat.zero_le _, rfl, by show _ = _; simp⟩
  case round =>
    obtain ⟨k, hk, rfl, HA⟩ := hrel
    by_cases hlt : k < s.size
    · have hkc : (k : Int) < (s.size : Int) := by omega
      have hd := str_drop hlt
      have c := isPlain_any s[k] w
      cases hfb : plainB s[k]
      · have hres : Hid (cntP plainB s.data.toList = k) := by
          show _ = _
          rw [HA.out, hd, cntP, hfb]; rfl
        rw [hfb] at c
        have C := Lib.hid c
        clear c hfb hd
        go_wp2_with (go_at_call 51; refine C.out.mono ?_; rintro e w' ⟨rfl, rfl⟩)
        go_ret
        exact ⟨by rw [hres.out]; rfl, rfl⟩
      · have hres : Hid (cntP plainB s.data.toList = (k + 1) + cntP plainB (s.data.toList.drop (k + 1))) := by
          show _ = _
          rw [HA.out, hd, cntP, hfb, if_pos rfl]; omega
        rw [hfb] at c
        have C := Lib.hid c
        clear c hfb hd
        go_wp2_with (go_at_call 51; refine C.out.mono ?_; rintro e w' ⟨rfl, rfl⟩)
        go_round
        case rel => exact ⟨k + 1, by omega, by go_num, hres⟩
        case measure => simp [RowKit.intOf]; omega
    · obtain rfl : k = s.size := by omega
      have hres : Hid (cntP plainB s.data.toList = s.size) := by
        show _ = _
        rw [HA.out, str_end]; rfl
      go_wp2_with fail
      go_ret
      exact ⟨by rw [hres.out]; rfl, rfl⟩

set_option maxHeartbeats 1000000 in
theorem count_digit (s : ByteArray) (w : World) (hs : s.size ≤ 1073741824) :
    Calls Tryd.prog 29 #[.string s, .func (.func 30) #[] #[]] w fun e w' => e = .returned (.int .i64 (cntP digB s.data.toList : Nat)) ∧ w = w' := by
  go_enter Tryd.func29, Tryd.ntmps29
  go_wp2_with fail
  go_loop [5] (fun i => ∃ k : Nat, k ≤ s.size ∧ i = .int .i64 k ∧ Hid (cntP digB s.data.toList = k + cntP digB (s.data.toList.drop k))) (fun i => s.size - (RowKit.intOf i).toNat)
  case atStart => exact ⟨0, Nat.zero_le _, rfl, by show _ = _; simp⟩
  case round =>
    obtain ⟨k, hk, rfl, HA⟩ := hrel
    by_cases hlt : k < s.size
    · have hkc : (k : Int) < (s.size : Int) := by omega
      have hd := str_drop hlt
      have c := isDigit_any s[k] w
      cases hfb : digB s[k]
      · have hres : Hid (cntP digB s.data.toList = k) := by
          show _ = _
          rw [HA.out, hd, cntP, hfb]; rfl
        rw [hfb] at c
        have C := Lib.hid c
        clear c hfb hd
        go_wp2_with (go_at_call 30; refine C.out.mono ?_; rintro e w' ⟨rfl, rfl⟩)
        go_ret
        exact ⟨by rw [hres.out]; rfl, rfl⟩
      · have hres : Hid (cntP digB s.data.toList = (k + 1) + cntP digB (s.data.toList.drop (k + 1))) := by
          show _ = _
          rw [HA.out, hd, cntP, hfb, if_pos rfl]; omega
        rw [hfb] at c
        have C := Lib.hid c
        clear c hfb hd
        go_wp2_with (go_at_call 30; refine C.out.mono ?_; rintro e w' ⟨rfl, rfl⟩)
        go_round
        case rel => exact ⟨k + 1, by omega, by go_num, hres⟩
        case measure => simp [RowKit.intOf]; omega
    · obtain rfl : k = s.size := by omega
      have hres : Hid (cntP digB s.data.toList = s.size) := by
        show _ = _
        rw [HA.out, str_end]; rfl
      go_wp2_with fail
      go_ret
      exact ⟨by rw [hres.out]; rfl, rfl⟩

set_option maxHeartbeats 1000000 in
theorem count_name (s : ByteArray) (w : World) (hs : s.size ≤ 1073741824) :
    Calls Tryd.prog 29 #[.string s, .func (.func 38) #[] #[]] w fun e w' => e = .returned (.int .i64 (cntP nameB s.data.toList : Nat)) ∧ w = w' := by
  go_enter Tryd.func29, Tryd.ntmps29
  go_wp2_with fail
  go_loop [5] (fun i => ∃ k : Nat, k ≤ s.size ∧ i = .int .i64 k ∧ Hid (cntP nameB s.data.toList = k + cntP nameB (s.data.toList.drop k))) (fun i => s.size - (RowKit.intOf i).toNat)
  case atStart => exact ⟨0, Nat.zero_le _, rfl, by show _ = _; simp⟩
  case round =>
    obtain ⟨k, hk, rfl, HA⟩ := hrel
    by_cases hlt : k < s.size
    · have hkc : (k : Int) < (s.size : Int) := by omega
      have hd := str_drop hlt
      have c := isNameByte_any s[k] w
      cases hfb : nameB s[k]
      · have hres : Hid (cntP nameB s.data.toList = k) := by
          show _ = _
          rw [HA.out, hd, cntP, hfb]; rfl
        rw [hfb] at c
        have C := Lib.hid c
        clear c hfb hd
        go_wp2_with (go_at_call 38; refine C.out.mono ?_; rintro e w' ⟨rfl, rfl⟩)
        go_ret
        exact ⟨by rw [hres.out]; rfl, rfl⟩
      · have hres : Hid (cntP nameB s.data.toList = (k + 1) + cntP nameB (s.data.toList.drop (k + 1))) := by
          show _ = _
          rw [HA.out, hd, cntP, hfb, if_pos rfl]; omega
        rw [hfb] at c
        have C := Lib.hid c
        clear c hfb hd
        go_wp2_with (go_at_call 38; refine C.out.mono ?_; rintro e w' ⟨rfl, rfl⟩)
        go_round
        case rel => exact ⟨k + 1, by omega, by go_num, hres⟩
        case measure => simp [RowKit.intOf]; omega
    · obtain rfl : k = s.size := by omega
      have hres : Hid (cntP nameB s.data.toList = s.size) := by
        show _ = _
        rw [HA.out, str_end]; rfl
      go_wp2_with fail
      go_ret
      exact ⟨by rw [hres.out]; rfl, rfl⟩
end Go.Proofs.YtkhkdgkafocpoaaDoor
