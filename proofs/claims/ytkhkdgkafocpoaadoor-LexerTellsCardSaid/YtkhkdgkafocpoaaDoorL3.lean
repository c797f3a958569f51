/- The walks of lexer's Name, isValue, name. Condition: lengths. -/
import Derived.Test.YtkhkdgkafocpoaaDoorL2
namespace Go.Proofs.YtkhkdgkafocpoaaDoor
set_option maxRecDepth 8000
open Go.RowKit

theorem head_of {s : ByteArray} (h : 0 < s.size) : s.data.toList.head? = some s[0] := by
  rw [List.head?_eq_getElem?]
  exact str_at h
theorem emp_of {s : ByteArray} (h : 0 < s.size) : s.toList.isEmpty = false := by
  rw [Lib.toList_data]
  rw [Lib.size_eq] at h
  cases hs : s.data.toList with
  | nil => simp [hs] at h
  | cons a l => rfl
theorem nil_of {s : ByteArray} (h : 0 < s.size) : ¬ s.toList = [] := by
  intro e
  have := emp_of h
  rw [e] at this
  cases this
theorem ret_bool {a b : Bool} (h : a = b) : Ending.returned (.bool a) = .returned (.bool b) := by rw [h]
theorem cnt_all {f : UInt8 → Bool} (s : ByteArray) : (((cntP f s.data.toList : Nat) : Int) == (s.size : Int)) = s.data.toList.all f := by
  rw [Bool.eq_iff_iff]
  have hl : s.data.toList.length = s.size := by simp
  constructor
  · intro h
    have h : ((cntP f s.data.toList : Nat) : Int) = (s.size : Int) := by simpa using h
    have h : cntP f s.data.toList = s.size := by omega
    exact cntP_full (by rw [h, hl])
  · intro h
    have := cntP_full' h
    rw [hl] at this
    simp [this]
set_option maxHeartbeats 1000000 in
theorem Name_any (s : ByteArray) (w : World) (hs : s.size ≤ 1073741824) :
    Calls Tryd.prog 18 #[.string s] w fun e w' => e = .returned (.bool (nameP s.data.toList)) ∧ w = w' := by
  by_cases h0 : 0 < s.size
  · have hh := head_of h0
    have e1 := emp_of h0
    have e2 := nil_of h0
    have hl : s.data.toList.length = s.size := by simp
    by_cases h20 : (s.size : Int) ≤ 20
    · have c1 := isLetter_any s[0] w
      have c2 := count_name s w hs
      cases hlb : letB s[0]
      · have hres : Hid (nameP s.data.toList = false) := by
          show _ = _
          unfold nameP
          rw [hh]; simp [hlb]
        rw [hlb] at c1
        have C1 := Lib.hid c1
        clear c1 c2 hlb hh hl
        go_enter Tryd.func18, Tryd.ntmps18
        go_wp2_with (go_at_call 37; refine C1.out.mono ?_; rintro e w' ⟨rfl, rfl⟩)
        go_ret
        exact ⟨ret_bool (by rw [hres.out]), rfl⟩
      · have hres : Hid (nameP s.data.toList = (((cntP nameB s.data.toList : Nat) : Int) == (s.size : Int))) := by
          show _ = _
          unfold nameP
          rw [hh, cnt_all, hl]; simp [hlb]; omega
        rw [hlb] at c1
        have C1 := Lib.hid c1
        have C2 := Lib.hid c2
        clear c1 c2 hlb hh hl
        go_enter Tryd.func18, Tryd.ntmps18
        go_wp2_with (first | (go_at_call 37; refine C1.out.mono ?_; rintro e w' ⟨rfl, rfl⟩) | (go_at_call 29; refine C2.out.mono ?_; rintro e w' ⟨rfl, rfl⟩))
        go_ret
        exact ⟨ret_bool (by rw [hres.out]), rfl⟩
    · have hres : Hid (nameP s.data.toList = false) := by
        show _ = _
        unfold nameP
        have : decide (s.data.toList.length ≤ 20) = false := by rw [decide_eq_false_iff_not, hl]; omega
        rw [this]; simp
      have hdec : decide ((s.size : Int) ≤ 20) = false := by simpa using h20
      clear hh hl h20
      go_enter Tryd.func18, Tryd.ntmps18
      go_wp2_with fail
      go_ret
      exact ⟨ret_bool (by rw [hres.out]), rfl⟩
  · have he : s.data.toList = [] := List.eq_nil_of_length_eq_zero (by rw [show s.data.toList.length = s.size by simp]; omega)
    have hres : Hid (nameP s.data.toList = false) := by
      show _ = _
      rw [he]; rfl
    have e2 : s.toList = [] := by rw [Lib.toList_data]; exact he
    have e1 : s.toList.isEmpty = true := by rw [e2]; rfl
    clear he
    go_enter Tryd.func18, Tryd.ntmps18
    go_wp2_with fail
    go_ret
    exact ⟨ret_bool (by rw [hres.out]), rfl⟩
set_option maxHeartbeats 1000000 in
theorem isValue_any (s : ByteArray) (w : World) (hs : s.size ≤ 1073741824) :
    Calls Tryd.prog 34 #[.string s] w fun e w' => e = .returned (.bool (valueP s.data.toList)) ∧ w = w' := by
  have hl : s.data.toList.length = s.size := by simp
  by_cases h4 : (s.size : Int) ≤ 400
  · have C2 := Lib.hid (count_plain s w hs)
    have hres : Hid (valueP s.data.toList = (((cntP plainB s.data.toList : Nat) : Int) == (s.size : Int))) := by
      show _ = _
      unfold valueP
      rw [cnt_all, hl]
      have : decide (s.size ≤ 400) = true := by simp; omega
      rw [this]; simp
    clear hl
    go_enter Tryd.func34, Tryd.ntmps34
    go_wp2_with (go_at_call 29; refine C2.out.mono ?_; rintro e w' ⟨rfl, rfl⟩)
    go_ret
    exact ⟨ret_bool (by rw [hres.out]), rfl⟩
  · have hres : Hid (valueP s.data.toList = false) := by
      show _ = _
      unfold valueP
      have : decide (s.data.toList.length ≤ 400) = false := by rw [decide_eq_false_iff_not, hl]; omega
      rw [this]; simp
    have hdec : decide ((s.size : Int) ≤ 400) = false := by simpa using h4
    clear hl h4
    go_enter Tryd.func34, Tryd.ntmps34
    go_wp2_with fail
    go_ret
    exact ⟨ret_bool (by rw [hres.out]), rfl⟩
end Go.Proofs.YtkhkdgkafocpoaaDoor
