/- The walks of big's isDecimal, and of Read at texts that no big integer has. Conditions: lengths. -/
import Derived.Test.YtoocdokhljpokaaDoorC8
namespace Go.Proofs.YtoocdokhljpokaaDoor
set_option maxRecDepth 8000
open Go.RowKit

/-- Decimal digits, at least one. -/
def decB (l : List UInt8) : Bool := decide (l ≠ []) && l.all fun c => decide (48 ≤ c.toNat ∧ c.toNat ≤ 57)
def allDec (l : List UInt8) : Bool := l.all fun c => decide (48 ≤ c.toNat ∧ c.toNat ≤ 57)
theorem str_at {s : ByteArray} {k : Nat} (h : k < s.size) : s.data.toList[k]? = some s[k] := by
  rw [List.getElem?_eq_getElem (by simpa using h)]; rfl
theorem toList_loop (s : ByteArray) : ∀ (n i : Nat) (r : List UInt8), s.size - i = n → ByteArray.toList.loop s i r = r.reverse ++ s.data.toList.drop i := by
  intro n
  induction n with
  | zero =>
    intro i r h
    rw [ByteArray.toList.loop, if_neg (by omega), List.drop_eq_nil_of_le (by simp; omega), List.append_nil]
  | succ n ih =>
    intro i r h
    rw [ByteArray.toList.loop, if_pos (by omega), ih (i + 1) _ (by omega), List.reverse_cons, List.append_assoc]
    have e : s.data.toList.drop i = s.data.toList[i]'(by simp; omega) :: s.data.toList.drop (i + 1) := List.drop_eq_getElem_cons (by simp; omega)
    have hi : i < s.data.size := by show i < s.size; omega
    have e2 : s.get! i = s.data.toList[i]'(by simp; omega) := by
      rw [ByteArray.get!, getElem!_pos s.data i hi, Array.getElem_toList]
    rw [e, e2]
    rfl
theorem toList_data (s : ByteArray) : s.toList = s.data.toList := by
  rw [ByteArray.toList, toList_loop s _ 0 [] rfl]
  rfl
set_option maxHeartbeats 2000000 in
theorem isDecimal_any (s : ByteArray) (w : World) (hs : s.size ≤ 1073741824) :
    Calls Tryd.prog 28 #[.string s] w fun e w' => e = .returned (.bool (decB s.data.toList)) ∧ w = w' := by
  go_enter Tryd.func28, Tryd.ntmps28
  go_wp2_with fail
  go_loop [6] (fun i => ∃ k : Nat, k ≤ s.size ∧ i = .int .i64 k ∧ Hid (allDec (s.data.toList.take k) = true)) (fun i => s.size - (RowKit.intOf i).toNat)
  case atStart => exact ⟨0, Nat.zero_le _, rfl, rfl⟩
  case round =>
    obtain ⟨k, hk, rfl, HA⟩ := hrel
    by_cases hlt : k < s.size
    · have hkc : (k : Int) < (s.size : Int) := by omega
      have hat := str_at hlt
      have HAT := Lib.hid hat
      clear hat
      by_cases h0 : (s[k].toNat : Int) < 48
      · have hres : Hid (decB s.data.toList = false) := by
          show _ = _
          unfold decB
          rw [Bool.and_eq_false_iff]
          refine .inr ?_
          rw [List.all_eq_false]
          exact ⟨s[k], List.mem_of_getElem? HAT.out, by simp; omega⟩
        go_wp2_with fail
        go_ret
        exact ⟨by rw [hres.out]; rfl, rfl⟩
      · by_cases h1 : 57 < (s[k].toNat : Int)
        · have hres : Hid (decB s.data.toList = false) := by
            show _ = _
            unfold decB
            rw [Bool.and_eq_false_iff]
            refine .inr ?_
            rw [List.all_eq_false]
            exact ⟨s[k], List.mem_of_getElem? HAT.out, by simp; omega⟩
          go_wp2_with fail
          go_ret
          exact ⟨by rw [hres.out]; rfl, rfl⟩
        · have hn : Hid (allDec (s.data.toList.take (k + 1)) = true) := by
            show _ = _
            have h2 := HA.out
            unfold allDec at h2 ⊢
            rw [List.take_add_one, HAT.out, List.all_append, h2]
            simp
            omega
          go_wp2_with fail
          go_round
          case rel => exact ⟨k + 1, by omega, by go_num, hn⟩
          case measure => simp [RowKit.intOf]; omega
    · obtain rfl : k = s.size := by omega
      have hall : allDec s.data.toList = true := by
        have h2 := HA.out
        rwa [List.take_of_length_le (by simp)] at h2
      have hres : Hid (decB s.data.toList = (s.data.toList != [])) := by
        show _ = _
        unfold decB
        unfold allDec at hall
        rw [hall, Bool.and_true]
        by_cases e : s.data.toList = []
        · rw [e]; rfl
        · rw [decide_eq_true e]; symm; simpa using e
      clear hall
      go_wp2_with fail
      go_ret
      exact ⟨by show Ending.returned (.bool (!s.toList.isEmpty)) = _; rw [hres.out, toList_data]; cases s.data.toList <;> rfl, rfl⟩
/-- How Read ends where there is no big integer with the text. -/
def BadEnd (w : World) (e : Ending) (w' : World) : Prop := e = .returned (.tuple #[.agg #[.int .i64 0, .slice none 0 0], .int .i64 2]) ∧ Below w.heap.size w w'
set_option maxHeartbeats 2000000 in
theorem read_empty (w : World) : Calls Tryd.prog 13 #[.string ⟨#[]⟩] w (BadEnd w) := by
  have HP : Hid (∀ wx, Calls Tryd.prog 27 #[.string ⟨#[]⟩, .string ⟨#[45]⟩] wx fun e w' => e = .returned (.tuple #[.string ⟨#[]⟩, .bool false]) ∧ w' = wx) := fun wx => by
    have h := Tryd.strings_CutPrefix ⟨#[]⟩ ⟨#[45]⟩ wx
    exact h
  have HD : Hid (∀ wx, Calls Tryd.prog 28 #[.string ⟨#[]⟩] wx fun e w' => e = .returned (.bool false) ∧ wx = w') := fun wx => isDecimal_any ⟨#[]⟩ wx (by decide)
  have HB : Hid (Below w.heap.size w (w.alloc (.cells #[.int .i64 0, .slice none 0 0] 24))) := (Below.refl _ _).alloc (Nat.le_refl _) _
  go_enter Tryd.func13, Tryd.ntmps13
  go_wp2_with fail
  refine (HP.out _).mono ?_
  rintro e w' ⟨rfl, rfl⟩
  go_wp2_with fail
  refine (HD.out _).mono ?_
  rintro e w' ⟨rfl, rfl⟩
  go_wp2_with fail
  exact bodyPost_ret (v := .tuple #[.agg #[.int .i64 0, .slice none 0 0], .int .i64 2]) (by simp [results, Tryd.results13, go_sem]) rfl ⟨rfl, HB.out⟩
set_option maxHeartbeats 2000000 in
theorem read_double (w : World) : Calls Tryd.prog 13 #[.string ⟨#[48, 48, 55]⟩] w (BadEnd w) := by
  have HP : Hid (∀ wx, Calls Tryd.prog 27 #[.string ⟨#[48, 48, 55]⟩, .string ⟨#[45]⟩] wx fun e w' => e = .returned (.tuple #[.string ⟨#[48, 48, 55]⟩, .bool false]) ∧ w' = wx) := fun wx => by
    have h := Tryd.strings_CutPrefix ⟨#[48, 48, 55]⟩ ⟨#[45]⟩ wx
    exact h
  have HD : Hid (∀ wx, Calls Tryd.prog 28 #[.string ⟨#[48, 48, 55]⟩] wx fun e w' => e = .returned (.bool true) ∧ wx = w') := fun wx => isDecimal_any ⟨#[48, 48, 55]⟩ wx (by decide)
  have HB : Hid (Below w.heap.size w (w.alloc (.cells #[.int .i64 0, .slice none 0 0] 24))) := (Below.refl _ _).alloc (Nat.le_refl _) _
  go_enter Tryd.func13, Tryd.ntmps13
  go_wp2_with fail
  refine (HP.out _).mono ?_
  rintro e w' ⟨rfl, rfl⟩
  go_wp2_with fail
  refine (HD.out _).mono ?_
  rintro e w' ⟨rfl, rfl⟩
  go_wp2_with fail
  exact bodyPost_ret (v := .tuple #[.agg #[.int .i64 0, .slice none 0 0], .int .i64 2]) (by simp [results, Tryd.results13, go_sem]) rfl ⟨rfl, HB.out⟩
set_option maxHeartbeats 2000000 in
theorem read_minus (w : World) : Calls Tryd.prog 13 #[.string ⟨#[45, 48]⟩] w (BadEnd w) := by
  have HP : Hid (∀ wx, Calls Tryd.prog 27 #[.string ⟨#[45, 48]⟩, .string ⟨#[45]⟩] wx fun e w' => e = .returned (.tuple #[.string ⟨#[48]⟩, .bool true]) ∧ w' = wx) := fun wx => by
    have h := Tryd.strings_CutPrefix ⟨#[45, 48]⟩ ⟨#[45]⟩ wx
    exact h
  have HD : Hid (∀ wx, Calls Tryd.prog 28 #[.string ⟨#[48]⟩] wx fun e w' => e = .returned (.bool true) ∧ wx = w') := fun wx => isDecimal_any ⟨#[48]⟩ wx (by decide)
  have HB : Hid (Below w.heap.size w (w.alloc (.cells #[.int .i64 0, .slice none 0 0] 24))) := (Below.refl _ _).alloc (Nat.le_refl _) _
  go_enter Tryd.func13, Tryd.ntmps13
  go_wp2_with fail
  refine (HP.out _).mono ?_
  rintro e w' ⟨rfl, rfl⟩
  go_wp2_with fail
  refine (HD.out _).mono ?_
  rintro e w' ⟨rfl, rfl⟩
  go_wp2_with fail
  exact bodyPost_ret (v := .tuple #[.agg #[.int .i64 0, .slice none 0 0], .int .i64 2]) (by simp [results, Tryd.results13, go_sem]) rfl ⟨rfl, HB.out⟩
end Go.Proofs.YtoocdokhljpokaaDoor
