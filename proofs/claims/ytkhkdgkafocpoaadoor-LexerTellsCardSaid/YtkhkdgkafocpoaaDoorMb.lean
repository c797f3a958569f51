/- The walks of the reference's letter, digit, sign, Value, Name, Number, Quote. Conditions: lengths. -/
import Derived.Test.YtkhkdgkafocpoaaDoorMa
namespace Go.Proofs.YtkhkdgkafocpoaaDoor
set_option maxRecDepth 20000
open Go.RowKit

set_option maxHeartbeats 400000 in
theorem refDigit_any (b : UInt8) (w : World) :
    Calls Tryd.prog 33 #[.int .u8 (b.toNat : Int)] w fun e w' => e = .returned (.bool (digB b)) ∧ w = w' := by
  have hb : Hid (digB b = (decide (48 ≤ (b.toNat : Int)) && decide ((b.toNat : Int) ≤ 57))) := by
    show _ = _
    unfold digB
    rw [Bool.eq_iff_iff]; simp; omega
  by_cases h : 48 ≤ (b.toNat : Int)
  · go_enter Tryd.func33, Tryd.ntmps33
    go_wp2
    go_ret
    (refine ⟨congrArg (fun x => Ending.returned (Value.bool x)) ?_, rfl⟩; rw [hb.out] <;> (rw [Bool.eq_iff_iff] <;> simp <;> omega))
  · go_enter Tryd.func33, Tryd.ntmps33
    go_wp2
    go_ret
    (refine ⟨congrArg (fun x => Ending.returned (Value.bool x)) ?_, rfl⟩; rw [hb.out] <;> (rw [Bool.eq_iff_iff] <;> simp <;> omega))
set_option maxHeartbeats 400000 in
theorem refLetter_any (b : UInt8) (w : World) :
    Calls Tryd.prog 39 #[.int .u8 (b.toNat : Int)] w fun e w' => e = .returned (.bool (letB b)) ∧ w = w' := by
  have hb : Hid (letB b = ((decide (97 ≤ (b.toNat : Int)) && decide ((b.toNat : Int) ≤ 122)) || (decide (65 ≤ (b.toNat : Int)) && decide ((b.toNat : Int) ≤ 90)))) := by
    show _ = _
    unfold letB
    rw [Bool.eq_iff_iff]; simp; omega
  by_cases h : 97 ≤ (b.toNat : Int) <;> by_cases h2 : (b.toNat : Int) ≤ 122 <;> by_cases h3 : 65 ≤ (b.toNat : Int)
  all_goals first
    | (exfalso; omega)
    | (go_enter Tryd.func39, Tryd.ntmps39
       go_wp2
       all_goals go_ret
       all_goals (refine ⟨congrArg (fun x => Ending.returned (Value.bool x)) ?_, rfl⟩; rw [hb.out] <;> (rw [Bool.eq_iff_iff] <;> simp <;> omega)))
def sgS : ByteArray := ⟨#[40, 41, 44, 59, 58, 61, 60, 43, 45, 42, 47, 123, 125]⟩
theorem sgS_at (k : Nat) (hk : k < 13) (S : ByteArray) (hS : S = sgS) (h : k < S.size) : S[k].toNat = sgP.getD k 0 := by
  subst hS
  have h2 : ∀ k : Fin 13, (sgS.data.toList.getD k.1 0).toNat = sgP.getD k.1 0 := by decide
  have h3 := h2 ⟨k, hk⟩
  simp only at h3
  rw [← h3, List.getD, str_at h]; rfl
set_option maxHeartbeats 1000000 in
theorem refSign_any (b : UInt8) (w : World) :
    Calls Tryd.prog 47 #[.int .u8 (b.toNat : Int)] w fun e w' => e = .returned (.bool (signB b)) ∧ w = w' := by
  go_enter Tryd.func47, Tryd.ntmps47
  go_wp2_with fail
  obtain ⟨S, hS⟩ : ∃ S : ByteArray, S = ⟨#[40, 41, 44, 59, 58, 61, 60, 43, 45, 42, 47, 123, 125]⟩ := ⟨_, rfl⟩
  rw [← hS]
  have hs1 : S.size ≤ 13 := by rw [hS]; decide
  have hs2 : 13 ≤ S.size := by rw [hS]; decide
  have HS : Hid (S = sgS) := hS
  clear hS
  go_loop [4] (fun i => ∃ k : Nat, k ≤ 13 ∧ i = .int .i64 k ∧ Hid (signB b = (sgP.drop k).contains b.toNat)) (fun i => 13 - (RowKit.intOf i).toNat)
  case atStart => exact ⟨0, Nat.zero_le _, rfl, by show _ = _; rfl⟩
  case round =>
    obtain ⟨k, hk, rfl, HA⟩ := hrel
    by_cases hlt : k < 13
    · have hks : k < S.size := by omega
      have hkc : (k : Int) < (S.size : Int) := by omega
      have hat := sgS_at k hlt S HS.out hks
      have hd := sgP_drop hlt
      obtain ⟨c, hc⟩ : ∃ c : Nat, sgP.getD k 0 = c := ⟨_, rfl⟩
      rw [hc] at hat hd
      by_cases hbc : b.toNat = c
      · have hres : Hid (signB b = true) := by
          show _ = _
          rw [HA.out, hd, List.contains_cons]
          simp [hbc]
        have hbb : ((S[k].toNat : Int) == (b.toNat : Int)) = true := by rw [hat, hbc]; simp
        clear hd hat hc hbc
        go_wp2_with fail
        go_ret
        exact ⟨by rw [hres.out]; rfl, rfl⟩
      · have hres : Hid (signB b = (sgP.drop (k + 1)).contains b.toNat) := by
          show _ = _
          rw [HA.out, hd, List.contains_cons]
          have : (b.toNat == c) = false := by simpa using hbc
          rw [this]; rfl
        have hbb : ((S[k].toNat : Int) == (b.toNat : Int)) = false := by
          have : (S[k].toNat : Int) ≠ (b.toNat : Int) := by omega
          simpa using this
        clear hd hat hc hbc
        go_wp2_with fail
        go_round
        case rel => exact ⟨k + 1, by omega, by go_num, hres⟩
        case measure => simp [RowKit.intOf]; omega
    · obtain rfl : k = 13 := by omega
      have hres : Hid (signB b = false) := by
        show _ = _
        rw [HA.out]; rfl
      have hsz : (S.size : Int) ≤ 13 := by omega
      go_wp2_with fail
      go_ret
      exact ⟨by rw [hres.out]; rfl, rfl⟩
theorem all_false {s : ByteArray} {k : Nat} {f : UInt8 → Bool} (h : k < s.size) (hf : f s[k] = false) : s.data.toList.all f = false := by
  rw [List.all_eq_false]
  exact ⟨s[k], List.mem_of_getElem? (str_at h), by simp [hf]⟩
theorem all_next {s : ByteArray} {k : Nat} {f : UInt8 → Bool} (h : k < s.size) (ha : (s.data.toList.take k).all f = true) (hf : f s[k] = true) : (s.data.toList.take (k + 1)).all f = true := by
  rw [take_snoc h, List.all_append, ha]; simp [hf]
set_option maxHeartbeats 1000000 in
theorem refValue_any (s : ByteArray) (w : World) (hs : s.size ≤ 1073741824) :
    Calls Tryd.prog 36 #[.string s] w fun e w' => e = .returned (.bool (valueP s.data.toList)) ∧ w = w' := by
  go_enter Tryd.func36, Tryd.ntmps36
  go_wp2_with fail
  go_loop [3] (fun i => ∃ k : Nat, k ≤ s.size ∧ i = .int .i64 k ∧ Hid ((s.data.toList.take k).all plainB = true)) (fun i => s.size - (RowKit.intOf i).toNat)
  case atStart => exact ⟨0, Nat.zero_le _, rfl, rfl⟩
  case round =>
    obtain ⟨k, hk, rfl, HA⟩ := hrel
    by_cases hlt : k < s.size
    · have hkc : (k : Int) < (s.size : Int) := by omega
      by_cases h32 : (s[k].toNat : Int) < 32
      · have hres : Hid (valueP s.data.toList = false) := by
          show _ = _
          unfold valueP
          rw [all_false hlt (by unfold plainB; simp; omega)]; simp
        go_wp2_with fail
        go_ret
        exact ⟨by rw [hres.out]; rfl, rfl⟩
      · by_cases h126 : 126 < (s[k].toNat : Int)
        · have hres : Hid (valueP s.data.toList = false) := by
            show _ = _
            unfold valueP
            rw [all_false hlt (by unfold plainB; simp; omega)]; simp
          go_wp2_with fail
          go_ret
          exact ⟨by rw [hres.out]; rfl, rfl⟩
        · have hn := Lib.hid (all_next hlt HA.out (by unfold plainB; simp; omega))
          go_wp2_with fail
          go_round
          case rel => exact ⟨k + 1, by omega, by go_num, hn⟩
          case measure => simp [RowKit.intOf]; omega
    · obtain rfl : k = s.size := by omega
      have hall := HA.out
      rw [List.take_of_length_le (by simp)] at hall
      have hl : s.data.toList.length = s.size := by simp
      have hres : Hid (valueP s.data.toList = decide ((s.size : Int) ≤ 400)) := by
        show _ = _
        unfold valueP
        rw [hall, hl, Bool.and_true, Bool.eq_iff_iff]; simp; omega
      clear hall hl
      go_wp2_with fail
      go_ret
      exact ⟨by rw [hres.out]; rfl, rfl⟩
end Go.Proofs.YtkhkdgkafocpoaaDoor
