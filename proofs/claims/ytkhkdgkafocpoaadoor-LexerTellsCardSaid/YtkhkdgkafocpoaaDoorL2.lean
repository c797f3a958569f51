/- The walks of lexer's isSign, gap, Name, isValue. Conditions: the array of signs holds what its text lays; lengths. -/
import Derived.Test.YtkhkdgkafocpoaaDoorL1
namespace Go.Proofs.YtkhkdgkafocpoaaDoor
set_option maxRecDepth 8000
open Go.RowKit

def sgP : List Nat := [40, 41, 44, 59, 58, 61, 60, 43, 45, 42, 47, 123, 125]
def sigV : Array Value := #[.int .u8 40, .int .u8 41, .int .u8 44, .int .u8 59, .int .u8 58, .int .u8 61, .int .u8 60, .int .u8 43, .int .u8 45, .int .u8 42, .int .u8 47, .int .u8 123, .int .u8 125]
/-- The array of signs, as its text lays it. -/
def SigT (w : World) : Prop := ∃ t fr, w.heap[0]? = some (.cells sigV t fr)
theorem SigT.lt {w : World} (h : SigT w) : 0 < w.heap.size := by
  obtain ⟨t, fr, h⟩ := h
  rcases Nat.lt_or_ge 0 w.heap.size with hlt | hge
  · exact hlt
  · rw [Array.getElem?_eq_none hge] at h; cases h
theorem SigT.on {w w' : World} (h : SigT w) (hb : Below w.heap.size w w') : SigT w' := by
  have hlt := h.lt
  obtain ⟨t, fr, h⟩ := h
  exact ⟨t, fr, (hb.block _ hlt).trans h⟩
theorem sig_index (k : Nat) (hk : k < 13) (w : World) : (Instr.index 63 (.agg sigV) (.int .i64 (k : Int))).run Tryd.prog w = .ok (.int .u8 ((sgP.getD k 0 : Nat) : Int)) w := by
  have h : ∀ k : Fin 13, ∀ w, (Instr.index 63 (.agg sigV) (.int .i64 ((k.1 : Nat) : Int))).run Tryd.prog w = .ok (.int .u8 ((sgP.getD k.1 0 : Nat) : Int)) w := by
    intro k w
    match k with
    | ⟨0, _⟩ => (show _ = _; kernel_rfl)
    | ⟨1, _⟩ => (show _ = _; kernel_rfl)
    | ⟨2, _⟩ => (show _ = _; kernel_rfl)
    | ⟨3, _⟩ => (show _ = _; kernel_rfl)
    | ⟨4, _⟩ => (show _ = _; kernel_rfl)
    | ⟨5, _⟩ => (show _ = _; kernel_rfl)
    | ⟨6, _⟩ => (show _ = _; kernel_rfl)
    | ⟨7, _⟩ => (show _ = _; kernel_rfl)
    | ⟨8, _⟩ => (show _ = _; kernel_rfl)
    | ⟨9, _⟩ => (show _ = _; kernel_rfl)
    | ⟨10, _⟩ => (show _ = _; kernel_rfl)
    | ⟨11, _⟩ => (show _ = _; kernel_rfl)
    | ⟨12, _⟩ => (show _ = _; kernel_rfl)
  exact h ⟨k, hk⟩ w
theorem sgP_drop {k : Nat} (hk : k < 13) : sgP.drop k = sgP.getD k 0 :: sgP.drop (k + 1) := by
  have h : ∀ k : Fin 13, sgP.drop k.1 = sgP.getD k.1 0 :: sgP.drop (k.1 + 1) := by decide
  exact h ⟨k, hk⟩
set_option maxHeartbeats 1000000 in
theorem isSign_any (b : UInt8) (w : World) (hS : Hid (SigT w)) :
    Calls Tryd.prog 45 #[.int .u8 (b.toNat : Int)] w fun e w' => e = .returned (.bool (signB b)) ∧ w = w' := by
  obtain ⟨tt, fr, hg1⟩ := hS.out
  clear hS
  have HI := Lib.hid sig_index
  go_enter Tryd.func45, Tryd.ntmps45
  go_wp2_with (refine wpList_load_row rfl 63 _ rfl 0 rfl tt _ fr _ hg1 Tryd.underlying63 rfl (by kernel_rfl) ?_)
  clear hg1
  obtain ⟨sv, hsv⟩ : ∃ sv, sv = sigV := ⟨_, rfl⟩
  rw [← hsv]
  have HV := Lib.hid hsv
  clear hsv
  go_loop [6] (fun i => ∃ k : Nat, k ≤ 13 ∧ i = .int .i64 k ∧ Hid (signB b = (sgP.drop k).contains b.toNat)) (fun i => 13 - (RowKit.intOf i).toNat)
  case atStart => exact ⟨0, Nat.zero_le _, rfl, by show _ = _; rfl⟩
  case round =>
    obtain ⟨k, hk, rfl, HA⟩ := hrel
    by_cases hlt : k < 13
    · have hi := HI.out k hlt w
      rw [← HV.out] at hi
      have hkc : (k : Int) < 13 := by omega
      have hd := sgP_drop hlt
      obtain ⟨c, hc⟩ : ∃ c : Nat, sgP.getD k 0 = c := ⟨_, rfl⟩
      rw [hc] at hi hd
      clear hc
      by_cases hbc : (b.toNat : Int) = (c : Int)
      · have hres : Hid (signB b = true) := by
          show _ = _
          rw [HA.out, hd, List.contains_cons]
          have : b.toNat = c := by omega
          simp [this]
        clear hd
        have hbb : ((b.toNat : Int) == (c : Int)) = true := by simpa using hbc
        clear hbc
        go_wp2_with fail
        go_ret
        exact ⟨by rw [hres.out]; rfl, rfl⟩
      · have hres : Hid (signB b = (sgP.drop (k + 1)).contains b.toNat) := by
          show _ = _
          rw [HA.out, hd, List.contains_cons]
          have : (b.toNat == c) = false := by simpa using (fun h : b.toNat = c => hbc (by omega))
          rw [this]; rfl
        clear hd
        have hbb : ((b.toNat : Int) == (c : Int)) = false := by simpa using hbc
        clear hbc
        go_wp2_with fail
        go_round
        case rel => exact ⟨k + 1, by omega, by go_num, hres⟩
        case measure => simp [RowKit.intOf]; omega
    · obtain rfl : k = 13 := by omega
      have hres : Hid (signB b = false) := by
        show _ = _
        rw [HA.out]; rfl
      go_wp2_with fail
      go_ret
      exact ⟨by rw [hres.out]; rfl, rfl⟩

/-- One step of a gap, as gap's loop takes it. -/
theorem gap_in {b : UInt8} : gapStep true b = some (b.toNat != 10) := rfl
theorem gap_out1 {b : UInt8} (h : b.toNat = 35) : gapStep false b = some true := by simp [gapStep, h]
theorem gap_out2 {b : UInt8} (h : b.toNat ≠ 35) (h2 : blankB b = true) : gapStep false b = some false := by simp [gapStep, h, h2]
theorem gap_out3 {b : UInt8} (h : b.toNat ≠ 35) (h2 : blankB b = false) : gapStep false b = none := by simp [gapStep, h, h2]
set_option maxHeartbeats 2000000 in
theorem gap_any (s : ByteArray) (w : World) (hs : s.size ≤ 1073741824) :
    Calls Tryd.prog 25 #[.string s] w fun e w' => e = .returned (.int .i64 (gapP false s.data.toList : Nat)) ∧ w = w' := by
  go_enter Tryd.func25, Tryd.ntmps25
  go_wp2_with fail
  go_loop [3, 8] (fun c i => ∃ (k : Nat) (d : Bool), k ≤ s.size ∧ c = .bool d ∧ i = .int .i64 k ∧ Hid (gapP false s.data.toList = k + gapP d (s.data.toList.drop k))) (fun _ i => s.size - (RowKit.intOf i).toNat)
  case atStart => exact ⟨0, false, Nat.zero_le _, rfl, rfl, by show _ = _; simp⟩
  case round =>
    obtain ⟨k, d, hk, rfl, rfl, HA⟩ := hrel
    by_cases hlt : k < s.size
    · have hkc : (k : Int) < (s.size : Int) := by omega
      have hd := str_drop hlt
      have hA := HA.out
      rw [hd, gapP] at hA
      clear hd
      cases d
      · by_cases h35 : s[k].toNat = 35
        · rw [gap_out1 h35] at hA
          have hres : Hid (gapP false s.data.toList = (k + 1) + gapP true (s.data.toList.drop (k + 1))) := by
            show _ = _
            rw [hA]; simp only; omega
          have hb1 : ((s[k].toNat : Int) == 35) = true := by simp [h35]
          clear hA h35
          go_wp2_with fail
          go_round
          case rel => exact ⟨k + 1, true, by omega, rfl, by go_num, hres⟩
          case measure => simp [RowKit.intOf]; omega
        · have c := isBlank_any s[k] w
          have hb1 : ((s[k].toNat : Int) == 35) = false := by
            have : (s[k].toNat : Int) ≠ 35 := by omega
            simpa using this
          cases hbl : blankB s[k]
          · rw [gap_out3 h35 hbl] at hA
            have hres : Hid (gapP false s.data.toList = k) := by
              show _ = _
              rw [hA]; rfl
            rw [hbl] at c
            have C := Lib.hid c
            clear c hA hbl h35
            go_wp2_with (go_at_call 41; refine C.out.mono ?_; rintro e w' ⟨rfl, rfl⟩)
            go_ret
            exact ⟨by rw [hres.out]; rfl, rfl⟩
          · rw [gap_out2 h35 hbl] at hA
            have hres : Hid (gapP false s.data.toList = (k + 1) + gapP false (s.data.toList.drop (k + 1))) := by
              show _ = _
              rw [hA]; simp only; omega
            rw [hbl] at c
            have C := Lib.hid c
            clear c hA hbl h35
            go_wp2_with (go_at_call 41; refine C.out.mono ?_; rintro e w' ⟨rfl, rfl⟩)
            go_round
            case rel => exact ⟨k + 1, false, by omega, rfl, by go_num, hres⟩
            case measure => simp [RowKit.intOf]; omega
      · rw [gap_in] at hA
        by_cases h10 : s[k].toNat = 10
        · have hb1 : ((s[k].toNat : Int) != 10) = false := by simp [h10]
          have hres : Hid (gapP false s.data.toList = (k + 1) + gapP false (s.data.toList.drop (k + 1))) := by
            show _ = _
            rw [hA, h10]; simp only; show k + (gapP false _ + 1) = _; omega
          clear hA h10
          go_wp2_with fail
          go_round
          case rel => exact ⟨k + 1, false, by omega, rfl, by go_num, hres⟩
          case measure => simp [RowKit.intOf]; omega
        · have hb1 : ((s[k].toNat : Int) != 10) = true := by
            have : (s[k].toNat : Int) ≠ 10 := by omega
            simpa using this
          have hb2 : (s[k].toNat != 10) = true := by simpa using h10
          have hres : Hid (gapP false s.data.toList = (k + 1) + gapP true (s.data.toList.drop (k + 1))) := by
            show _ = _
            rw [hA, hb2]; simp only; omega
          clear hA h10 hb2
          go_wp2_with fail
          go_round
          case rel => exact ⟨k + 1, true, by omega, rfl, by go_num, hres⟩
          case measure => simp [RowKit.intOf]; omega
    · obtain rfl : k = s.size := by omega
      have hres : Hid (gapP false s.data.toList = s.size) := by
        show _ = _
        rw [HA.out, str_end]; rfl
      go_wp2_with fail
      go_ret
      exact ⟨by rw [hres.out]; rfl, rfl⟩
end Go.Proofs.YtkhkdgkafocpoaaDoor
