/- The walks of the reference's quoted and token. Conditions: lengths. -/
import Derived.Test.YtkhkdgkafocpoaaDoorMc
namespace Go.Proofs.YtkhkdgkafocpoaaDoor
set_option maxRecDepth 20000
open Go.RowKit

/-- How the reference's reader of a quoted string ends. -/
def quotedV (f : First) (k : Nat) : Value := match f with
  | .tok t n => .tuple #[.string ⟨t.text.toArray⟩, .int .i64 ((k + n : Nat) : Int), .bool true]
  | .bad _ => .tuple #[.string ⟨#[]⟩, .int .i64 0, .bool false]
def QuotedEnd (f : First) (k : Nat) (w : World) (e : Ending) (w' : World) : Prop := e = .returned (quotedV f k) ∧ w = w'
theorem QuotedEnd.no {f : First} {k : Nat} {x : Int} {w w' : World} {e : Ending} (h : Hid (f = .bad x)) (he : e = .returned (.tuple #[.string ⟨#[]⟩, .int .i64 0, .bool false])) (hb : w = w') : QuotedEnd f k w e w' := by
  refine ⟨?_, hb⟩
  rw [h.out]; exact he
theorem QuotedEnd.yes {f : First} {k n m : Nat} {u : ByteArray} {w w' : World} {e : Ending} (h : Hid (f = .tok ⟨2, u.data.toList, 0, 0⟩ n)) (hm : k + n = m) (he : e = .returned (.tuple #[.string u, .int .i64 (m : Int), .bool true])) (hb : w = w') : QuotedEnd f k w e w' := by
  refine ⟨?_, hb⟩
  rw [h.out, he, ← hm]; rfl
set_option maxHeartbeats 4000000 in
theorem refQuoted_any (s : ByteArray) (at_ : Nat) (w : World) (hs : s.size ≤ 1073741824) (ha : at_ < s.size) :
    Calls Tryd.prog 46 #[.string s, .int .i64 (at_ : Int)] w (QuotedEnd (quoF (s.data.toList.drop (at_ + 1))) at_ w) := by
  go_enter Tryd.func46, Tryd.ntmps46
  go_wp2_with fail
  go_loop [7, 8] (fun v i => ∃ (k : Nat) (u : ByteArray), at_ + 1 ≤ k ∧ k ≤ s.size ∧ i = .int .i64 k ∧ v = .string u ∧ u.size ≤ k ∧ Hid (∃ m, at_ + 1 + m = k ∧ QuoS (s.data.toList.drop (at_ + 1)) u.data.toList (s.data.toList.drop k) m)) (fun _ i => s.size - (RowKit.intOf i).toNat)
  case atStart => exact ⟨at_ + 1, ⟨#[]⟩, Nat.le_refl _, ha, by go_num, rfl, Nat.zero_le _, ⟨0, rfl, QuoS.start _⟩⟩
  case round =>
    obtain ⟨k, u, hk1, hk, rfl, rfl, hus, HA⟩ := hrel
    by_cases hlt : k < s.size
    · have hkc : (k : Int) < (s.size : Int) := by omega
      have hA := HA.out
      rw [str_drop hlt] at hA
      obtain ⟨m, hmk, hA⟩ := hA
      clear HA
      by_cases h34 : s[k].toNat = 34
      · have hb1 : ((s[k].toNat : Int) != 34) = false := by simp [h34]
        have hcl := hA.close h34
        have cv := refValue_any u w (by omega)
        have hkn : ¬ (s.size : Int) ≤ (k : Int) := by omega
        cases hv : valueP u.data.toList
        · rw [hv] at hcl cv
          have hres : Hid (quoF (s.data.toList.drop (at_ + 1)) = .bad 2) := hcl
          have CV := Lib.hid cv
          clear hA h34 hcl cv hv
          go_wp2_with (go_at_call 36; refine CV.out.mono ?_; rintro e w' ⟨rfl, rfl⟩)
          go_ret3
          exact QuotedEnd.no hres rfl rfl
        · rw [hv] at hcl cv
          have hres : Hid (quoF (s.data.toList.drop (at_ + 1)) = .tok ⟨2, u.data.toList, 0, 0⟩ (m + 2)) := hcl
          have CV := Lib.hid cv
          clear hA h34 hcl cv hv
          go_wp2_with (go_at_call 36; refine CV.out.mono ?_; rintro e w' ⟨rfl, rfl⟩)
          go_ret3
          exact QuotedEnd.yes (m := k + 1) hres (by omega) (by go_num) rfl
      · have hb1 : ((s[k].toNat : Int) != 34) = true := by
          have : (s[k].toNat : Int) ≠ 34 := by omega
          simpa using this
        by_cases h92 : s[k].toNat = 92
        · have hb2 : ((s[k].toNat : Int) == 92) = true := by simp [h92]
          by_cases hend : k + 1 < s.size
          · rw [str_drop hend] at hA
            have hec : (k : Int) + 1 < (s.size : Int) := by omega
            have hes := extract_one_size hend
            have HE := Lib.hid (extract_one hend)
            by_cases hc : s[k + 1].toNat = 34 ∨ s[k + 1].toNat = 92
            · have hnx : Hid (∃ m, at_ + 1 + m = k + 2 ∧ QuoS (s.data.toList.drop (at_ + 1)) (u ++ s.extract (k + 1) (k + 1 + 1)).data.toList (s.data.toList.drop (k + 2)) m) := by
                refine ⟨m + 2, by omega, ?_⟩
                rw [app_toList, HE.out]
                exact hA.esc h92 hc
              have hsz : (u ++ s.extract (k + 1) (k + 1 + 1)).size ≤ k + 2 := by rw [app_size, hes]; omega
              have hes1 : (s.extract (k + 1) (k + 1 + 1)).size ≤ 1 := by omega
              by_cases hc34 : s[k + 1].toNat = 34
              · have hx1 : ((s[k + 1].toNat : Int) != 34) = false := by simp [hc34]
                clear hA hc h34 h92 hmk hc34 hes
                go_wp2_with fail
                go_round
                case rel => exact ⟨k + 2, _, by omega, by omega, by go_num, rfl, hsz, hnx⟩
                case measure => simp [RowKit.intOf]; omega
              · have hc92 : s[k + 1].toNat = 92 := by omega
                have hx1 : ((s[k + 1].toNat : Int) != 34) = true := by simp [hc92]
                have hx2 : ((s[k + 1].toNat : Int) != 92) = false := by simp [hc92]
                clear hA hc h34 h92 hmk hc34 hc92 hes
                go_wp2_with fail
                go_round
                case rel => exact ⟨k + 2, _, by omega, by omega, by go_num, rfl, hsz, hnx⟩
                case measure => simp [RowKit.intOf]; omega
            · have hres := Lib.hid (hA.wrong h92 (fun h => hc (.inl h)) (fun h => hc (.inr h)))
              have hx1 : ((s[k + 1].toNat : Int) != 34) = true := by
                have : (s[k + 1].toNat : Int) ≠ 34 := by have : s[k + 1].toNat ≠ 34 := fun h => hc (.inl h)
                                                         omega
                simpa using this
              have hx2 : ((s[k + 1].toNat : Int) != 92) = true := by
                have : (s[k + 1].toNat : Int) ≠ 92 := by have : s[k + 1].toNat ≠ 92 := fun h => hc (.inr h)
                                                         omega
                simpa using this
              clear hA hc h34 h92 hmk hes
              go_wp2_with fail
              go_ret3
              exact QuotedEnd.no hres rfl rfl
          · have hke : k + 1 = s.size := by omega
            have hres : Hid (quoF (s.data.toList.drop (at_ + 1)) = .bad 2) := by
              have e : s.data.toList.drop (k + 1) = [] := by rw [hke]; exact str_end
              rw [e] at hA
              exact hA.end1 h92
            have hee : (s.size : Int) ≤ (k : Int) + 1 := by omega
            clear hA h34 h92 hmk hke
            go_wp2_with fail
            go_ret3
            exact QuotedEnd.no hres rfl rfl
        · have hb2 : ((s[k].toNat : Int) == 92) = false := by
            have : (s[k].toNat : Int) ≠ 92 := by omega
            simpa using this
          have hes := extract_one_size hlt
          have HE := Lib.hid (extract_one hlt)
          have hnx : Hid (∃ m, at_ + 1 + m = k + 1 ∧ QuoS (s.data.toList.drop (at_ + 1)) (u ++ s.extract k (k + 1)).data.toList (s.data.toList.drop (k + 1)) m) := by
            refine ⟨m + 1, by omega, ?_⟩
            rw [app_toList, HE.out]
            exact hA.plain h34 h92
          have hsz : (u ++ s.extract k (k + 1)).size ≤ k + 1 := by rw [app_size, hes]; omega
          have hes1 : (s.extract k (k + 1)).size ≤ 1 := by omega
          clear hA h34 h92 hmk hes
          go_wp2_with fail
          go_round
          case rel => exact ⟨k + 1, _, by omega, by omega, by go_num, rfl, hsz, hnx⟩
          case measure => simp [RowKit.intOf]; omega
    · obtain rfl : k = s.size := by omega
      have hres : Hid (quoF (s.data.toList.drop (at_ + 1)) = .bad 2) := by
        obtain ⟨m, _, hA⟩ := HA.out
        rw [str_end] at hA
        exact hA.end_
      go_wp2_with fail
      go_ret3
      exact QuotedEnd.no hres rfl rfl
end Go.Proofs.YtkhkdgkafocpoaaDoor
