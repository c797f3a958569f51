/- The walks of the reference's Name, Number, Quote. Conditions: lengths. -/
import Derived.Test.YtkhkdgkafocpoaaDoorMb
namespace Go.Proofs.YtkhkdgkafocpoaaDoor
set_option maxRecDepth 20000
open Go.RowKit

theorem name_head {s : ByteArray} (h : 0 < s.size) : nameP s.data.toList = (letB s[0] && decide ((s.size : Int) ≤ 20) && s.data.toList.all nameB) := by
  unfold nameP
  rw [head_of h, show s.data.toList.length = s.size by simp]
  have : decide (s.size ≤ 20) = decide ((s.size : Int) ≤ 20) := by rw [Bool.eq_iff_iff]; simp; omega
  rw [this]; simp
set_option maxHeartbeats 2000000 in
theorem refName_any (s : ByteArray) (w : World) (hs : s.size ≤ 1073741824) :
    Calls Tryd.prog 19 #[.string s] w fun e w' => e = .returned (.bool (nameP s.data.toList)) ∧ w = w' := by
  by_cases h0 : 0 < s.size
  · have hnh := name_head h0
    have h0c : (1 : Int) ≤ (s.size : Int) := by omega
    by_cases h20 : (s.size : Int) ≤ 20
    · have c1 := refLetter_any s[0] w
      cases hlb : letB s[0]
      · have hres : Hid (nameP s.data.toList = false) := by
          show _ = _
          rw [hnh, hlb]; rfl
        rw [hlb] at c1
        have C1 := Lib.hid c1
        clear c1 hlb hnh
        go_enter Tryd.func19, Tryd.ntmps19
        go_wp2_with (go_at_call 39; refine C1.out.mono ?_; rintro e w' ⟨rfl, rfl⟩)
        go_ret
        exact ⟨ret_bool (by rw [hres.out]), rfl⟩
      · have hst : Hid (nameP s.data.toList = s.data.toList.all nameB) := by
          show _ = _
          rw [hnh, hlb, decide_eq_true h20]; rfl
        have h1 : Hid ((s.data.toList.take 1).all nameB = true) := by
          show _ = _
          rw [take_snoc h0]
          simp [(letB_facts hlb).1]
        rw [hlb] at c1
        have C1 := Lib.hid c1
        clear c1 hlb hnh
        go_enter Tryd.func19, Tryd.ntmps19
        go_wp2_with (go_at_call 39; refine C1.out.mono ?_; rintro e w' ⟨rfl, rfl⟩)
        go_loop [3] (fun i => ∃ k : Nat, 1 ≤ k ∧ k ≤ s.size ∧ i = .int .i64 k ∧ Hid ((s.data.toList.take k).all nameB = true)) (fun i => s.size - (RowKit.intOf i).toNat)
        case atStart => exact ⟨1, Nat.le_refl _, h0, rfl, h1.out⟩
        case round =>
          clear h1 C1
          obtain ⟨k, hk1, hk, rfl, HA⟩ := hrel
          by_cases hlt : k < s.size
          · have hkc : (k : Int) < (s.size : Int) := by omega
            have d1 := refLetter_any s[k] w
            have d2 := refDigit_any s[k] w
            cases hb : letB s[k]
            · rw [hb] at d1
              have D1 := Lib.hid d1
              cases hd : digB s[k]
              · rw [hd] at d2
                have D2 := Lib.hid d2
                by_cases h95 : s[k].toNat = 95
                · have hbb : ((s[k].toNat : Int) != 95) = false := by simp [h95]
                  have hn := Lib.hid (all_next hlt HA.out (by unfold nameB; simp [h95]))
                  clear d1 d2 hb hd h95
                  go_wp2_with (first | (go_at_call 39; refine D1.out.mono ?_; rintro e w' ⟨rfl, rfl⟩) | (go_at_call 33; refine D2.out.mono ?_; rintro e w' ⟨rfl, rfl⟩))
                  go_round
                  case rel => exact ⟨k + 1, by omega, by omega, by go_num, hn⟩
                  case measure => simp [RowKit.intOf]; omega
                · have hbb : ((s[k].toNat : Int) != 95) = true := by
                    have : (s[k].toNat : Int) ≠ 95 := by omega
                    simpa using this
                  have hres : Hid (nameP s.data.toList = false) := by
                    show _ = _
                    rw [hst.out, all_false hlt (by unfold nameB; rw [hb, hd]; simpa using h95)]
                  clear d1 d2 hb hd h95
                  go_wp2_with (first | (go_at_call 39; refine D1.out.mono ?_; rintro e w' ⟨rfl, rfl⟩) | (go_at_call 33; refine D2.out.mono ?_; rintro e w' ⟨rfl, rfl⟩))
                  go_ret
                  exact ⟨by rw [hres.out]; rfl, rfl⟩
              · rw [hd] at d2
                have D2 := Lib.hid d2
                have hn := Lib.hid (all_next hlt HA.out (by unfold nameB; rw [hd]; simp))
                clear d1 d2 hb hd
                go_wp2_with (first | (go_at_call 39; refine D1.out.mono ?_; rintro e w' ⟨rfl, rfl⟩) | (go_at_call 33; refine D2.out.mono ?_; rintro e w' ⟨rfl, rfl⟩))
                go_round
                case rel => exact ⟨k + 1, by omega, by omega, by go_num, hn⟩
                case measure => simp [RowKit.intOf]; omega
            · rw [hb] at d1
              have D1 := Lib.hid d1
              have hn := Lib.hid (all_next hlt HA.out (by unfold nameB; rw [hb]; simp))
              clear d1 d2 hb
              go_wp2_with (go_at_call 39; refine D1.out.mono ?_; rintro e w' ⟨rfl, rfl⟩)
              go_round
              case rel => exact ⟨k + 1, by omega, by omega, by go_num, hn⟩
              case measure => simp [RowKit.intOf]; omega
          · obtain rfl : k = s.size := by omega
            have hres : Hid (nameP s.data.toList = true) := by
              show _ = _
              have h := HA.out
              rw [List.take_of_length_le (by simp)] at h
              rw [hst.out, h]
            go_wp2_with fail
            go_ret
            exact ⟨by rw [hres.out]; rfl, rfl⟩
    · have hres : Hid (nameP s.data.toList = false) := by
        show _ = _
        rw [hnh, decide_eq_false h20]; simp
      have hdec : (20 : Int) < (s.size : Int) := by omega
      clear hnh h20
      go_enter Tryd.func19, Tryd.ntmps19
      go_wp2_with fail
      go_ret
      exact ⟨ret_bool (by rw [hres.out]), rfl⟩
  · have he : s.data.toList = [] := List.eq_nil_of_length_eq_zero (by rw [show s.data.toList.length = s.size by simp]; omega)
    have hres : Hid (nameP s.data.toList = false) := by
      show _ = _
      rw [he]; rfl
    have hz : (s.size : Int) < 1 := by omega
    clear he
    go_enter Tryd.func19, Tryd.ntmps19
    go_wp2_with fail
    go_ret
    exact ⟨ret_bool (by rw [hres.out]), rfl⟩
/-- The same as NumEnd, where nothing is made. -/
def NumSame (l : List UInt8) (w : World) (e : Ending) (w' : World) : Prop :=
  e = .returned (match numP l with | some n => .tuple #[.int .i64 (n : Int), .bool true] | none => .tuple #[.int .i64 0, .bool false]) ∧ w = w'
theorem NumSame.no {l : List UInt8} {w w' : World} {e : Ending} (h : Hid (numP l = none)) (he : e = .returned (.tuple #[.int .i64 0, .bool false])) (hb : w = w') : NumSame l w e w' := by
  refine ⟨?_, hb⟩
  rw [h.out]; exact he
theorem NumSame.yes {l : List UInt8} {w w' : World} {e : Ending} {n : Nat} (h : Hid (numP l = some n)) (he : e = .returned (.tuple #[.int .i64 (n : Int), .bool true])) (hb : w = w') : NumSame l w e w' := by
  refine ⟨?_, hb⟩
  rw [h.out]; exact he
theorem valD_snoc (l : List UInt8) (b : UInt8) : valD (l ++ [b]) = 10 * valD l + (b.toNat - 48) := by
  unfold valD; rw [List.foldl_append]; rfl
theorem valD_app (a b : List UInt8) : valD a ≤ valD (a ++ b) := by
  unfold valD; rw [List.foldl_append]; exact valD_ge b _
theorem num_big {s : ByteArray} {k : Nat} (h : 1099511627776 < valD (s.data.toList.take k)) : numP s.data.toList = none := by
  unfold numP
  rw [if_neg]
  intro hc
  have h1 := valD_app (s.data.toList.take k) (s.data.toList.drop k)
  rw [List.take_append_drop] at h1
  omega
set_option maxHeartbeats 2000000 in
theorem refNumber_any (s : ByteArray) (w : World) (hs : s.size ≤ 1073741824) :
    Calls Tryd.prog 14 #[.string s] w (NumSame s.data.toList w) := by
  go_enter Tryd.func14, Tryd.ntmps14
  go_wp2_with fail
  go_loop [4, 5] (fun n i => ∃ (k v : Nat), k ≤ s.size ∧ i = .int .i64 k ∧ n = .int .i64 v ∧ v ≤ 10995116277769 ∧ Hid (v = valD (s.data.toList.take k)) ∧ Hid ((s.data.toList.take k).all digB = true)) (fun _ i => s.size - (RowKit.intOf i).toNat)
  case atStart => exact ⟨0, 0, Nat.zero_le _, rfl, rfl, by omega, rfl, rfl⟩
  case round =>
    obtain ⟨k, v, hk, rfl, rfl, hv, HV, HA⟩ := hrel
    by_cases hlt : k < s.size
    · have hkc : (k : Int) < (s.size : Int) := by omega
      have d := refDigit_any s[k] w
      cases hd : digB s[k]
      · rw [hd] at d
        have D := Lib.hid d
        have hres := Lib.hid (num_bad (all_false hlt hd))
        clear d hd
        go_wp2_with (go_at_call 33; refine D.out.mono ?_; rintro e w' ⟨rfl, rfl⟩)
        go_ret2
        exact NumSame.no hres rfl rfl
      · rw [hd] at d
        have D := Lib.hid d
        by_cases hbig : (1099511627776 : Int) < (v : Int)
        · have hres : Hid (numP s.data.toList = none) := num_big (k := k) (by rw [← HV.out]; omega)
          clear d hd
          go_wp2_with (go_at_call 33; refine D.out.mono ?_; rintro e w' ⟨rfl, rfl⟩)
          go_ret2
          exact NumSame.no hres rfl rfl
        · have hdd : 48 ≤ s[k].toNat ∧ s[k].toNat ≤ 57 := by simpa [digB] using hd
          have hn := Lib.hid (all_next hlt HA.out hd)
          have hnv : Hid (10 * v + s[k].toNat - 48 = valD (s.data.toList.take (k + 1))) := by
            show _ = _
            rw [take_snoc hlt, valD_snoc, ← HV.out]; omega
          have hd1 : 48 ≤ (s[k].toNat : Int) := by omega
          have hd2 : (s[k].toNat : Int) ≤ 57 := by omega
          have hcast : (10 * (v : Int) + (s[k].toNat : Int) - 48) = ((10 * v + s[k].toNat - 48 : Nat) : Int) := by omega
          have HC := Lib.hid hcast
          have hv2 : 10 * v + s[k].toNat - 48 ≤ 10995116277769 := by omega
          clear d hd hdd hcast
          go_wp2_with (go_at_call 33; refine D.out.mono ?_; rintro e w' ⟨rfl, rfl⟩)
          go_round
          case rel => exact ⟨k + 1, 10 * v + s[k].toNat - 48, by omega, by go_num, by rw [← HC.out], hv2, hnv, hn⟩
          case measure => simp [RowKit.intOf]; omega
    · obtain rfl : k = s.size := by omega
      have hvl : v = valD s.data.toList := by rw [HV.out, List.take_of_length_le (by simp)]
      have hall : s.data.toList.all digB = true := by have h := HA.out; rwa [List.take_of_length_le (by simp)] at h
      have hl : s.data.toList.length = s.size := by simp
      by_cases h0 : 0 < s.size
      · have hne : s.data.toList ≠ [] := by intro e; rw [e] at hl; simp at hl; omega
        have hh := head_of h0
        by_cases h1 : s.size = 1
        · have h2 : s.data.toList = [48] ∨ s.data.toList.head? ≠ some 48 := by
            by_cases e : s[0] = 48
            · refine .inl ?_
              have e2 := str_drop h0
              rw [List.drop_zero, List.drop_eq_nil_of_le (by omega)] at e2
              rw [e2, e]
            · refine .inr ?_
              rw [hh]; simpa using e
          have hns := num_some hne hall h2
          rw [← hvl] at hns
          have h1a : (1 : Int) ≤ (s.size : Int) := by omega
          have h1b : (s.size : Int) ≤ 1 := by omega
          by_cases hm : v ≤ 1099511627776
          · rw [if_pos hm] at hns
            have hres := Lib.hid hns
            have hmc : (v : Int) ≤ 1099511627776 := by omega
            clear hns hvl hall hl hne hh h2 h1
            go_wp2_with fail
            go_ret2
            exact NumSame.yes hres rfl rfl
          · rw [if_neg hm] at hns
            have hres := Lib.hid hns
            have hmc : (1099511627776 : Int) < (v : Int) := by omega
            clear hns hvl hall hl hne hh h2 h1
            go_wp2_with fail
            go_ret2
            exact NumSame.no hres rfl rfl
        · have h1a : (1 : Int) < (s.size : Int) := by omega
          by_cases e : s[0].toNat = 48
          · have hb : ((s[0].toNat : Int) == 48) = true := by simp [e]
            have e2 : s[0] = 48 := UInt8.toNat_inj.1 e
            have hres : Hid (numP s.data.toList = none) := num_zero (by intro h; rw [h] at hl; simp at hl; omega) (by rw [hh, e2])
            clear hvl hall hl hne hh e e2 h1
            go_wp2_with fail
            go_ret2
            exact NumSame.no hres rfl rfl
          · have hb : ((s[0].toNat : Int) == 48) = false := by
              have : (s[0].toNat : Int) ≠ 48 := by omega
              simpa using this
            have hns := num_some hne hall (.inr (by rw [hh]; intro h; injection h with h; exact e (by rw [h]; rfl)))
            rw [← hvl] at hns
            by_cases hm : v ≤ 1099511627776
            · rw [if_pos hm] at hns
              have hres := Lib.hid hns
              have hmc : (v : Int) ≤ 1099511627776 := by omega
              clear hns hvl hall hl hne hh e h1
              go_wp2_with fail
              go_ret2
              exact NumSame.yes hres rfl rfl
            · rw [if_neg hm] at hns
              have hres := Lib.hid hns
              have hmc : (1099511627776 : Int) < (v : Int) := by omega
              clear hns hvl hall hl hne hh e h1
              go_wp2_with fail
              go_ret2
              exact NumSame.no hres rfl rfl
      · have he : s.data.toList = [] := List.eq_nil_of_length_eq_zero (by rw [hl]; omega)
        have hres : Hid (numP s.data.toList = none) := by
          show _ = _
          rw [he]; rfl
        have hz : (s.size : Int) < 1 := by omega
        clear hvl hall hl he
        go_wp2_with fail
        go_ret2
        exact NumSame.no hres rfl rfl
def quoteV (l : List UInt8) : Value := if valueP l then .tuple #[.string ⟨(quoP l).toArray⟩, .bool true] else .tuple #[.string ⟨#[]⟩, .bool false]
set_option maxHeartbeats 1000000 in
theorem refQuote_any (s : ByteArray) (w : World) (hs : s.size ≤ 268435456) :
    Calls Tryd.prog 16 #[.string s] w fun e w' => e = .returned (quoteV s.data.toList) ∧ w = w' := by
  have c1 := refValue_any s w (by omega)
  cases hv : valueP s.data.toList
  · have HV := Lib.hid hv
    rw [hv] at c1
    have C1 := Lib.hid c1
    clear c1 hv
    go_enter Tryd.func16, Tryd.ntmps16
    go_wp2_with (go_at_call 36; refine C1.out.mono ?_; rintro e w' ⟨rfl, rfl⟩)
    go_ret2
    exact ⟨by rw [quoteV, HV.out]; rfl, rfl⟩
  · have HV := Lib.hid hv
    rw [hv] at c1
    have C1 := Lib.hid c1
    have C2 := Lib.hid (Escaped_any s w (by omega))
    clear c1 hv
    go_enter Tryd.func16, Tryd.ntmps16
    go_wp2_with (first | (go_at_call 36; refine C1.out.mono ?_; rintro e w' ⟨rfl, rfl⟩) | (go_at_call 23; refine C2.out.mono ?_; rintro e w' ⟨rfl, rfl⟩))
    go_ret2
    exact ⟨by rw [quoteV, HV.out]; rfl, rfl⟩
end Go.Proofs.YtkhkdgkafocpoaaDoor
