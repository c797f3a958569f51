/- The walks of the reference reader's Num, Int and Text. -/
import Derived.Test.YtkkaancpokahcaaDoorRq2
namespace Go.Proofs.YtkkaancpokahcaaDoor
open Go.RowKit Go.Lib

theorem ahead_dig {c : UInt8} (hc : isDig c = false) (h45 : c ≠ 45) {l : List UInt8} {n : Nat} {r : List UInt8} (h : digP c 9223372036854775807 l = some (n, r)) : aheadP c l = some ((n : Int), r) := by
  obtain ⟨h1, h2⟩ := (digP_some hc).1 h
  exact (aheadP_some hc h45).2 ⟨⟨by omega, by omega⟩, by rw [itoa_nonneg]; exact h2⟩
theorem dig_ahead {c : UInt8} (hc : isDig c = false) (h45 : c ≠ 45) {l : List UInt8} {v : Int} {r : List UInt8} (h : aheadP c l = some (v, r)) (hv : 0 ≤ v) : digP c 9223372036854775807 l = some (v.toNat, r) := by
  obtain ⟨⟨_, h1⟩, h2⟩ := (aheadP_some hc h45).1 h
  refine (digP_some hc).2 ⟨by omega, ?_⟩
  have : itoa v = decDigits v.toNat := by rw [← itoa_nonneg, Int.toNat_of_nonneg hv]
  rw [h2, this]
theorem dig_ahead_no {c : UInt8} (hc : isDig c = false) (h45 : c ≠ 45) {l : List UInt8} (h : ∀ v r, aheadP c l = some (v, r) → v < 0) : digP c 9223372036854775807 l = none := by
  cases hd : digP c 9223372036854775807 l with
  | none => rfl
  | some p =>
    obtain ⟨n, r⟩ := p
    have := h _ _ (ahead_dig hc h45 hd)
    omega

theorem ahead_int (l : List UInt8) : aheadP 59 l = intP l := by
  have hi := int_codec l
  have ha := @aheadP_some 59 (by decide) (by decide) l
  have key : ∀ v r, aheadP 59 l = some (v, r) ↔ intP l = some (v, r) := fun v r => by
    rw [ha, hi]
    unfold wInt
    rw [List.append_assoc]
    rfl
  cases h : intP l with
  | some p => exact (key p.1 p.2).2 h
  | none =>
    cases h' : aheadP 59 l with
    | none => rfl
    | some p => rw [(key p.1 p.2).1 h'] at h; cases h

set_option maxHeartbeats 400000 in
theorem qnumber (b : Nat) (s : ByteArray) (f : Bool) (c : UInt8) (ci : Int) (w : World) (h : Rq w b s f) (hff : f = true → s.data.toList = []) (hci : ci = (c.toNat : Int)) (hc : isDig c = false) (h45 : c ≠ 45) (hs : s.size ≤ 9223372036854775806) :
    Calls Tryd.prog 49 #[.pointer (some ⟨b, 0, none⟩), .int .u8 ci] w (QEnd (fun n : Nat => .int .i64 (n : Int)) (.int .i64 0) b w (digP c 9223372036854775807 s.data.toList)) := by
  subst hci
  have HFF := Lib.hid hff
  have HC := Lib.hid hc
  clear hff hc
  go_enter Tryd.func49, Tryd.ntmps49
  go_wp2_with fail
  refine (qahead b s f c _ _ h HFF.out rfl HC.out h45 hs).mono ?_
  intro e w1 hd
  cases ho : aheadP c s.data.toList with
  | none =>
    rw [ho] at hd
    obtain ⟨rfl, h1, g1⟩ := hd
    have HN := Lib.hid (dig_ahead_no HC.out h45 fun v r h => by rw [ho] at h; cases h)
    clear ho
    go_wp2
    go_ret
    rw [HN.out]
    exact ⟨rfl, h1, g1⟩
  | some o =>
    obtain ⟨v, r⟩ := o
    rw [ho] at hd
    obtain ⟨rfl, h1, g1⟩ := hd
    obtain ⟨⟨v0, v1⟩, _⟩ := (aheadP_some HC.out h45).1 ho
    by_cases hv : v < 0
    · have HN := Lib.hid (dig_ahead_no HC.out h45 fun v' r' h' => by rw [ho] at h'; cases h'; exact hv)
      clear ho
      go_wp2_with (go_at_call 54; refine (qfail b _ false _ h1).mono ?_; rintro e w' ⟨rfl, h2, g2⟩)
      go_ret
      exact QEnd.no HN.out rfl h2 (g1.trans g2)
    · have HN := Lib.hid (dig_ahead HC.out h45 ho (by omega))
      clear ho
      go_wp2
      go_ret
      rw [HN.out]
      refine ⟨?_, h1, g1⟩
      show Ending.returned (.int .i64 v) = .returned (.int .i64 ((v.toNat : Nat) : Int))
      rw [Int.toNat_of_nonneg (by omega)]

set_option maxHeartbeats 400000 in
theorem qnum (b : Nat) (s : ByteArray) (f : Bool) (w : World) (h : Rq w b s f) (hff : f = true → s.data.toList = []) (hs : s.size ≤ 9223372036854775806) :
    Calls Tryd.prog 25 #[.pointer (some ⟨b, 0, none⟩)] w (QEnd (fun n : Nat => .int .i64 (n : Int)) (.int .i64 0) b w (numP s.data.toList)) := by
  have HFF := Lib.hid hff
  clear hff
  go_enter Tryd.func25, Tryd.ntmps25
  go_wp2_with fail
  refine (qnumber b s f 59 _ _ h HFF.out rfl (by decide) (by decide) hs).mono ?_
  intro e w1 hd
  cases ho : digP 59 9223372036854775807 s.data.toList with
  | none =>
    rw [ho] at hd
    obtain ⟨rfl, h1, g1⟩ := hd
    have HN := Lib.hid (show numP s.data.toList = none from ho)
    clear ho
    go_wp2
    go_ret
    rw [HN.out]
    exact ⟨rfl, h1, g1⟩
  | some o =>
    obtain ⟨v, r⟩ := o
    rw [ho] at hd
    obtain ⟨rfl, h1, g1⟩ := hd
    have HN := Lib.hid (show numP s.data.toList = some (v, r) from ho)
    clear ho
    go_wp2
    go_ret
    rw [HN.out]
    exact ⟨rfl, h1, g1⟩

set_option maxHeartbeats 400000 in
theorem qint (b : Nat) (s : ByteArray) (f : Bool) (w : World) (h : Rq w b s f) (hff : f = true → s.data.toList = []) (hs : s.size ≤ 9223372036854775806) :
    Calls Tryd.prog 27 #[.pointer (some ⟨b, 0, none⟩)] w (QEnd (fun n : Int => .int .i64 n) (.int .i64 0) b w (intP s.data.toList)) := by
  have HFF := Lib.hid hff
  clear hff
  go_enter Tryd.func27, Tryd.ntmps27
  go_wp2_with fail
  refine (qahead b s f 59 _ _ h HFF.out rfl (by decide) (by decide) hs).mono ?_
  intro e w1 hd
  rw [ahead_int] at hd
  cases ho : intP s.data.toList with
  | none =>
    rw [ho] at hd
    obtain ⟨rfl, h1, g1⟩ := hd
    have HN := Lib.hid ho
    clear ho
    go_wp2
    go_ret
    rw [HN.out]
    exact ⟨rfl, h1, g1⟩
  | some o =>
    obtain ⟨v, r⟩ := o
    rw [ho] at hd
    obtain ⟨rfl, h1, g1⟩ := hd
    have HN := Lib.hid ho
    clear ho
    go_wp2
    go_ret
    rw [HN.out]
    exact ⟨rfl, h1, g1⟩

set_option maxHeartbeats 400000 in
theorem qtext (b : Nat) (s : ByteArray) (f : Bool) (w : World) (h : Rq w b s f) (hff : f = true → s.data.toList = []) (hs : s.size ≤ 9223372036854775806) :
    Calls Tryd.prog 29 #[.pointer (some ⟨b, 0, none⟩)] w (QEnd (fun l : List UInt8 => .string ⟨l.toArray⟩) (.string ⟨#[]⟩) b w (textP s.data.toList)) := by
  have HFF := Lib.hid hff
  clear hff
  go_enter Tryd.func29, Tryd.ntmps29
  go_wp2_with fail
  refine (qnumber b s f 58 _ _ h HFF.out rfl (by decide) (by decide) hs).mono ?_
  intro e w1 hd
  cases ho : digP 58 9223372036854775807 s.data.toList with
  | none =>
    rw [ho] at hd
    obtain ⟨rfl, h1, g1⟩ := hd
    have HN := Lib.hid (text_none ho)
    clear ho
    obtain ⟨t, ht, h1⟩ := h1.ex
    have c10 := h1.c0
    have c11 := h1.c1
    go_wp2_with (go_at_call 54; refine (qfail b _ _ _ h1).mono ?_; rintro e w2 ⟨rfl, h2, g2⟩)
    go_ret
    exact QEnd.no HN.out rfl h2 (g1.trans g2)
  | some o =>
    obtain ⟨n, r⟩ := o
    rw [ho] at hd
    obtain ⟨rfl, h1, g1⟩ := hd
    have hn0 : n ≤ 9223372036854775807 := ((digP_some (by decide)).1 ho).1
    have ht0 : r.length ≤ 9223372036854775806 := by
      have h1 := ((digP_some (by decide)).1 ho).2
      have h2 := congrArg List.length h1
      rw [len_eq] at h2
      simp at h2
      omega
    obtain ⟨t, ht, h1⟩ := h1.ex
    have hte : t.size = r.length := by rw [Lib.size_eq, ht]
    have c10 := h1.c0
    have c11 := h1.c1
    have f10 := h1.fz 0
    by_cases hl : r.length ≤ n
    · have hln : t.size ≤ n := by omega
      have htm : t.size ≤ 9223372036854775806 := by omega
      have HN := Lib.hid (show textP s.data.toList = none by
        by_cases hl' : r.length < n
        · exact text_short ho hl'
        · exact text_bad ho (by rw [List.drop_of_length_le (by omega)]; simp))
      clear ho hte hl ht0
      go_wp2_with (go_at_call 54; refine (qfail b _ _ _ h1).mono ?_; rintro e w2 ⟨rfl, h2, g2⟩)
      go_ret
      exact QEnd.no HN.out rfl h2 (g1.trans g2)
    · have hln : n < t.size := by omega
      have htm : t.size ≤ 9223372036854775806 := by omega
      have hR := h1.set0 (t.extract n t.size)
      have HT := Lib.hid ht
      by_cases hm : (r.drop n).head? = some 44
      · have HG := Lib.hid (text_good ho (by omega) hm)
        have HP := Lib.hid (show (t.extract n t.size).data.toList.head? = some 44 by rw [ext_list, ht]; exact hm)
        clear ho ht hm hte hl ht0
        go_wp2_with (go_at_call 55; refine (qclose_yes b _ _ 44 44 _ hR (by decide) HP.out).mono ?_; rintro e w2 ⟨rfl, h2, g2⟩)
        go_ret
        rw [HG.out]
        exact ⟨ret_str (by rw [Lib.extract_from_zero, HT.out]), RqL.to h2 (by rw [ext_list, ext_list, HT.out, List.drop_one]), (g1.trans (only_set (World.grownBy.refl _ _) 0 _)).trans g2⟩
      · have HG := Lib.hid (text_bad ho hm)
        have HP := Lib.hid (show (t.extract n t.size).data.toList.head? ≠ some 44 by rw [ext_list, ht]; exact hm)
        clear ho ht hm hte hl ht0
        go_wp2_with (go_at_call 55; refine (qclose_no b _ _ 44 44 _ hR (by decide) HP.out).mono ?_; rintro e w2 ⟨rfl, h2, g2⟩)
        go_ret
        exact QEnd.no HG.out rfl h2 ((g1.trans (only_set (World.grownBy.refl _ _) 0 _)).trans g2)

end Go.Proofs.YtkkaancpokahcaaDoor
