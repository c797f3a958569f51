/- The walk of the reader's digits: exactly a decimal numeral and the byte after it are read. -/
import Derived.Test.YtjlndgkahmcfdaaDoorRd0
import Derived.Test.YtjlndgkahmcfdaaDoorPure
import Derived.LoopTactic
namespace Go.Proofs.YtjlndgkahmcfdaaDoor
set_option maxRecDepth 8000
open Go.RowKit

/-- Block b is a reader with the bytes l left, that has not failed (or has). -/
def RdL (w : World) (b : Nat) (l : List UInt8) (f : Bool) : Prop := Rd w b ⟨l.toArray⟩ f
theorem RdL.of {w : World} {b : Nat} {s : ByteArray} {f : Bool} (h : Rd w b s f) : RdL w b s.data.toList f := by
  unfold RdL
  cases s
  simpa using h

theorem str_of {s : ByteArray} {l : List UInt8} (h : s.data.toList = l) : s = ⟨l.toArray⟩ := by
  subst h
  cases s
  simp
theorem RdL.to {w : World} {b : Nat} {s : ByteArray} {l : List UInt8} {f : Bool} (h : Rd w b s f) (hl : s.data.toList = l) : RdL w b l f := by
  subst hl
  exact RdL.of h
theorem ret_str {s : ByteArray} {l : List UInt8} (h : s.data.toList = l) : Ending.returned (.string s) = .returned (.string ⟨l.toArray⟩) := by rw [← str_of h]

/-- How a call that reads digits ends. -/
def DigEnd (b : Nat) (w : World) (o : Option (Nat × List UInt8)) (e : Ending) (w' : World) : Prop :=
  match o with
  | some (n, r) => e = .returned (.int .i64 (wrap64 (n : Int))) ∧ RdL w' b r false ∧ w.grownBy w' (some b)
  | none => e = .returned (.int .i64 0) ∧ RdL w' b [] true ∧ w.grownBy w' (some b)

theorem DigEnd.no {b : Nat} {w : World} {o : Option (Nat × List UInt8)} {e : Ending} {w' : World} (ho : o = none) (he : e = .returned (.int .i64 0)) (h : Rd w' b ⟨#[]⟩ true) (hg : w.grownBy w' (some b)) : DigEnd b w o e w' := by
  subst ho
  exact ⟨he, h, hg⟩

theorem take_snoc {s : ByteArray} {k : Nat} (h : k < s.size) : s.data.toList.take (k + 1) = s.data.toList.take k ++ [s[k]] := by
  rw [List.take_succ_eq_append_getElem (by simpa using h)]; rfl
theorem len_eq (s : ByteArray) : s.data.toList.length = s.size := (Lib.size_eq s).symm
theorem at_ {s : ByteArray} {k : Nat} (h : k < s.size) : s.data.toList[k]? = some s[k] := by
  rw [List.getElem?_eq_getElem (by rw [len_eq]; exact h)]; rfl
theorem ext_list (s : ByteArray) (k : Nat) : (s.extract k s.size).data.toList = s.data.toList.drop k := by
  rw [Lib.extract_data, List.take_of_length_le (by rw [List.length_drop, len_eq]; exact Nat.le_refl _)]
theorem byte_48 {c : UInt8} (h : ((c.toNat : Int) == 48) = true) : c = 48 := by
  have h1 : (c.toNat : Int) = 48 := by simpa using h
  apply UInt8.toNat_inj.1
  show c.toNat = 48
  omega
theorem dig_int {c : UInt8} (h1 : 48 ≤ (c.toNat : Int)) (h2 : (c.toNat : Int) ≤ 57) : isDig c = true := by
  unfold isDig
  exact decide_eq_true ⟨by omega, by omega⟩
theorem dig_not {c : UInt8} (h : (c.toNat : Int) < 48 ∨ 57 < (c.toNat : Int)) : isDig c = false := by
  unfold isDig
  exact decide_eq_false (by omega)

theorem big_end {s : ByteArray} {k a : Nat} {c : UInt8} {m : Int} (hlt : k < s.size) (ha : a = val (s.data.toList.take k)) (hd : (s.data.toList.take k).all isDig = true)
    (hd1 : 48 ≤ (s[k].toNat : Int)) (hd2 : (s[k].toNat : Int) ≤ 57) (hm : 9 ≤ m) (h : (m - ((s[k].toNat : Int) - 48)) / 10 < (a : Int)) : digP c m.toNat s.data.toList = none := by
  refine digP_none_big (k := k + 1) (by rw [len_eq]; omega) ?_ ?_
  · rw [take_snoc hlt, List.all_append, hd]
    simp [dig_int hd1 hd2]
  · rw [take_snoc hlt, val_snoc, ← ha]
    omega
theorem rel_end {s : ByteArray} {k a : Nat} {m : Int} (hlt : k < s.size) (ha : a = val (s.data.toList.take k)) (hd : (s.data.toList.take k).all isDig = true)
    (hd1 : 48 ≤ (s[k].toNat : Int)) (hd2 : (s[k].toNat : Int) ≤ 57) (h : (a : Int) ≤ (m - ((s[k].toNat : Int) - 48)) / 10) :
    ∃ k1 a1 : Nat, k1 ≤ s.size ∧ Value.int .i64 ((k : Int) + 1) = .int .i64 (k1 : Int) ∧ Value.int .u64 ((a : Int) * 10 + ((s[k].toNat : Int) - 48)) = .int .u64 (a1 : Int) ∧
      Hid (a1 = val (s.data.toList.take k1)) ∧ (a1 : Int) ≤ m ∧ Hid ((s.data.toList.take k1).all isDig = true) := by
  refine ⟨k + 1, 10 * a + (s[k].toNat - 48), by omega, by rw [Int.natCast_add]; rfl, ?_, ?_, by omega, ?_⟩
  · congr 1
    omega
  · show _ = _
    rw [take_snoc hlt, val_snoc, ← ha]
  · show _ = _
    rw [take_snoc hlt, List.all_append, hd]
    simp [dig_int hd1 hd2]

theorem stop_run {s : ByteArray} {k : Nat} (hk : k ≤ s.size) (hd : (s.data.toList.take k).all isDig = true) (hn : ∀ h : k < s.size, (s[k].toNat : Int) < 48 ∨ 57 < (s[k].toNat : Int)) : run s.data.toList = k := by
  refine run_of (by rw [len_eq]; exact hk) hd fun c hc => ?_
  have hlt : k < s.size := by
    have := (List.getElem?_eq_some_iff.1 hc).1
    rw [len_eq] at this
    exact this
  rw [at_ hlt] at hc
  cases hc
  exact dig_not (hn hlt)

theorem wrap_small {n : Nat} (h : (n : Int) ≤ 9223372036854775807) : wrap64 (n : Int) = n := IntWalk.wrap64_in _ (by omega)

/-- The end of the walk behind the loop, in the case that a numeral and the byte c stand ahead. -/
theorem yes_end {b : Nat} {w w' : World} {s : ByteArray} {k a : Nat} {c : UInt8} {m : Int} (hr : run s.data.toList = k) (ha : a = val (s.data.toList.take k)) (hal : (a : Int) ≤ m) (h0 : ¬ k = 0)
    (hlead : ¬ (1 < k ∧ s.data.toList.head? = some 48)) (hc : s.data.toList[k]? = some c) {e : Ending} (he : e = .returned (.int .i64 (wrap64 (a : Int))))
    (h : Rd w' b ((s.extract k s.size).extract 1 (s.extract k s.size).size) false) (hg : w.grownBy w' (some b)) : DigEnd b w (digP c m.toNat s.data.toList) e w' := by
  subst hr
  rw [digP_yes h0 (fun h1 h2 => hlead ⟨h1, h2⟩) (by omega) hc, ← ha]
  refine ⟨he, ?_, hg⟩
  have := RdL.of h
  rw [ext_list, ext_list, List.drop_drop] at this
  exact this

set_option maxHeartbeats 1000000 in
theorem digits_any (b : Nat) (s : ByteArray) (f : Bool) (c : UInt8) (m : Int) (w : World) (h : Rd w b s f) (hff : f = true → s.data.toList = []) (hm : 9 ≤ m) (hM : m ≤ 9223372036854775808) (hs : s.size ≤ 9223372036854775807) :
    Calls Tryd.prog 67 #[.pointer (some ⟨b, 0, none⟩), .int .u8 (c.toNat : Int), .int .u64 m] w (DigEnd b w (digP c m.toNat s.data.toList)) := by
  have c0 := h.c0
  have f0 := h.fz 0
  have HFF := Lib.hid hff
  clear hff
  go_enter Tryd.func67, Tryd.ntmps67
  go_wp2
  go_loop [7, 8] (fun n i => ∃ k a : Nat, k ≤ s.size ∧ i = .int .i64 k ∧ n = .int .u64 a ∧ Hid (a = val (s.data.toList.take k)) ∧ (a : Int) ≤ m ∧ Hid ((s.data.toList.take k).all isDig = true)) (fun _ i => s.size - (intOf i).toNat)
  case atStart => exact ⟨0, 0, Nat.zero_le _, rfl, rfl, rfl, by omega, rfl⟩
  case round =>
    obtain ⟨k, a, hk, rfl, rfl, ha, hal, hd⟩ := hrel
    by_cases hgo : ∃ h : k < s.size, 48 ≤ (s[k].toNat : Int) ∧ (s[k].toNat : Int) ≤ 57
    · obtain ⟨hlt, hd1, hd2⟩ := hgo
      go_wp2_with (first | (go_at_call 97; refine (isDigit_yes _ _ (by assumption) (by assumption)).mono ?_; rintro e w' ⟨rfl, rfl⟩) | (go_at_call 68; refine (fail_any b s f _ h).mono ?_; rintro e w' ⟨rfl, h1, g1⟩))
      · go_ret
        exact DigEnd.no (big_end hlt ha.out hd.out hd1 hd2 hm (by assumption)) rfl h1 g1
      · go_round
        case rel => exact rel_end hlt ha.out hd.out hd1 hd2 (by assumption)
        case measure => simp [intOf]; omega
    · have hnd : ∀ h : k < s.size, (s[k].toNat : Int) < 48 ∨ 57 < (s[k].toNat : Int) := fun h => by
        by_cases hx : 48 ≤ (s[k].toNat : Int)
        · by_cases hy : (s[k].toNat : Int) ≤ 57
          · exact absurd ⟨h, hx, hy⟩ hgo
          · exact .inr (by omega)
        · exact .inl (by omega)
      have HR := Lib.hid (stop_run hk hd.out hnd)
      clear hgo
      by_cases hz : k = 0
      · subst hz
        by_cases hlt : 0 < s.size
        all_goals
          try have hx := hnd hlt
          clear hnd
          go_wp2_with (first | (go_at_call 97; refine (isDigit_no _ _ (by assumption)).mono ?_; rintro e w' ⟨rfl, rfl⟩) | (go_at_call 68; refine (fail_any b s f _ h).mono ?_; rintro e w' ⟨rfl, h1, g1⟩))
          go_ret
          exact DigEnd.no (digP_none_zero HR.out) rfl h1 g1
      · have hz' : ((k : Int) == 0) = false := by simp [hz]
        have h0 : 0 < s.size := by omega
        by_cases hl : 1 < k ∧ ((s[0].toNat : Int) == 48) = true
        · obtain ⟨hl1, hl2⟩ := hl
          have HN := Lib.hid (digP_none_lead (c := c) (m := m.toNat) (l := s.data.toList) (by rw [HR.out]; exact hl1) (by rw [head_of h0]; exact congrArg some (byte_48 hl2)))
          by_cases hlt : k < s.size
          all_goals
            try have hx := hnd hlt
            clear hnd
            go_wp2_with (first | (go_at_call 97; refine (isDigit_no _ _ (by assumption)).mono ?_; rintro e w' ⟨rfl, rfl⟩) | (go_at_call 68; refine (fail_any b s f _ h).mono ?_; rintro e w' ⟨rfl, h1, g1⟩))
            go_ret
            exact DigEnd.no HN.out rfl h1 g1
        · have HL := Lib.hid (show ¬ (1 < k ∧ s.data.toList.head? = some 48) from fun ⟨x, y⟩ => hl ⟨x, by rw [head_of h0] at y; rw [Option.some.inj y]; rfl⟩)
          have hR := h.set0 (s.extract k s.size)
          by_cases hc : s.data.toList[k]? = some c
          · have hf0 : f = false := by
              cases f
              · rfl
              · rw [HFF.out rfl] at hc
                cases hc
            subst hf0
            have hlt : k < s.size := by
              have := (List.getElem?_eq_some_iff.1 hc).1
              rw [len_eq] at this
              exact this
            have hx := hnd hlt
            have hp : (s.extract k s.size).data.toList.head? = some c := by rw [ext_list, List.head?_drop]; exact hc
            have HC := Lib.hid hc
            have HP := Lib.hid hp
            clear hc hp hnd
            by_cases hl1 : 1 < k
            all_goals
              try have hl2 : ((s[0].toNat : Int) == 48) = false := by simpa using fun y => hl ⟨hl1, y⟩
              clear hl
              go_wp2_with (first | (go_at_call 97; refine (isDigit_no _ _ (by assumption)).mono ?_; rintro e w' ⟨rfl, rfl⟩) | (go_at_call 69; refine (mark_yes b _ false c _ hR HP.out).mono ?_; rintro e w1 ⟨rfl, h1, g1⟩; have c1 := h1.c1))
              go_ret
              exact yes_end HR.out ha.out hal hz HL.out HC.out rfl h1 ((only_set (World.grownBy.refl _ _) 0 _).trans g1)
          · have HN := Lib.hid (digP_none_end (c := c) (m := m.toNat) (l := s.data.toList) (by rw [HR.out]; exact hc))
            have hp : (s.extract k s.size).data.toList.head? ≠ some c := by rw [ext_list, List.head?_drop]; exact hc
            have HP := Lib.hid hp
            clear hc hp
            by_cases hlt : k < s.size
            all_goals
              try have hx := hnd hlt
              clear hnd
              by_cases hl1 : 1 < k
              all_goals
                try have hl2 : ((s[0].toNat : Int) == 48) = false := by simpa using fun y => hl ⟨hl1, y⟩
                clear hl
                go_wp2_with (first | (go_at_call 97; refine (isDigit_no _ _ (by assumption)).mono ?_; rintro e w' ⟨rfl, rfl⟩) | (go_at_call 69; refine (mark_no b _ f c _ hR HP.out).mono ?_; rintro e w1 ⟨rfl, h1, g1⟩; have c1 := h1.c1))
                go_ret
                exact DigEnd.no HN.out rfl h1 ((only_set (World.grownBy.refl _ _) 0 _).trans g1)

theorem digits_yes {b : Nat} {s : ByteArray} {f : Bool} {c : UInt8} {M n : Nat} {r : List UInt8} (ci m : Int) (w : World) (h : Rd w b s f) (hff : f = true → s.data.toList = []) (hc : ci = (c.toNat : Int)) (hm : m = (M : Int)) (h9 : 9 ≤ M) (hM : M ≤ 9223372036854775808) (hs : s.size ≤ 9223372036854775807)
    (ho : digP c M s.data.toList = some (n, r)) :
    Calls Tryd.prog 67 #[.pointer (some ⟨b, 0, none⟩), .int .u8 ci, .int .u64 m] w fun e w' => e = .returned (.int .i64 (wrap64 (n : Int))) ∧ RdL w' b r false ∧ w.grownBy w' (some b) := by
  subst hc hm
  exact (digits_any b s f c M w h hff (by omega) (by omega) hs).mono fun e w' hd => by rw [Int.toNat_natCast, ho] at hd; exact hd
theorem digits_no {b : Nat} {s : ByteArray} {f : Bool} {c : UInt8} {M : Nat} (ci m : Int) (w : World) (h : Rd w b s f) (hff : f = true → s.data.toList = []) (hc : ci = (c.toNat : Int)) (hm : m = (M : Int)) (h9 : 9 ≤ M) (hM : M ≤ 9223372036854775808) (hs : s.size ≤ 9223372036854775807)
    (ho : digP c M s.data.toList = none) :
    Calls Tryd.prog 67 #[.pointer (some ⟨b, 0, none⟩), .int .u8 ci, .int .u64 m] w fun e w' => e = .returned (.int .i64 0) ∧ RdL w' b [] true ∧ w.grownBy w' (some b) := by
  subst hc hm
  exact (digits_any b s f c M w h hff (by omega) (by omega) hs).mono fun e w' hd => by rw [Int.toNat_natCast, ho] at hd; exact hd

theorem RdL.ex {w : World} {b : Nat} {l : List UInt8} {f : Bool} (h : RdL w b l f) : ∃ t : ByteArray, t.data.toList = l ∧ Rd w b t f := ⟨⟨l.toArray⟩, by simp, h⟩
theorem digits_yesS {b : Nat} {s : ByteArray} {f : Bool} {c : UInt8} {M n : Nat} {r : List UInt8} (ci m : Int) (w : World) (h : Rd w b s f) (hff : f = true → s.data.toList = []) (hcd : isDig c = false) (hc : ci = (c.toNat : Int)) (hm : m = (M : Int)) (h9 : 9 ≤ M) (hM : M ≤ 9223372036854775807) (hs : s.size ≤ 9223372036854775807)
    (ho : digP c M s.data.toList = some (n, r)) :
    Calls Tryd.prog 67 #[.pointer (some ⟨b, 0, none⟩), .int .u8 ci, .int .u64 m] w fun e w' => e = .returned (.int .i64 (n : Int)) ∧ RdL w' b r false ∧ w.grownBy w' (some b) :=
  (digits_yes ci m w h hff hc hm h9 (by omega) hs ho).mono fun e w' ⟨he, hr, hg⟩ => ⟨by rw [he, wrap_small]; have := ((digP_some hcd).1 ho).1; omega, hr, hg⟩

end Go.Proofs.YtjlndgkahmcfdaaDoor
