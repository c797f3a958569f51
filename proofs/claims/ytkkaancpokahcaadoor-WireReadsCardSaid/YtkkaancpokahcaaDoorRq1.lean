/- The walk of the reference's Back: the int whose decimal form a string of at most 21 bytes is. -/
import Derived.Test.YtkkaancpokahcaaDoorRq0
import Derived.Test.YtkkaancpokahcaaDoorRw
namespace Go.Proofs.YtkkaancpokahcaaDoor
open Go.RowKit Go.Lib

def BkR (t : List UInt8) (k : Nat) (x : Int) : Prop := k ≤ t.length ∧ -9223372036854775808 ≤ x ∧ x ≤ 9223372036854775807 ∧ (t.take k).all isDig = true ∧ (val (t.take k) ≤ 9223372036854775808 → x = -(val (t.take k) : Int))

theorem bk_zero (t : List UInt8) : BkR t 0 0 := ⟨Nat.zero_le _, by omega, by omega, rfl, fun _ => rfl⟩

theorem take_snocL {t : List UInt8} {k : Nat} {c : UInt8} (h : t[k]? = some c) : t.take (k + 1) = t.take k ++ [c] := by
  obtain ⟨hk, rfl⟩ := List.getElem?_eq_some_iff.1 h
  rw [List.take_succ_eq_append_getElem hk]

theorem bk_step {t : List UInt8} {k : Nat} {x : Int} {c : UInt8} (h : BkR t k x) (hc : t[k]? = some c) (h1 : 48 ≤ (c.toNat : Int)) (h2 : (c.toNat : Int) ≤ 57) : BkR t (k + 1) (wrap64 (wrap64 (10 * x) - ((c.toNat : Int) - 48))) := by
  obtain ⟨a, b, d, e, f⟩ := h
  have hk := (List.getElem?_eq_some_iff.1 hc).1
  refine ⟨hk, by unfold wrap64; omega, by unfold wrap64; omega, ?_, ?_⟩
  · rw [take_snocL hc, List.all_append, e]
    simp [dig_int h1 h2]
  · rw [take_snocL hc, val_snoc]
    intro hv
    have := f (by omega)
    subst this
    rw [IntWalk.wrap64_in (10 * _) (by omega), IntWalk.wrap64_in _ (by omega)]
    omega

def BkEnd (l : List UInt8) (e : Ending) : Prop := ∃ (v : Int) (ok : Bool), e = .returned (.tuple #[.int .i64 v, .bool ok]) ∧ -9223372036854775808 ≤ v ∧ v ≤ 9223372036854775807 ∧ (ok = true → l = itoa v) ∧
  ∀ u : Int, -9223372036854775808 ≤ u → u ≤ 9223372036854775807 → l = itoa u → v = u ∧ ok = true

theorem itoa_neg_form {u : Int} (hu : u < 0) : ∃ m : Nat, 0 < m ∧ u = -(m : Int) ∧ itoa u = 45 :: decDigits m := by
  obtain ⟨m, rfl⟩ : ∃ m : Nat, u = -(m : Int) := ⟨u.natAbs, by omega⟩
  exact ⟨m, by omega, rfl, by rw [itoa_neg m (by omega)]⟩
theorem itoa_pos_form {u : Int} (hu : ¬ u < 0) : ∃ m : Nat, u = (m : Int) ∧ itoa u = decDigits m := by
  obtain ⟨m, rfl⟩ : ∃ m : Nat, u = (m : Int) := ⟨u.toNat, by omega⟩
  exact ⟨m, rfl, by rw [itoa_nonneg]⟩

/-- A numeral behind a minus sign. -/
theorem neg_of {t : List UInt8} {u : Int} (h : 45 :: t = itoa u) : ∃ m : Nat, u = -(m : Int) ∧ t = decDigits m := by
  by_cases hu : u < 0
  · obtain ⟨m, _, rfl, hm⟩ := itoa_neg_form hu
    rw [hm] at h
    exact ⟨m, rfl, by injection h⟩
  · obtain ⟨m, rfl, hm⟩ := itoa_pos_form hu
    rw [hm] at h
    exact absurd (by rw [List.append_nil]; exact h.symm) (dig_head m [] t)
theorem pos_form {l : List UInt8} (h0 : l.head? ≠ some 45) {u : Int} (h : l = itoa u) : ∃ m : Nat, u = (m : Int) ∧ l = decDigits m := by
  by_cases hu : u < 0
  · obtain ⟨m, _, rfl, hm⟩ := itoa_neg_form hu
    rw [hm] at h
    subst h
    exact absurd rfl h0
  · obtain ⟨m, rfl, hm⟩ := itoa_pos_form hu
    exact ⟨m, rfl, by rw [h, hm]⟩

theorem not_dig_at {t : List UInt8} {m k : Nat} {c : UInt8} (h : t = decDigits m) (hc : t[k]? = some c) (hd : isDig c = false) : False := by
  subst h
  have ha := decDigits_all m
  rw [List.all_eq_true] at ha
  have := ha c (List.mem_of_getElem? hc)
  rw [hd] at this
  cases this

theorem bk_bad_neg {l t : List UInt8} (hl : l = 45 :: t) {k : Nat} {c : UInt8} (hc : t[k]? = some c) (hd : isDig c = false) : BkEnd l (.returned (.tuple #[.int .i64 0, .bool false])) := by
  refine ⟨0, false, rfl, by omega, by omega, by simp, ?_⟩
  intro u _ _ h
  rw [hl] at h
  obtain ⟨m, _, hm⟩ := neg_of h
  exact (not_dig_at hm hc hd).elim
theorem bk_bad_pos {l : List UInt8} (h0 : l.head? ≠ some 45) {k : Nat} {c : UInt8} (hc : l[k]? = some c) (hd : isDig c = false) : BkEnd l (.returned (.tuple #[.int .i64 0, .bool false])) := by
  refine ⟨0, false, rfl, by omega, by omega, by simp, ?_⟩
  intro u _ _ h
  obtain ⟨m, _, hm⟩ := pos_form h0 h
  exact (not_dig_at hm hc hd).elim

theorem bk_end {l : List UInt8} {v : Int} (h0 : -9223372036854775808 ≤ v) (h1 : v ≤ 9223372036854775807) (h : ∀ u : Int, -9223372036854775808 ≤ u → u ≤ 9223372036854775807 → l = itoa u → v = u) : BkEnd l (.returned (.tuple #[.int .i64 v, .bool (decide (wInt v = l ++ [59]))])) := by
  refine ⟨v, _, rfl, h0, h1, ?_, ?_⟩
  · intro hd
    have hd := of_decide_eq_true hd
    unfold wInt at hd
    exact (List.append_cancel_right hd).symm
  · intro u a b hu
    have := h u a b hu
    subst this
    exact ⟨rfl, decide_eq_true (by unfold wInt; rw [hu])⟩

theorem bk_val_neg {l t : List UInt8} (hl : l = 45 :: t) {x : Int} {k : Nat} (h : BkR t k x) (hk : k = t.length) : ∀ u : Int, -9223372036854775808 ≤ u → u ≤ 9223372036854775807 → l = itoa u → x = u := by
  intro u a b hu
  rw [hl] at hu
  obtain ⟨m, rfl, hm⟩ := neg_of hu
  obtain ⟨_, _, _, _, f⟩ := h
  rw [hk, List.take_length, hm, val_decDigits] at f
  exact f (by omega)
theorem bk_val_pos {l : List UInt8} (h0 : l.head? ≠ some 45) {x : Int} {k : Nat} (h : BkR l k x) (hk : k = l.length) : ∀ u : Int, -9223372036854775808 ≤ u → u ≤ 9223372036854775807 → l = itoa u → wrap64 (-x) = u := by
  intro u a b hu
  obtain ⟨m, rfl, hm⟩ := pos_form h0 hu
  obtain ⟨_, _, _, _, f⟩ := h
  rw [hk, List.take_length, hm, val_decDigits] at f
  rw [f (by omega), Int.neg_neg, IntWalk.wrap64_in _ (by omega)]

theorem bk_neg_list {s : ByteArray} (hh : s.data.toList.head? = some 45) : ∃ t, s.data.toList = 45 :: t ∧ s.size = t.length + 1 := by
  cases h : s.data.toList with
  | nil => rw [h] at hh; cases hh
  | cons a l =>
    rw [h] at hh
    cases hh
    exact ⟨l, rfl, by rw [Lib.size_eq, h]; rfl⟩
theorem bk_at_neg {s : ByteArray} {t : List UInt8} (hl : s.data.toList = 45 :: t) {k : Nat} (hk : k + 1 < s.size) : t[k]? = some s[k + 1] := by
  have := at_ hk
  rw [hl] at this
  simpa using this

theorem bk_fin {s : ByteArray} {v : Int} {wx : List UInt8} (HW : wInt v = wx) (h0 : -9223372036854775808 ≤ v) (h1 : v ≤ 9223372036854775807) (h : ∀ u : Int, -9223372036854775808 ≤ u → u ≤ 9223372036854775807 → s.data.toList = itoa u → v = u) :
    BkEnd s.data.toList (.returned (.tuple #[.int .i64 v, .bool (wx == (s ++ { data := #[59] }).toList)])) := by
  have hb : (wx == (s ++ { data := #[59] }).toList) = decide (wInt v = s.data.toList ++ [59]) := by
    subst HW
    rw [Lib.toList_data]
    have : (s ++ ({ data := #[59] } : ByteArray)).data.toList = s.data.toList ++ [59] := by simp
    rw [this]
    by_cases hx : wInt v = s.data.toList ++ [59]
    · rw [decide_eq_true hx, hx]; simp
    · rw [decide_eq_false hx]; simpa using hx
  rw [hb]
  exact bk_end h0 h1 h

set_option maxHeartbeats 1000000 in
theorem qback (s : ByteArray) (hs : s.size ≤ 21) (w : World) :
    Calls Tryd.prog 65 #[.string s] w fun e w' => BkEnd s.data.toList e ∧ Below w.heap.size w w' := by
  by_cases hh : s.data.toList.head? = some 45
  · obtain ⟨t, hl, ht⟩ := bk_neg_list hh
    have hn : 0 < s.size := by omega
    have hc : s[0] = 45 := Option.some.inj ((head_of hn).symm.trans hh)
    have HL := Lib.hid hl
    clear hh hl
    go_enter Tryd.func65, Tryd.ntmps65
    go_wp2
    go_loop [5, 6] (fun n i => ∃ (k : Nat) (x : Int), i = .int .i64 ((k + 1 : Nat) : Int) ∧ n = .int .i64 x ∧ k + 1 ≤ s.size ∧ -9223372036854775808 ≤ x ∧ x ≤ 9223372036854775807 ∧ Hid (BkR t k x)) (fun _ i => s.size - (RowKit.intOf i).toNat)
    case atStart => exact ⟨0, 0, rfl, rfl, by omega, by omega, by omega, bk_zero t⟩
    case round =>
      obtain ⟨k, x, rfl, rfl, hk, x0, x1, hr⟩ := hrel
      by_cases hlt : k + 1 < s.size
      · have HA := Lib.hid (bk_at_neg HL.out hlt)
        by_cases hd1 : 48 ≤ (s[k + 1].toNat : Int)
        · by_cases hd2 : (s[k + 1].toNat : Int) ≤ 57
          · have hst := Lib.hid (bk_step hr.out HA.out hd1 hd2)
            go_wp2
            go_round
            case rel => exact ⟨k + 1, _, rfl, rfl, by omega, hst.out.2.1, hst.out.2.2.1, hst.out⟩
            case measure => simp [RowKit.intOf]; omega
          · go_wp2
            go_ret2
            exact ⟨bk_bad_neg HL.out HA.out (dig_not (.inr (by omega))), Below.refl _ _⟩
        · go_wp2
          go_ret2
          exact ⟨bk_bad_neg HL.out HA.out (dig_not (.inl (by omega))), Below.refl _ _⟩
      · have hke : k = t.length := by omega
        have HV := Lib.hid (bk_val_neg HL.out hr.out hke)
        clear hr
        go_wp2_with (go_at_call 14; refine (refInt x x0 x1 _).mono ?_; rintro e w1 ⟨rfl, b1⟩; generalize hwx : wInt x = wx; have HW := Lib.hid hwx; clear hwx)
        go_ret2
        exact ⟨bk_fin HW.out x0 x1 HV.out, b1⟩
  · have HL := Lib.hid hh
    have hne : ∀ h : 0 < s.size, ((s[0].toNat : Int) == 45) = false := fun h => by
      rw [beq_eq_false_iff_ne]
      intro he
      exact hh (by rw [head_of h]; exact congrArg some (UInt8.toNat_inj.1 (show s[0].toNat = 45 by omega)))
    clear hh
    by_cases hz : 0 < s.size
    all_goals
      try have hx := hne hz
      clear hne
      go_enter Tryd.func65, Tryd.ntmps65
      go_wp2
      go_loop [5, 6] (fun n i => ∃ (k : Nat) (x : Int), i = .int .i64 (k : Int) ∧ n = .int .i64 x ∧ k ≤ s.size ∧ -9223372036854775808 ≤ x ∧ x ≤ 9223372036854775807 ∧ Hid (BkR s.data.toList k x)) (fun _ i => s.size - (RowKit.intOf i).toNat)
      case atStart => exact ⟨0, 0, rfl, rfl, by omega, by omega, by omega, bk_zero _⟩
      case round =>
        obtain ⟨k, x, rfl, rfl, hk, x0, x1, hr⟩ := hrel
        by_cases hlt : k < s.size
        · first
          | omega
          | (have HA := Lib.hid (at_ hlt)
             by_cases hd1 : 48 ≤ (s[k].toNat : Int)
             · by_cases hd2 : (s[k].toNat : Int) ≤ 57
               · have hst := Lib.hid (bk_step hr.out HA.out hd1 hd2)
                 go_wp2
                 go_round
                 case rel => exact ⟨k + 1, _, by rw [Int.natCast_add]; rfl, rfl, by omega, hst.out.2.1, hst.out.2.2.1, hst.out⟩
                 case measure => simp [RowKit.intOf]; omega
               · go_wp2
                 go_ret2
                 exact ⟨bk_bad_pos HL.out HA.out (dig_not (.inr (by omega))), Below.refl _ _⟩
             · go_wp2
               go_ret2
               exact ⟨bk_bad_pos HL.out HA.out (dig_not (.inl (by omega))), Below.refl _ _⟩)
        · have hke : k = s.data.toList.length := by rw [len_eq]; omega
          have HV := Lib.hid (bk_val_pos HL.out hr.out hke)
          have v0 : -9223372036854775808 ≤ wrap64 (-x) := by unfold wrap64; omega
          have v1 : wrap64 (-x) ≤ 9223372036854775807 := by unfold wrap64; omega
          clear hr
          go_wp2_with (go_at_call 14; refine (refInt _ v0 v1 _).mono ?_; rintro e w1 ⟨rfl, b1⟩; generalize hwx : wInt (wrap64 (-x)) = wx; have HW := Lib.hid hwx; clear hwx)
          go_ret2
          exact ⟨bk_fin HW.out v0 v1 HV.out, b1⟩

end Go.Proofs.YtkkaancpokahcaaDoor
