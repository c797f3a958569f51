/- The walks of the reference reader's ints and numbers: exactly a decimal form and the byte after it are read. -/
import Derived.Test.YtkkaancpokahcaaDoorRq1
namespace Go.Proofs.YtkkaancpokahcaaDoor
open Go.RowKit Go.Lib

theorem itoa_no {c : UInt8} (hc : isDig c = false) (h45 : c ≠ 45) (v : Int) : c ∉ itoa v := by
  intro hm
  by_cases hv : v < 0
  · obtain ⟨m, _, _, he⟩ := itoa_neg_form hv
    rw [he] at hm
    rcases List.mem_cons.1 hm with h | h
    · exact h45 h
    · have := List.all_eq_true.1 (decDigits_all m) c h
      rw [hc] at this
      cases this
  · obtain ⟨m, _, he⟩ := itoa_pos_form hv
    rw [he] at hm
    have := List.all_eq_true.1 (decDigits_all m) c hm
    rw [hc] at this
    cases this

theorem itoa_inj {u v : Int} (h : itoa u = itoa v) : u = v := by
  by_cases hu : u < 0
  · obtain ⟨m, _, rfl, he⟩ := itoa_neg_form hu
    rw [he] at h
    obtain ⟨n, rfl, hn⟩ := neg_of h
    have := congrArg val hn
    rw [val_decDigits, val_decDigits] at this
    omega
  · obtain ⟨m, rfl, he⟩ := itoa_pos_form hu
    by_cases hv : v < 0
    · obtain ⟨n, _, rfl, hn⟩ := itoa_neg_form hv
      rw [hn] at h
      obtain ⟨k, hk, _⟩ := neg_of h.symm
      rw [he] at h
      exact absurd (by rw [List.append_nil]; exact h) (dig_head m [] _)
    · obtain ⟨n, rfl, hn⟩ := itoa_pos_form hv
      rw [he, hn] at h
      have := congrArg val h
      rw [val_decDigits, val_decDigits] at this
      omega

/-- What stands before the first c. -/
theorem split_at {c : UInt8} {l a r : List UInt8} {k : Nat} (h : l = a ++ c :: r) (ha : c ∉ a) (hk : l[k]? = some c) (hn : c ∉ l.take k) : a = l.take k ∧ r = l.drop (k + 1) := by
  subst h
  have h1 : ¬ a.length < k := by
    intro hlt
    apply hn
    rw [List.take_append]
    have : ∃ j, k - a.length = j + 1 := ⟨k - a.length - 1, by omega⟩
    obtain ⟨j, hj⟩ := this
    rw [hj, List.take_succ_cons]
    simp
  have h2 : ¬ k < a.length := by
    intro hlt
    rw [List.getElem?_append_left hlt] at hk
    exact ha (List.mem_of_getElem? hk)
  have : k = a.length := by omega
  subst this
  simp
theorem split_le {c : UInt8} {l a r : List UInt8} {k : Nat} (h : l = a ++ c :: r) (hn : c ∉ l.take k) : k ≤ a.length := by
  apply Nat.le_of_not_lt
  intro hlt
  subst h
  apply hn
  rw [List.take_append]
  obtain ⟨j, hj⟩ : ∃ j, k - a.length = j + 1 := ⟨k - a.length - 1, by omega⟩
  rw [hj, List.take_succ_cons]
  simp

open Classical in
/-- An int and the byte c ahead. -/
noncomputable def aheadP (c : UInt8) (l : List UInt8) : Option (Int × List UInt8) :=
  if h : ∃ p : Int × List UInt8, (-9223372036854775808 ≤ p.1 ∧ p.1 ≤ 9223372036854775807) ∧ l = itoa p.1 ++ c :: p.2 then some (Classical.choose h) else none

theorem aheadP_some {c : UInt8} (hc : isDig c = false) (h45 : c ≠ 45) {l : List UInt8} {v : Int} {r : List UInt8} : aheadP c l = some (v, r) ↔ (-9223372036854775808 ≤ v ∧ v ≤ 9223372036854775807) ∧ l = itoa v ++ c :: r := by
  unfold aheadP
  constructor
  · intro h
    split at h
    · rename_i hx
      have hs := Classical.choose_spec hx
      have he : Classical.choose hx = (v, r) := Option.some.inj h
      rw [he] at hs
      exact hs
    · cases h
  · rintro ⟨hv, hl⟩
    have hx : ∃ p : Int × List UInt8, (-9223372036854775808 ≤ p.1 ∧ p.1 ≤ 9223372036854775807) ∧ l = itoa p.1 ++ c :: p.2 := ⟨(v, r), hv, hl⟩
    rw [dif_pos hx]
    have hs := Classical.choose_spec hx
    generalize Classical.choose hx = p at hs
    obtain ⟨u, t⟩ := p
    obtain ⟨_, hs⟩ := hs
    have hk : l[(itoa v).length]? = some c := by rw [hl]; simp
    have hn : c ∉ l.take (itoa v).length := by rw [hl]; simp; exact itoa_no hc h45 v
    obtain ⟨a1, a2⟩ := split_at hs (itoa_no hc h45 u) hk hn
    obtain ⟨b1, b2⟩ := split_at hl (itoa_no hc h45 v) hk hn
    show some (u, t) = some (v, r)
    have e1 : u = v := itoa_inj (a1.trans b1.symm)
    have e2 : t = r := a2.trans b2.symm
    rw [e1, e2]

def QEnd {α : Type} (V : α → Value) (z : Value) (b : Nat) (w : World) (o : Option (α × List UInt8)) (e : Ending) (w' : World) : Prop :=
  match o with
  | some (v, r) => e = .returned (V v) ∧ RqL w' b r false ∧ w.grownBy w' (some b)
  | none => e = .returned z ∧ RqL w' b [] true ∧ w.grownBy w' (some b)
theorem QEnd.no {α : Type} {V : α → Value} {z : Value} {b : Nat} {w : World} {o : Option (α × List UInt8)} {e : Ending} {w' : World} (ho : o = none) (he : e = .returned z) (h : Rq w' b ⟨#[]⟩ true) (hg : w.grownBy w' (some b)) : QEnd V z b w o e w' := by
  subst ho
  exact ⟨he, h, hg⟩

theorem ahead_short {c : UInt8} (hc : isDig c = false) (h45 : c ≠ 45) {s : ByteArray} {k : Nat} (hk : s.size ≤ k) (hn : c ∉ s.data.toList.take k) : aheadP c s.data.toList = none := by
  cases h : aheadP c s.data.toList with
  | none => rfl
  | some p =>
    obtain ⟨v, r⟩ := p
    obtain ⟨_, hl⟩ := (aheadP_some hc h45).1 h
    have h1 := split_le hl hn
    have h2 := congrArg List.length hl
    rw [len_eq] at h2
    simp at h2
    omega
theorem ahead_far {c : UInt8} (hc : isDig c = false) (h45 : c ≠ 45) {s : ByteArray} (hk : s.data.toList[21]? ≠ some c) (hn : c ∉ s.data.toList.take 21) : aheadP c s.data.toList = none := by
  cases h : aheadP c s.data.toList with
  | none => rfl
  | some p =>
    obtain ⟨v, r⟩ := p
    obtain ⟨⟨v0, v1⟩, hl⟩ := (aheadP_some hc h45).1 h
    have h1 := split_le hl hn
    have h2 := itoa_length_le v v0 v1
    have h3 : (itoa v).length = 21 := by omega
    exfalso
    apply hk
    rw [hl, ← h3]
    simp
theorem ahead_bad {c : UInt8} (hc : isDig c = false) (h45 : c ≠ 45) {l : List UInt8} {k : Nat} (hk : l[k]? = some c) (hn : c ∉ l.take k) (hno : ∀ u : Int, -9223372036854775808 ≤ u → u ≤ 9223372036854775807 → l.take k = itoa u → False) : aheadP c l = none := by
  cases h : aheadP c l with
  | none => rfl
  | some p =>
    obtain ⟨v, r⟩ := p
    obtain ⟨⟨v0, v1⟩, hl⟩ := (aheadP_some hc h45).1 h
    obtain ⟨a1, _⟩ := split_at hl (itoa_no hc h45 v) hk hn
    exact (hno v v0 v1 a1.symm).elim
theorem ahead_good {c : UInt8} (hc : isDig c = false) (h45 : c ≠ 45) {l : List UInt8} {k : Nat} {v : Int} (hk : l[k]? = some c) (v0 : -9223372036854775808 ≤ v) (v1 : v ≤ 9223372036854775807) (hv : l.take k = itoa v) : aheadP c l = some (v, l.drop (k + 1)) := by
  refine (aheadP_some hc h45).2 ⟨⟨v0, v1⟩, ?_⟩
  rw [← hv]
  obtain ⟨hlt, hx⟩ := List.getElem?_eq_some_iff.1 hk
  rw [← hx, ← List.drop_eq_getElem_cons hlt, List.take_append_drop]

theorem pre_list (s : ByteArray) (k : Nat) : (s.extract 0 k).data.toList = s.data.toList.take k := by simp

set_option maxHeartbeats 1000000 in
theorem qahead (b : Nat) (s : ByteArray) (f : Bool) (c : UInt8) (ci : Int) (w : World) (h : Rq w b s f) (hff : f = true → s.data.toList = []) (hci : ci = (c.toNat : Int)) (hc : isDig c = false) (h45 : c ≠ 45) (hs : s.size ≤ 9223372036854775806) :
    Calls Tryd.prog 52 #[.pointer (some ⟨b, 0, none⟩), .int .u8 ci] w (QEnd (fun v : Int => .int .i64 v) (.int .i64 0) b w (aheadP c s.data.toList)) := by
  subst hci
  have c0 := h.c0
  have f0 := h.fz 0
  have HFF := Lib.hid hff
  have HC := Lib.hid hc
  clear hff hc
  go_enter Tryd.func52, Tryd.ntmps52
  go_wp2
  go_loop [5] (fun n => ∃ k : Nat, n = .int .i64 (k : Int) ∧ k ≤ s.size ∧ k ≤ 21 ∧ Hid (c ∉ s.data.toList.take k)) (fun n => s.size - (RowKit.intOf n).toNat)
  case atStart => exact ⟨0, rfl, by omega, by omega, Lib.hid (by simp)⟩
  case round =>
    obtain ⟨k, rfl, hk, hk1, hn⟩ := hrel
    by_cases hlt : k < s.size
    · have HA := Lib.hid (at_ hlt)
      by_cases hx : s[k] = c
      · have hb : ((s[k].toNat : Int) != (c.toNat : Int)) = false := by rw [hx]; simp
        have HB := Lib.hid (show s.data.toList[k]? = some c by rw [at_ hlt, hx])
        have hf : f = false := by
          cases f
          · rfl
          · have := HFF.out rfl
            have h1 := HB.out
            rw [this] at h1
            cases h1
        subst hf
        have hsz : (s.extract 0 k).size ≤ 21 := by rw [Lib.size_eq, pre_list, List.length_take]; omega
        clear hx
        by_cases h21 : k < 21
        all_goals
          go_wp2_with fail
          refine (qback _ hsz _).mono ?_
          rintro e w1 ⟨⟨v, ok, rfl, v0, v1, hok, hall⟩, b1⟩
          have h1 : Rq w1 b s false := Blk.below h b1 h.lt
          have c1 := h1.c0
          have f1 := h1.fz 0
          have HO := Lib.hid hok
          have HALL := Lib.hid hall
          clear hok hall
          cases ok
          · go_wp2_with (go_at_call 54; refine (qfail b s false _ h1).mono ?_; rintro e w' ⟨rfl, h2, g2⟩)
            go_ret
            exact QEnd.no (ahead_bad HC.out h45 HB.out hn.out fun u u0 u1 hu => by
              have := (HALL.out u u0 u1 (by rw [pre_list]; exact hu)).2
              cases this) rfl h2 ((only_of_below b1 _).trans g2)
          · go_wp2
            go_ret
            have ho := ahead_good HC.out h45 HB.out v0 v1 (by have := HO.out trivial; rw [pre_list] at this; exact this)
            rw [ho]
            exact ⟨rfl, RqL.to (h1.set0 _) (ext_list s (k + 1)), only_set (only_of_below b1 _) 0 _⟩
      · have hb : ((s[k].toNat : Int) != (c.toNat : Int)) = true := by
          rw [bne_iff_ne]
          exact fun he => hx (UInt8.toNat_inj.1 (by omega))
        have HX := Lib.hid hx
        clear hx
        by_cases h21 : k < 21
        · go_wp2
          go_round
          case rel => exact ⟨k + 1, by first | rfl | (rw [Int.natCast_add]; rfl) | rw [Int.natCast_add], by omega, by omega, Lib.hid (by rw [take_snoc hlt]; intro hm; exact (List.mem_append.1 hm).elim hn.out (fun h => HX.out (List.mem_singleton.1 h).symm))⟩
          case measure => simp [RowKit.intOf]; omega
        · have he : k = 21 := by omega
          subst he
          go_wp2_with (go_at_call 54; refine (qfail b s f _ h).mono ?_; rintro e w' ⟨rfl, h1, g1⟩)
          go_ret
          exact QEnd.no (ahead_far HC.out h45 (by rw [HA.out]; exact fun h => HX.out (Option.some.inj h)) hn.out) rfl h1 g1
    · go_wp2_with (go_at_call 54; refine (qfail b s f _ h).mono ?_; rintro e w' ⟨rfl, h1, g1⟩)
      go_ret
      exact QEnd.no (ahead_short HC.out h45 (by omega) hn.out) rfl h1 g1

end Go.Proofs.YtkkaancpokahcaaDoor
