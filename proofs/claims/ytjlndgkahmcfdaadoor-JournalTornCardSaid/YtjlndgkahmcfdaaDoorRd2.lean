/- The walks of the reader's Num, Int and Text: each reads exactly an encoding that stands ahead. -/
import Derived.Test.YtjlndgkahmcfdaaDoorRd1
import Derived.Test.YtjlndgkahmcfdaaDoorShelf
import Derived.Lib.Split
namespace Go.Proofs.YtjlndgkahmcfdaaDoor
set_option maxRecDepth 8000
open Go.RowKit

/-- A number's encoding ahead. -/
def numP (l : List UInt8) : Option (Nat × List UInt8) := digP 59 9223372036854775807 l
/-- An int's encoding ahead. -/
def intP (l : List UInt8) : Option (Int × List UInt8) :=
  match l with
  | 45 :: r => match digP 59 9223372036854775808 r with
    | some (n, r') => if n = 0 then none else some (-(n : Int), r')
    | none => none
  | _ => match numP l with
    | some (n, r') => some ((n : Int), r')
    | none => none
/-- A string's encoding ahead. -/
def textP (l : List UInt8) : Option (List UInt8 × List UInt8) :=
  match digP 58 9223372036854775807 l with
  | some (n, r) => if r.length < n then none else if (r.drop n).head? = some 44 then some (r.take n, (r.drop n).tail) else none
  | none => none

/-- How a reading call ends: with a value and what is left, or having failed. -/
def RdEnd {α : Type} (V : α → Value) (z : Value) (b : Nat) (w : World) (o : Option (α × List UInt8)) (e : Ending) (w' : World) : Prop :=
  match o with
  | some (v, r) => e = .returned (V v) ∧ RdL w' b r false ∧ w.grownBy w' (some b)
  | none => e = .returned z ∧ RdL w' b [] true ∧ w.grownBy w' (some b)

set_option maxHeartbeats 400000 in
theorem num_any (b : Nat) (s : ByteArray) (f : Bool) (w : World) (h : Rd w b s f) (hff : f = true → s.data.toList = []) (hs : s.size ≤ 9223372036854775807) :
    Calls Tryd.prog 32 #[.pointer (some ⟨b, 0, none⟩)] w (RdEnd (fun n : Nat => .int .i64 (n : Int)) (.int .i64 0) b w (numP s.data.toList)) := by
  cases ho : numP s.data.toList with
  | none =>
    have HO := Lib.hid ho
    have HFF := Lib.hid hff
    clear ho hff
    go_enter Tryd.func32, Tryd.ntmps32
    go_wp2_with (go_at_call 67; refine (digits_no (c := 59) _ _ _ h HFF.out rfl rfl (by omega) (by omega) hs HO.out).mono ?_; rintro e w' ⟨rfl, h1, g1⟩)
    go_ret
    exact ⟨rfl, h1, g1⟩
  | some o =>
    obtain ⟨n, r⟩ := o
    have hn : n ≤ 9223372036854775807 := ((digP_some (by decide)).1 ho).1
    have HW := Lib.hid (wrap_small (n := n) (by omega))
    have HO := Lib.hid ho
    have HFF := Lib.hid hff
    clear ho hff hn
    go_enter Tryd.func32, Tryd.ntmps32
    go_wp2_with (go_at_call 67; refine (digits_yes (c := 59) _ _ _ h HFF.out rfl rfl (by omega) (by omega) hs HO.out).mono ?_; rintro e w' ⟨rfl, h1, g1⟩)
    go_ret
    exact ⟨by rw [HW.out]; rfl, h1, g1⟩

theorem num_no {b : Nat} {s : ByteArray} {f : Bool} {w : World} (h : Rd w b s f) (hff : f = true → s.data.toList = []) (hs : s.size ≤ 9223372036854775807) (ho : numP s.data.toList = none) :
    Calls Tryd.prog 32 #[.pointer (some ⟨b, 0, none⟩)] w fun e w' => e = .returned (.int .i64 0) ∧ RdL w' b [] true ∧ w.grownBy w' (some b) :=
  (num_any b s f w h hff hs).mono fun e w' hd => by rw [ho] at hd; exact hd
theorem num_yes {b n : Nat} {r : List UInt8} {s : ByteArray} {f : Bool} {w : World} (h : Rd w b s f) (hff : f = true → s.data.toList = []) (hs : s.size ≤ 9223372036854775807) (ho : numP s.data.toList = some (n, r)) :
    Calls Tryd.prog 32 #[.pointer (some ⟨b, 0, none⟩)] w fun e w' => e = .returned (.int .i64 (n : Int)) ∧ RdL w' b r false ∧ w.grownBy w' (some b) :=
  (num_any b s f w h hff hs).mono fun e w' hd => by rw [ho] at hd; exact hd

theorem pre_yes {s : ByteArray} (h : Lib.hasPrefix s.data.toList [45] = true) : ∃ r, s.data.toList = 45 :: r := by
  unfold Lib.hasPrefix at h
  cases hs : s.data.toList with
  | nil => rw [hs] at h; cases h
  | cons a l =>
    rw [hs] at h
    simp [List.isPrefixOf] at h
    exact ⟨l, by rw [← h]⟩
theorem pre_no {s : ByteArray} (h : Lib.hasPrefix s.data.toList [45] = false) : intP s.data.toList = match numP s.data.toList with
    | some (n, r') => some ((n : Int), r')
    | none => none := by
  unfold intP
  split
  · rename_i r hs
    rw [hs] at h
    simp [Lib.hasPrefix, List.isPrefixOf] at h
  · rfl

theorem neg_num {n : Nat} (h : n ≤ 9223372036854775808) : wrap64 (-(wrap64 (n : Int))) = -(n : Int) := by unfold wrap64; omega
theorem num_zero {n : Nat} (h : n ≤ 9223372036854775808) : (wrap64 (n : Int) == 0) = decide (n = 0) := by
  unfold wrap64
  by_cases h0 : n = 0
  · subst h0; rfl
  · rw [decide_eq_false h0]
    rw [beq_eq_false_iff_ne]
    omega

theorem text_short {l r : List UInt8} {n : Nat} (ho : digP 58 9223372036854775807 l = some (n, r)) (h : r.length < n) : textP l = none := by
  unfold textP
  rw [ho]
  exact if_pos h
theorem text_bad {l r : List UInt8} {n : Nat} (ho : digP 58 9223372036854775807 l = some (n, r)) (h : (r.drop n).head? ≠ some 44) : textP l = none := by
  unfold textP
  rw [ho]
  show (if r.length < n then none else if (r.drop n).head? = some 44 then some (r.take n, (r.drop n).tail) else none) = none
  by_cases h2 : r.length < n
  · rw [if_pos h2]
  · rw [if_neg h2, if_neg h]
theorem text_good {l r : List UInt8} {n : Nat} (ho : digP 58 9223372036854775807 l = some (n, r)) (h : n ≤ r.length) (h' : (r.drop n).head? = some 44) : textP l = some (r.take n, (r.drop n).tail) := by
  unfold textP
  rw [ho]
  show (if r.length < n then none else if (r.drop n).head? = some 44 then some (r.take n, (r.drop n).tail) else none) = _
  rw [if_neg (by omega), if_pos h']
theorem text_none {l : List UInt8} (ho : digP 58 9223372036854775807 l = none) : textP l = none := by
  unfold textP
  rw [ho]

set_option maxHeartbeats 400000 in
theorem text_any (b : Nat) (s : ByteArray) (f : Bool) (w : World) (h : Rd w b s f) (hff : f = true → s.data.toList = []) (hs : s.size ≤ 9223372036854775807) :
    Calls Tryd.prog 31 #[.pointer (some ⟨b, 0, none⟩)] w (RdEnd (fun l : List UInt8 => .string ⟨l.toArray⟩) (.string ⟨#[]⟩) b w (textP s.data.toList)) := by
  have HFF := Lib.hid hff
  clear hff
  cases ho : digP 58 9223372036854775807 s.data.toList with
  | none =>
    rw [text_none ho]
    have HO := Lib.hid ho
    clear ho
    go_enter Tryd.func31, Tryd.ntmps31
    go_wp2_with (first | (go_at_call 67; refine (digits_no (c := 58) _ _ _ h HFF.out rfl rfl (by omega) (by omega) hs HO.out).mono ?_; rintro e w1 ⟨rfl, h1, g1⟩; have c10 := h1.c0; have f10 := h1.fz 0) | (go_at_call 69; refine (mark_no b ⟨#[]⟩ true 44 _ (h1.set0 _) (by simp)).mono ?_; rintro e w2 ⟨rfl, h2, g2⟩; have c21 := h2.c1))
    go_ret
    exact ⟨rfl, h2, (g1.trans (only_set (World.grownBy.refl _ _) 0 _)).trans g2⟩
  | some o =>
    obtain ⟨n, r⟩ := o
    have HO := Lib.hid ho
    have hn0 : n ≤ 9223372036854775807 := ((digP_some (by decide)).1 ho).1
    by_cases hl : r.length < n
    · rw [text_short ho hl]
      clear ho
      go_enter Tryd.func31, Tryd.ntmps31
      go_wp2_with fail
      refine (digits_yesS (c := 58) _ _ _ h HFF.out (by decide) rfl rfl (by omega) (by omega) hs HO.out).mono ?_
      rintro e w1 ⟨rfl, h1, g1⟩
      obtain ⟨t, ht, h1⟩ := h1.ex
      have hts : t.size < n := by rw [Lib.size_eq, ht]; exact hl
      have c0 := h1.c0
      clear ht hl h
      go_wp2_with (go_at_call 68; refine (fail_any b _ _ _ h1).mono ?_; rintro e w2 ⟨rfl, h2, g2⟩)
      go_ret
      exact ⟨rfl, h2, g1.trans g2⟩
    · have hl' : n ≤ r.length := by omega
      have ht0 : r.length ≤ 9223372036854775807 := by
        have h1 := ((digP_some (by decide)).1 ho).2
        have h2 := congrArg List.length h1
        rw [len_eq] at h2
        simp at h2
        omega
      by_cases hm : (r.drop n).head? = some 44
      · rw [text_good ho hl' hm]
        clear ho
        go_enter Tryd.func31, Tryd.ntmps31
        go_wp2_with fail
        refine (digits_yesS (c := 58) _ _ _ h HFF.out (by decide) rfl rfl (by omega) (by omega) hs HO.out).mono ?_
        rintro e w1 ⟨rfl, h1, g1⟩
        obtain ⟨t, ht, h1⟩ := h1.ex
        have hts : n ≤ t.size := by rw [Lib.size_eq, ht]; exact hl'
        have htm : t.size ≤ 9223372036854775807 := by rw [Lib.size_eq, ht]; exact ht0
        have c0 := h1.c0
        have f0 := h1.fz 0
        have hR := h1.set0 (t.extract n t.size)
        have HP := Lib.hid (show (t.extract n t.size).data.toList.head? = some 44 by rw [ext_list, ht]; exact hm)
        have HT := Lib.hid ht
        clear ht hl h hl' hm ht0
        go_wp2_with (go_at_call 69; refine (mark_yes b _ _ 44 _ hR HP.out).mono ?_; rintro e w2 ⟨rfl, h2, g2⟩; have c21 := h2.c1)
        go_ret
        exact ⟨ret_str (by rw [Lib.extract_from_zero, HT.out]), RdL.to h2 (by rw [ext_list, ext_list, HT.out, List.drop_one]), (g1.trans (only_set (World.grownBy.refl _ _) 0 _)).trans g2⟩
      · rw [text_bad ho hm]
        clear ho
        go_enter Tryd.func31, Tryd.ntmps31
        go_wp2_with fail
        refine (digits_yesS (c := 58) _ _ _ h HFF.out (by decide) rfl rfl (by omega) (by omega) hs HO.out).mono ?_
        rintro e w1 ⟨rfl, h1, g1⟩
        obtain ⟨t, ht, h1⟩ := h1.ex
        have hts : n ≤ t.size := by rw [Lib.size_eq, ht]; exact hl'
        have htm : t.size ≤ 9223372036854775807 := by rw [Lib.size_eq, ht]; exact ht0
        have c0 := h1.c0
        have f0 := h1.fz 0
        have hR := h1.set0 (t.extract n t.size)
        have HP := Lib.hid (show (t.extract n t.size).data.toList.head? ≠ some 44 by rw [ext_list, ht]; exact hm)
        have HT := Lib.hid ht
        clear ht hl h hl' hm ht0
        go_wp2_with (go_at_call 69; refine (mark_no b _ _ 44 _ hR HP.out).mono ?_; rintro e w2 ⟨rfl, h2, g2⟩; have c21 := h2.c1)
        go_ret
        exact ⟨rfl, h2, (g1.trans (only_set (World.grownBy.refl _ _) 0 _)).trans g2⟩

end Go.Proofs.YtjlndgkahmcfdaaDoor
