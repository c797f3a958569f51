/- Numerals and escapes, plainly, and the walks of lexer's Number, inQuotes, Quote. Conditions: the variables of strconv and of bytealg that the calls read are there; lengths. -/
import Derived.Test.YtkhkdgkafocpoaaDoorL3
import Derived.Test.YtkhkdgkafocpoaaDoorShelf
import Derived.Lib.AtoiAll
import Derived.Lib.Replace
import Derived.Lib.IndexBytes
import Derived.Lib.AtoiErrMem
namespace Go.Proofs.YtkhkdgkafocpoaaDoor
set_option maxRecDepth 8000
open Go.RowKit

def escOne (c : UInt8) (new : List UInt8) (b : UInt8) : List UInt8 := if b = c then new else [b]
theorem index_cons_ne {b c : UInt8} (l : List UInt8) (h : b ≠ c) : Lib.index (b :: l) [c] = if Lib.index l [c] == -1 then -1 else Lib.index l [c] + 1 := by
  rw [Lib.index_one, Lib.index_one, Lib.indexByte, if_neg (by simpa using h)]
theorem index_cons_eq (c : UInt8) (l : List UInt8) : Lib.index (c :: l) [c] = 0 := by
  rw [Lib.index_one, Lib.indexByte, if_pos (by simp)]
theorem replaceK_flat (c : UInt8) (new : List UInt8) : ∀ (l : List UInt8) (k : Nat), l.count c ≤ k → Lib.replaceK [c] new k l = l.flatMap (escOne c new) := by
  intro l
  induction l with
  | nil => intro k _; cases k <;> rfl
  | cons b l ih =>
    intro k hk
    rw [List.flatMap_cons]
    by_cases h : b = c
    · subst h
      rw [List.count_cons_self] at hk
      cases k with
      | zero => omega
      | succ k =>
        rw [Lib.replaceK, index_cons_eq, if_neg (by decide)]
        show [] ++ new ++ Lib.replaceK [b] new k l = _
        rw [ih k (by omega), escOne, if_pos rfl]; rfl
    · rw [List.count_cons_of_ne (by simpa using h)] at hk
      have e := ih k hk
      rw [escOne, if_neg h, ← e]
      cases k with
      | zero => rfl
      | succ k =>
        rw [Lib.replaceK, Lib.replaceK, index_cons_ne l h]
        by_cases hm : Lib.index l [c] = -1
        · rw [hm]; rfl
        · have hge := Lib.index_ge l [c]
          obtain ⟨i, hi⟩ : ∃ i : Nat, Lib.index l [c] = i := ⟨(Lib.index l [c]).toNat, by omega⟩
          have h1 : ¬ ((Lib.index l [c] == -1) = true) := by simpa using hm
          rw [if_neg h1, hi]
          have h2 : ¬ (((i : Int) + 1 == -1) = true) := by rw [beq_iff_eq]; omega
          have h3 : ¬ (((i : Int) == -1) = true) := by rw [beq_iff_eq]; omega
          rw [if_neg h2, if_neg h3]
          have e1 : ((i : Int) + 1).toNat = i + 1 := by omega
          have e2 : ((i : Int)).toNat = i := by omega
          rw [e1, e2]
          have e3 : i + 1 + [c].length = (i + [c].length) + 1 := by omega
          rw [List.take_succ_cons, e3, List.drop_succ_cons]; rfl
theorem replaceAll_flat (c : UInt8) (new l : List UInt8) (h : [c] ≠ new) : Lib.replaceAll l [c] new = l.flatMap (escOne c new) := by
  unfold Lib.replaceAll Lib.replace
  rw [if_neg (by simpa using h)]
  refine replaceK_flat c new l _ ?_
  rw [Lib.replaceNum, if_pos (.inl (by omega)), Lib.count_one]
  exact Nat.le_refl _
theorem valD_ge : ∀ (l : List UInt8) (a : Nat), a ≤ l.foldl (fun n b => 10 * n + (b.toNat - 48)) a := by
  intro l
  induction l with
  | nil => intro a; exact Nat.le_refl _
  | cons b l ih => intro a; rw [List.foldl_cons]; have := ih (10 * a + (b.toNat - 48)); omega
theorem parse_digits : ∀ (l : List UInt8) (a : Nat), a < 18446744073709551616 → l.all digB = true →
    Lib.parseUint10 a l = if l.foldl (fun n b => 10 * n + (b.toNat - 48)) a < 18446744073709551616 then .ok (l.foldl (fun n b => 10 * n + (b.toNat - 48)) a) else .range := by
  intro l
  induction l with
  | nil => intro a ha _; rw [Lib.parseUint10, List.foldl_nil, if_pos ha]
  | cons b l ih =>
    intro a ha h
    rw [List.all_cons, Bool.and_eq_true] at h
    have hb : 48 ≤ b.toNat ∧ b.toNat ≤ 57 := by simpa [digB] using h.1
    rw [Lib.parseUint10, if_pos hb, List.foldl_cons]
    have hge := valD_ge l (10 * a + (b.toNat - 48))
    have e : a * 10 + (b.toNat - 48) = 10 * a + (b.toNat - 48) := by omega
    split
    · rw [if_neg (by omega)]
    · rw [e]
      split
      · rw [if_neg (by omega)]
      · rw [ih _ (by omega) h.2]
theorem atoi_digits {l : List UInt8} (hne : l ≠ []) (h : l.all digB = true) : Lib.atoiAll l = if valD l < 9223372036854775808 then .ok (valD l : Int) else .range := by
  cases l with
  | nil => exact absurd rfl hne
  | cons b l =>
    have h0 := h
    rw [List.all_cons, Bool.and_eq_true] at h
    have hb : 48 ≤ b.toNat ∧ b.toNat ≤ 57 := by simpa [digB] using h.1
    have h45 : ¬ (b.toNat = 45) := by omega
    have h43 : ¬ (b.toNat = 43) := by omega
    unfold Lib.atoiAll
    simp only [h43, h45, or_false, if_false]
    rw [Lib.parseMag, if_neg (by simp), parse_digits _ 0 (by omega) h0]
    have hv : (b :: l).foldl (fun n b => 10 * n + (b.toNat - 48)) 0 = valD (b :: l) := rfl
    rw [hv]
    by_cases h1 : valD (b :: l) < 18446744073709551616
    · rw [if_pos h1]
      simp only
      by_cases h2 : valD (b :: l) < 9223372036854775808
      · simp [h2]
      · simp [h2]
    · rw [if_neg h1, if_neg (by omega)]
theorem hasZero {l : List UInt8} : Lib.hasPrefix l [48] = (l.head? == some 48) := by
  cases l with
  | nil => rfl
  | cons b l =>
    have e : Lib.hasPrefix (b :: l) [48] = (48 == b) := by simp [Lib.hasPrefix, List.isPrefixOf]
    rw [e, List.head?_cons]
    by_cases h : b = 48
    · subst h; rfl
    · have h1 : (48 == b) = false := by rw [beq_eq_false_iff_ne]; exact fun e => h e.symm
      rw [h1]; symm; simpa using h
/-- The four ways of a numeral. -/
theorem num_bad {l : List UInt8} (h : l.all digB = false) : numP l = none := by
  unfold numP
  rw [if_neg]
  intro hc
  rw [h] at hc
  exact absurd hc.2.1 (by simp)
theorem num_zero {l : List UInt8} (h : l ≠ [48]) (h2 : l.head? = some 48) : numP l = none := by
  unfold numP
  rw [if_neg]
  intro hc
  rcases hc.2.2.1 with h3 | h3
  · exact h h3
  · exact h3 h2
theorem num_some {l : List UInt8} (hne : l ≠ []) (h : l.all digB = true) (h2 : l = [48] ∨ l.head? ≠ some 48) : numP l = if valD l ≤ 1099511627776 then some (valD l) else none := by
  unfold numP
  by_cases hv : valD l ≤ 1099511627776
  · rw [if_pos ⟨hne, h, h2, hv⟩, if_pos hv]
  · rw [if_neg (fun hc => hv hc.2.2.2), if_neg hv]
theorem size_mk (l : List UInt8) : (⟨l.toArray⟩ : ByteArray).size = l.length := by
  show l.toArray.size = _
  simp
/-- Variables that the calls read: the array of signs, the two errors of strconv, the length of bytealg. -/
def Env (w : World) : Prop := SigT w ∧ (∃ ev, w.cell? ⟨1, 0, none⟩ = some ev ∧ (ev = .nilIface ∨ ∃ te pe, ev = .iface te pe)) ∧ (∃ ev, w.cell? ⟨2, 0, none⟩ = some ev ∧ (ev = .nilIface ∨ ∃ te pe, ev = .iface te pe)) ∧ ∃ m, w.cell? ⟨3, 0, none⟩ = some (.int .i64 m)
theorem Env.on {w w' : World} (h : Env w) (hb : Below w.heap.size w w') : Env w' := by
  obtain ⟨h1, ⟨e1, h2, h3⟩, ⟨e2, h4, h5⟩, m, h6⟩ := h
  refine ⟨h1.on hb, ⟨e1, ?_, h3⟩, ⟨e2, ?_, h5⟩, m, ?_⟩
  · exact (hb.cell (World.block_lt_of_cell? w _ h2)).trans h2
  · exact (hb.cell (World.block_lt_of_cell? w _ h4)).trans h4
  · exact (hb.cell (World.block_lt_of_cell? w _ h6)).trans h6
/-- How Number ends. -/
def NumEnd (l : List UInt8) (w : World) (e : Ending) (w' : World) : Prop :=
  e = .returned (match numP l with | some n => .tuple #[.int .i64 (n : Int), .bool true] | none => .tuple #[.int .i64 0, .bool false]) ∧ Below w.heap.size w w'
theorem NumEnd.no {l : List UInt8} {w w' : World} {e : Ending} (h : Hid (numP l = none)) (he : e = .returned (.tuple #[.int .i64 0, .bool false])) (hb : Below w.heap.size w w') : NumEnd l w e w' := by
  refine ⟨?_, hb⟩
  rw [h.out]; exact he
theorem NumEnd.yes {l : List UInt8} {w w' : World} {e : Ending} {n : Nat} (h : Hid (numP l = some n)) (he : e = .returned (.tuple #[.int .i64 (n : Int), .bool true])) (hb : Below w.heap.size w w') : NumEnd l w e w' := by
  refine ⟨?_, hb⟩
  rw [h.out]; exact he
/-- How Atoi ends at a numeral, or at no text. -/
def AtoiEnd (o : Option Int) (w : World) (e : Ending) (w' : World) : Prop :=
  (∃ v, o = some v ∧ e = .returned (.tuple #[.int .i64 v, .nilIface]) ∨ o = none ∧ ∃ z N, v = z ∧ e = .returned (.tuple #[.int .i64 z, .iface 67 (.pointer (some ⟨N, 0, none⟩))])) ∧ Below w.heap.size w w'
theorem atoi_some (s : ByteArray) (v : Int) (w : World) (hs : s.size ≤ 1073741824) (h : Lib.atoiAll s.data.toList = .ok v) :
    Calls Tryd.prog 32 #[.string s] w fun e w' => e = .returned (.tuple #[.int .i64 v, .nilIface]) ∧ Below w.heap.size w w' :=
  (Tryd.strconv_Atoi_ok s (by omega) v h w).mono fun e w' ⟨he, hw⟩ => ⟨he, by
    rcases hw with rfl | ⟨t, rfl⟩
    · exact Below.refl _ _
    · exact Lib.bytesWorld_below w _ t⟩
theorem atoi_none (s : ByteArray) (w : World) (hs : s.size ≤ 1073741824) (hE : Hid (Env w)) (h : ∀ v, Lib.atoiAll s.data.toList ≠ .ok v) :
    Calls Tryd.prog 32 #[.string s] w fun e w' => (∃ z N, e = .returned (.tuple #[.int .i64 z, .iface 67 (.pointer (some ⟨N, 0, none⟩))])) ∧ Below w.heap.size w w' := by
  obtain ⟨_, ⟨e1, h2, h3⟩, ⟨e2, h4, h5⟩, _⟩ := hE.out
  cases hx : Lib.atoiAll s.data.toList
  · exact absurd hx (h _)
  · exact (Any.strconv_Atoi_syntax Tryd.laysC172 s (by omega) hx e1 w h2 h3).mono fun e w' ⟨N, he, _, _, hb⟩ => ⟨⟨_, N, he⟩, hb⟩
  · exact (Tryd.strconv_Atoi_range s (by omega) hx e2 w h4 h5).mono fun e w' ⟨N, he, _, _, hb⟩ => ⟨⟨_, N, he⟩, hb⟩
theorem size_of_zero {s : ByteArray} : (s.data.toList = [48]) ↔ s = ⟨#[48]⟩ := by
  cases s with
  | mk a =>
    constructor
    · intro h
      have : a = #[48] := by apply Array.toList_inj.1; exact h
      rw [this]
    · intro h; injection h with h; rw [h]
set_option maxHeartbeats 1000000 in
theorem Number_any (s : ByteArray) (w : World) (hs : s.size ≤ 1073741824) (hE : Hid (Env w)) :
    Calls Tryd.prog 13 #[.string s] w (NumEnd s.data.toList w) := by
  have HB : Hid (Below w.heap.size w w) := Below.refl _ _
  have C1 := Lib.hid (count_digit s w hs)
  have hcnt := cnt_all (f := digB) s
  cases hall : s.data.toList.all digB
  · have hres := Lib.hid (num_bad hall)
    have hne : (((cntP digB s.data.toList : Nat) : Int) != (s.size : Int)) = true := by
      rw [hall] at hcnt
      rw [bne, hcnt]; rfl
    obtain ⟨c, hc⟩ : ∃ c : Int, ((cntP digB s.data.toList : Nat) : Int) = c := ⟨_, rfl⟩
    rw [hc] at hne C1
    clear hc hcnt hall
    go_enter Tryd.func13, Tryd.ntmps13
    go_wp2_with (go_at_call 29; refine C1.out.mono ?_; rintro e w' ⟨rfl, rfl⟩)
    go_ret2
    exact NumEnd.no hres rfl HB.out
  · have heq : (((cntP digB s.data.toList : Nat) : Int) != (s.size : Int)) = false := by
      rw [hall] at hcnt
      rw [bne, hcnt]; rfl
    obtain ⟨c, hc⟩ : ∃ c : Int, ((cntP digB s.data.toList : Nat) : Int) = c := ⟨_, rfl⟩
    rw [hc] at heq C1
    have HP := Lib.hid (Tryd.strings_HasPrefix s ⟨#[48]⟩ w)
    clear hc hcnt
    have tl : s.toList = s.data.toList := Lib.toList_data s
    by_cases hem : s.data.toList = []
    · have hres : Hid (numP s.data.toList = none) := by
        show _ = _
        rw [hem]; rfl
      have hat : Hid (∀ v, Lib.atoiAll s.data.toList ≠ .ok v) := by
        intro v h
        rw [hem] at h; cases h
      have hz : ¬ s.toList = [48] := by rw [tl, hem]; simp
      have hzb : (!s.toList == [48]) = true := by simpa using hz
      have hp : Lib.hasPrefix s.data.toList (⟨#[48]⟩ : ByteArray).data.toList = false := by rw [hem]; rfl
      have HP' : Hid (Calls Tryd.prog 31 #[.string s, .string ⟨#[48]⟩] w fun e w' => e = .returned (.bool false) ∧ w' = w) := by
        have := HP.out
        rw [hp] at this
        exact this
      have HA := Lib.hid (atoi_none s w hs hE hat.out)
      clear hp HP tl hem hall hat
      go_enter Tryd.func13, Tryd.ntmps13
      go_wp2_with (first | (go_at_call 29; refine C1.out.mono ?_; rintro e w' ⟨rfl, rfl⟩) | (go_at_call 31; refine HP'.out.mono ?_; rintro e w' ⟨rfl, rfl⟩) | (go_at_call 32; refine HA.out.mono ?_; rintro e w' ⟨⟨z, N, rfl⟩, hb⟩; have HBB := Lib.hid hb; clear hb))
      go_ret2
      exact NumEnd.no hres rfl HBB.out
    · by_cases hz : s.data.toList = [48]
      · have hres : Hid (numP s.data.toList = some 0) := by
          show _ = _
          rw [hz]; rfl
        have hat : Lib.atoiAll s.data.toList = .ok 0 := by rw [hz]; rfl
        have HA := Lib.hid (atoi_some s 0 w hs hat)
        have hz' : s.toList = [48] := by rw [tl]; exact hz
        clear HP tl hem hall hat hz
        go_enter Tryd.func13, Tryd.ntmps13
        go_wp2_with (first | (go_at_call 29; refine C1.out.mono ?_; rintro e w' ⟨rfl, rfl⟩) | (go_at_call 32; refine HA.out.mono ?_; rintro e w' ⟨rfl, hb⟩; have HBB := Lib.hid hb; clear hb))
        go_ret2
        exact NumEnd.yes hres rfl HBB.out
      · have hz' : ¬ s.toList = [48] := by rw [tl]; exact hz
        have hzb : (!s.toList == [48]) = true := by simpa using hz'
        have hpe : Lib.hasPrefix s.data.toList (⟨#[48]⟩ : ByteArray).data.toList = (s.data.toList.head? == some 48) := hasZero
        cases hp : (s.data.toList.head? == some 48)
        · have hns := num_some hem hall (.inr (by simpa using hp))
          have had := atoi_digits hem hall
          have HP' : Hid (Calls Tryd.prog 31 #[.string s, .string ⟨#[48]⟩] w fun e w' => e = .returned (.bool false) ∧ w' = w) := by
            have := HP.out
            rw [hpe, hp] at this
            exact this
          by_cases hbig : valD s.data.toList < 9223372036854775808
          · rw [if_pos hbig] at had
            have HA := Lib.hid (atoi_some s _ w hs had)
            obtain ⟨v, hv⟩ : ∃ v : Nat, valD s.data.toList = v := ⟨_, rfl⟩
            rw [hv] at HA hns
            have hvb : v < 9223372036854775808 := by rw [← hv]; exact hbig
            clear HP tl hem hall hz had hp hpe hbig hv
            by_cases hm : v ≤ 1099511627776
            · rw [if_pos hm] at hns
              have hres := Lib.hid hns
              have hd : decide ((1099511627776 : Int) < (v : Int)) = false := by simp; omega
              clear hns hm hvb
              go_enter Tryd.func13, Tryd.ntmps13
              go_wp2_with (first | (go_at_call 29; refine C1.out.mono ?_; rintro e w' ⟨rfl, rfl⟩) | (go_at_call 31; refine HP'.out.mono ?_; rintro e w' ⟨rfl, rfl⟩) | (go_at_call 32; refine HA.out.mono ?_; rintro e w' ⟨rfl, hb⟩; have HBB := Lib.hid hb; clear hb))
              go_ret2
              exact NumEnd.yes hres rfl HBB.out
            · rw [if_neg hm] at hns
              have hres := Lib.hid hns
              have hd : decide ((1099511627776 : Int) < (v : Int)) = true := by simp; omega
              clear hns hm hvb
              go_enter Tryd.func13, Tryd.ntmps13
              go_wp2_with (first | (go_at_call 29; refine C1.out.mono ?_; rintro e w' ⟨rfl, rfl⟩) | (go_at_call 31; refine HP'.out.mono ?_; rintro e w' ⟨rfl, rfl⟩) | (go_at_call 32; refine HA.out.mono ?_; rintro e w' ⟨rfl, hb⟩; have HBB := Lib.hid hb; clear hb))
              go_ret2
              exact NumEnd.no hres rfl HBB.out
          · rw [if_neg hbig] at had
            rw [if_neg (by omega)] at hns
            have hres := Lib.hid hns
            have HA := Lib.hid (atoi_none s w hs hE (fun v h => by rw [had] at h; cases h))
            clear HP tl hem hall hz had hp hpe hbig hns
            go_enter Tryd.func13, Tryd.ntmps13
            go_wp2_with (first | (go_at_call 29; refine C1.out.mono ?_; rintro e w' ⟨rfl, rfl⟩) | (go_at_call 31; refine HP'.out.mono ?_; rintro e w' ⟨rfl, rfl⟩) | (go_at_call 32; refine HA.out.mono ?_; rintro e w' ⟨⟨z, N, rfl⟩, hb⟩; have HBB := Lib.hid hb; clear hb))
            go_ret2
            exact NumEnd.no hres rfl HBB.out
        · have hres := Lib.hid (num_zero hz (by simpa using hp))
          have HP' : Hid (Calls Tryd.prog 31 #[.string s, .string ⟨#[48]⟩] w fun e w' => e = .returned (.bool true) ∧ w' = w) := by
            have := HP.out
            rw [hpe, hp] at this
            exact this
          clear HP tl hem hall hz hp hpe
          go_enter Tryd.func13, Tryd.ntmps13
          go_wp2_with (first | (go_at_call 29; refine C1.out.mono ?_; rintro e w' ⟨rfl, rfl⟩) | (go_at_call 31; refine HP'.out.mono ?_; rintro e w' ⟨rfl, rfl⟩))
          go_ret2
          exact NumEnd.no hres rfl HB.out
theorem escOne_twice : ∀ l : List UInt8, (l.flatMap (escOne 92 [92, 92])).flatMap (escOne 34 [92, 34]) = escP l := by
  intro l
  induction l with
  | nil => rfl
  | cons b l ih =>
    rw [List.flatMap_cons, List.flatMap_append, ih, escP]
    by_cases h1 : b = 92
    · subst h1; rfl
    · by_cases h2 : b = 34
      · subst h2; rfl
      · have h3 : (b.toNat == 34 || b.toNat == 92) = false := by
          have n1 : b.toNat ≠ 92 := fun h => h1 (UInt8.toNat_inj.1 h)
          have n2 : b.toNat ≠ 34 := fun h => h2 (UInt8.toNat_inj.1 h)
          simp [n1, n2]
        rw [h3, if_neg (by simp), escOne, if_neg h1]
        show escOne 34 [92, 34] b ++ [] ++ _ = _
        rw [escOne, if_neg h2]; rfl
theorem flat_length (c : UInt8) (x y : UInt8) : ∀ l : List UInt8, (l.flatMap (escOne c [x, y])).length ≤ 2 * l.length := by
  intro l
  induction l with
  | nil => simp
  | cons b l ih =>
    rw [List.flatMap_cons, List.length_append, List.length_cons, escOne]
    split <;> simp only [List.length_cons, List.length_nil] <;> omega
theorem repl_any (s : ByteArray) (c x y : UInt8) (w : World) (hs : s.size ≤ 1073741824) (hE : Hid (Env w)) :
    Calls Tryd.prog 52 #[.string s, .string ⟨#[c]⟩, .string ⟨#[x, y]⟩] w fun e w' => e = .returned (.string ⟨(s.data.toList.flatMap (escOne c [x, y])).toArray⟩) ∧ Below w.heap.size w w' := by
  obtain ⟨_, _, _, m, hm⟩ := hE.out
  have h1 := Lib.count_le s.data.toList [c]
  have hl : s.data.toList.length = s.size := by simp
  rw [hl] at h1
  have hlen : s.size + Lib.countB s ⟨#[c]⟩ * (⟨#[x, y]⟩ : ByteArray).size ≤ 140737488355328 := by
    have h2 : Lib.countB s ⟨#[c]⟩ ≤ s.size + 1 := h1
    have h3 : (⟨#[x, y]⟩ : ByteArray).size = 2 := rfl
    rw [h3]
    omega
  refine (Tryd.strings_ReplaceAll s ⟨#[c]⟩ ⟨#[x, y]⟩ m w (by omega) hm (Nat.le_refl 1) hlen).mono fun e w' ⟨he, hb⟩ => ⟨?_, hb⟩
  have hr : Lib.replaceAll s.data.toList [c] [x, y] = s.data.toList.flatMap (escOne c [x, y]) := replaceAll_flat c [x, y] s.data.toList (by simp)
  rw [he]
  show Ending.returned (.string ⟨(Lib.replaceAll s.data.toList [c] [x, y]).toArray⟩) = _
  rw [hr]
set_option maxHeartbeats 1000000 in
theorem inQuotes_any (s : ByteArray) (w : World) (hs : s.size ≤ 268435456) (hE : Hid (Env w)) :
    Calls Tryd.prog 35 #[.string s] w fun e w' => e = .returned (.string ⟨(quoP s.data.toList).toArray⟩) ∧ Below w.heap.size w w' := by
  have h1 := flat_length 92 92 92 s.data.toList
  have h2 := flat_length 34 92 34 (s.data.toList.flatMap (escOne 92 [92, 92]))
  have hl : s.data.toList.length = s.size := by simp
  have hres : Hid (quoP s.data.toList = 34 :: ((s.data.toList.flatMap (escOne 92 [92, 92])).flatMap (escOne 34 [92, 34]) ++ [34])) := by
    show _ = _
    rw [escOne_twice]; rfl
  have C1 := Lib.hid (repl_any s 92 92 92 w (by omega) hE)
  obtain ⟨t, ht⟩ : ∃ t : ByteArray, t = ⟨(s.data.toList.flatMap (escOne 92 [92, 92])).toArray⟩ := ⟨_, rfl⟩
  have htl : t.data.toList = s.data.toList.flatMap (escOne 92 [92, 92]) := by rw [ht]
  have hts : t.size ≤ 2 * s.size := by
    have : t.size = (s.data.toList.flatMap (escOne 92 [92, 92])).length := by rw [← htl]; simp
    omega
  rw [← ht] at C1
  rw [← htl] at hres h2
  obtain ⟨u, hu⟩ : ∃ u : ByteArray, u = ⟨(t.data.toList.flatMap (escOne 34 [92, 34])).toArray⟩ := ⟨_, rfl⟩
  have hus : u.size ≤ 1073741824 := by
    have : u.size = (t.data.toList.flatMap (escOne 34 [92, 34])).length := by rw [hu]; exact size_mk _
    have : t.data.toList.length = t.size := by simp
    omega
  have HU := Lib.hid hu
  have HS := Lib.hid hts
  clear h1 h2 hl htl ht hu hts
  go_enter Tryd.func35, Tryd.ntmps35
  go_wp2_with fail
  refine C1.out.mono ?_
  rintro e w1 ⟨rfl, hb1⟩
  have HB1 := Lib.hid hb1
  clear hb1
  have C2 : Hid (Calls Tryd.prog 52 #[.string t, .string ⟨#[34]⟩, .string ⟨#[92, 34]⟩] w1 fun e w' => e = .returned (.string u) ∧ Below w1.heap.size w1 w') := by
    have := repl_any t 34 92 34 w1 (by have := HS.out; omega) (hE.out.on HB1.out)
    rw [← HU.out] at this
    exact this
  go_wp2_with fail
  refine C2.out.mono ?_
  rintro e w2 ⟨rfl, hb2⟩
  have HB2 : Hid (Below w.heap.size w w2) := HB1.out.trans (hb2.mono HB1.out.size)
  clear hb2
  go_wp2_with fail
  go_ret
  refine ⟨?_, HB2.out⟩
  rw [hres.out]
  show Ending.returned (.string (⟨#[34]⟩ ++ u ++ ⟨#[34]⟩)) = _
  rw [HU.out]
  congr 2
end Go.Proofs.YtkhkdgkafocpoaaDoor
