/- The walk of big's Read at all texts. Conditions: lengths. -/
import Derived.Test.YtikndohlnoiebaaDoorF5
namespace Go.Proofs.YtikndohlnoiebaaDoor
set_option maxRecDepth 8000
open Go.RowKit

/-- How Read ends. -/
def RdEnd (w : World) (o : Option Int) (e : Ending) (w' : World) : Prop := match o with
  | some z => BigOk w z e w'
  | none => BadEnd w e w'
theorem ok_dec (l : List UInt8) : digOk l = (decB l && (decide (l.head? ≠ some 48) || decide (l = [48]))) := rfl
theorem byte48 {c : UInt8} (h : (c.toNat : Int) = 48) : c = 48 := UInt8.toNat_inj.1 (by show c.toNat = 48; omega)
theorem not48 {c : UInt8} (h : ¬ (c.toNat : Int) = 48) : c ≠ 48 := fun e => h (by rw [e]; rfl)
theorem read_any (s : ByteArray) (w : World) (hs : s.size ≤ 402) :
    Calls Tryd.prog 13 #[.string s] w (RdEnd w (txtOk s.data.toList)) := by
  obtain ⟨l, hl⟩ : ∃ l, s.data.toList = l := ⟨_, rfl⟩
  have hsl : s.toList = l := (toList_data s).trans hl
  have hlen : l.length ≤ 402 := by rw [← hl, size_list]; exact hs
  have hP := fun wx => Tryd.strings_CutPrefix s ⟨#[45]⟩ wx
  rw [hl] at hP ⊢
  cases l with
  | nil => exact read_nodec s ⟨#[]⟩ false w (fun wx => hP wx) rfl (by decide)
  | cons c r =>
    by_cases hc : c.toNat = 45
    · have hc2 : c = 45 := UInt8.toNat_inj.1 hc
      subst hc2
      have h1 : Lib.trimPrefix (45 :: r) [45] = r := by simp [Lib.trimPrefix, Lib.hasPrefix]
      have h2 : Lib.hasPrefix (45 :: r) [45] = true := by simp [Lib.hasPrefix]
      have hP2 : ∀ wx, Calls Tryd.prog 28 #[.string s, .string ⟨#[45]⟩] wx fun e w' => e = .returned (.tuple #[.string ⟨r.toArray⟩, .bool true]) ∧ w' = wx := fun wx => by
        have h := hP wx
        rw [show (ByteArray.mk #[45]).data.toList = [45] from rfl, h1, h2] at h
        exact h
      have hT : (ByteArray.mk r.toArray).data.toList = r := by simp
      have hTs : (ByteArray.mk r.toArray).size ≤ 402 := by rw [← size_list, hT]; simp at hlen; omega
      have ht : txtOk (45 :: r) = if digOk r && decide (r ≠ [48]) then some (-(vl r : Int)) else none := by rw [txtOk, if_pos (by rfl)]
      rw [ht]
      cases hd : decB r with
      | false =>
        rw [ok_dec, hd]
        exact read_nodec s ⟨r.toArray⟩ true w hP2 (by rw [hT]; exact hd) hTs
      | true =>
        cases r with
        | nil => cases hd
        | cons c0 r' =>
          by_cases h48 : (c0.toNat : Int) = 48
          · have e := byte48 h48
            have e2 : (digOk (c0 :: r') && decide (c0 :: r' ≠ [48])) = false := by
              rw [ok_dec, hd, e]
              by_cases hr : r' = []
              · subst hr; rfl
              · simp [hr]
            rw [e2]
            exact read_lead s ⟨(c0 :: r').toArray⟩ true w hP2 (by rw [hT]; exact hd) c0 (by rw [hT]; rfl) h48 (by rw [hsl]; simp) hTs
          · have e := not48 h48
            have e2 : (digOk (c0 :: r') && decide (c0 :: r' ≠ [48])) = true := by
              rw [ok_dec, hd]
              simp [e]
            rw [e2]
            have h := read_core s ⟨(c0 :: r').toArray⟩ true w hP2 (by rw [hT]; exact hd) c0 (by rw [hT]; rfl) h48 hTs
            rw [hT, if_pos rfl, Int.neg_mul, Int.one_mul] at h
            exact h
    · have hne : (c == 45) = false := by
        rw [beq_eq_false_iff_ne]
        intro e
        rw [e] at hc
        exact hc rfl
      have h2 : Lib.hasPrefix (c :: r) [45] = false := by
        simp [Lib.hasPrefix, List.isPrefixOf]
        intro e
        rw [← e] at hc
        exact hc rfl
      have h1 : Lib.trimPrefix (c :: r) [45] = c :: r := by rw [Lib.trimPrefix, h2]; rfl
      have hP2 : ∀ wx, Calls Tryd.prog 28 #[.string s, .string ⟨#[45]⟩] wx fun e w' => e = .returned (.tuple #[.string ⟨(c :: r).toArray⟩, .bool false]) ∧ w' = wx := fun wx => by
        have h := hP wx
        rw [show (ByteArray.mk #[45]).data.toList = [45] from rfl, h1, h2] at h
        exact h
      have hT : (ByteArray.mk (c :: r).toArray).data.toList = c :: r := by simp
      have hTs : (ByteArray.mk (c :: r).toArray).size ≤ 402 := by rw [← size_list, hT]; exact hlen
      have ht : txtOk (c :: r) = if digOk (c :: r) then some (vl (c :: r) : Int) else none := by rw [txtOk, if_neg hc]
      rw [ht]
      cases hd : decB (c :: r) with
      | false =>
        rw [ok_dec, hd]
        exact read_nodec s ⟨(c :: r).toArray⟩ false w hP2 (by rw [hT]; exact hd) hTs
      | true =>
        by_cases h48 : (c.toNat : Int) = 48
        · have e := byte48 h48
          by_cases hr : r = []
          · have e2 : digOk (c :: r) = true := by rw [ok_dec, hd, e, hr]; rfl
            rw [e2]
            have h := read_zero s ⟨(c :: r).toArray⟩ false w hP2 (by rw [hT]; exact hd) c (by rw [hT]; rfl) h48 (by rw [hsl, e, hr]; rfl) hTs
            rw [hT, if_neg (by decide), Int.one_mul] at h
            exact h
          · have e2 : digOk (c :: r) = false := by
              rw [ok_dec, hd, e]
              simp [hr]
            rw [e2]
            exact read_lead s ⟨(c :: r).toArray⟩ false w hP2 (by rw [hT]; exact hd) c (by rw [hT]; rfl) h48 (by rw [hsl]; simp [hr]) hTs
        · have e := not48 h48
          have e2 : digOk (c :: r) = true := by
            rw [ok_dec, hd]
            simp [e]
          rw [e2]
          have h := read_core s ⟨(c :: r).toArray⟩ false w hP2 (by rw [hT]; exact hd) c (by rw [hT]; rfl) h48 hTs
          rw [hT, if_neg (by decide), Int.one_mul] at h
          exact h
set_option exponentiation.threshold 500 in
theorem pow_sz : (10 : Nat) ^ 402 < 1048576 ^ 67 := by decide
set_option exponentiation.threshold 500 in
/-- Read where the text is a big integer's, in the law's words. -/
theorem read_F (s : ByteArray) (z : Int) (w : World) (hs : s.size ≤ 402) (h : txtOk s.data.toList = some z) :
    Calls Tryd.prog 13 #[.string s] w (OkF w 67 z) := by
  have h1 := read_any s w hs
  rw [h] at h1
  refine h1.mono fun e w' he => BigOk.f he ?_
  have h2 := (txtOk_itoa h).2
  have h3 : (10 : Nat) ^ s.data.toList.length ≤ 10 ^ 402 := Nat.pow_le_pow_right (by decide) (by rw [size_list]; exact hs)
  exact Nat.lt_of_lt_of_le h2 (Nat.le_trans h3 (Nat.le_of_lt pow_sz))
theorem read_N (s : ByteArray) (w : World) (hs : s.size ≤ 402) (h : txtOk s.data.toList = none) :
    Calls Tryd.prog 13 #[.string s] w (BadEnd w) := by
  have h1 := read_any s w hs
  rw [h] at h1
  exact h1
end Go.Proofs.YtikndohlnoiebaaDoor
