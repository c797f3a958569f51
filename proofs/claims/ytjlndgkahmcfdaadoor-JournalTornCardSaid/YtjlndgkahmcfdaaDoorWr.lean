/- The walks of the writers Int, Num and Text: each returns the encoding. Conditions: the table of strconv holds what its text lays; an int's bounds. -/
import Derived.Test.YtjlndgkahmcfdaaDoorBld
import Derived.Lib.ItoaLen
namespace Go.Proofs.YtjlndgkahmcfdaaDoor
set_option maxRecDepth 8000
open Go.RowKit Go.Lib

/-- The encoding of an int, of a string. -/
def wInt (n : Int) : List UInt8 := itoa n ++ [59]
def wText (s : List UInt8) : List UInt8 := decDigits s.length ++ 58 :: (s ++ [44])

theorem ret_bytes {l l' : List UInt8} (h : l = l') : Ending.returned (.string ⟨l.toArray⟩) = .returned (.string ⟨l'.toArray⟩) := by rw [h]

set_option maxHeartbeats 400000 in
theorem wInt_any (n : Int) (h0 : -9223372036854775808 ≤ n) (h1 : n ≤ 9223372036854775807) (w : World) (ht : Tab w) :
    Calls Tryd.prog 71 #[.int .i64 n] w fun e w' => e = .returned (.string ⟨(wInt n).toArray⟩) ∧ Below w.heap.size w w' := by
  go_enter Tryd.func71, Tryd.ntmps71
  go_wp2_with fail
  refine (itoa_any n h0 h1 _ ht).mono ?_
  rintro e w1 ⟨rfl, hb⟩
  have hlen := Lib.itoa_length_le n h0 h1
  generalize ht : Lib.itoa n = t at hlen
  have HT := Lib.hid ht
  clear ht
  go_wp2
  go_ret
  refine ⟨?_, hb⟩
  unfold wInt
  rw [HT.out]
  exact ret_str (by simp)

set_option maxHeartbeats 400000 in
theorem wNum_any (n : Int) (h0 : -9223372036854775808 ≤ n) (h1 : n ≤ 9223372036854775807) (w : World) (ht : Tab w) :
    Calls Tryd.prog 34 #[.int .i64 n] w fun e w' => e = .returned (.string ⟨(if n < 0 then [] else wInt n).toArray⟩) ∧ Below w.heap.size w w' := by
  by_cases hn : n < 0
  · rw [if_pos hn]
    go_enter Tryd.func34, Tryd.ntmps34
    go_wp2
    go_ret
    exact ⟨rfl, Below.refl _ _⟩
  · rw [if_neg hn]
    go_enter Tryd.func34, Tryd.ntmps34
    go_wp2_with fail
    refine (wInt_any n h0 h1 _ ht).mono ?_
    rintro e w1 ⟨rfl, hb⟩
    go_wp2
    go_ret
    exact ⟨rfl, hb⟩

set_option maxHeartbeats 400000 in
theorem wText_any (s : ByteArray) (hs : s.size ≤ 140737488355328) (w : World) (ht : Tab w) :
    Calls Tryd.prog 33 #[.string s] w fun e w' => e = .returned (.string ⟨(wText s.data.toList).toArray⟩) ∧ Below w.heap.size w w' := by
  go_enter Tryd.func33, Tryd.ntmps33
  go_wp2_with fail
  refine (itoa_any _ (by omega) (by omega) _ ht).mono ?_
  rintro e w1 ⟨rfl, hb⟩
  have hlen := Lib.itoa_length_le s.size (by omega) (by omega)
  rw [Lib.itoa_nonneg] at hlen ⊢
  generalize ht : Lib.decDigits s.size = t at hlen
  have HT := Lib.hid ht
  clear ht
  go_wp2
  go_ret
  refine ⟨?_, hb⟩
  unfold wText
  rw [len_eq, HT.out]
  exact ret_str (by simp)

end Go.Proofs.YtjlndgkahmcfdaaDoor
