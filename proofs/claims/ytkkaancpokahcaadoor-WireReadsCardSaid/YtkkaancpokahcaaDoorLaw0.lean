/- The walks of the statements' own helpers: kind and small. Condition: the table of strconv holds what its text lays. -/
import Derived.Test.YtkkaancpokahcaaDoorRl
namespace Go.Proofs.YtkkaancpokahcaaDoor
open Go.RowKit Go.Lib

theorem tm5 (k : Int) : (0 ≤ k → k.tmod 5 = k % 5) ∧ (k < 0 → k.tmod 5 = -((-k) % 5)) := by
  refine ⟨fun h => Int.tmod_eq_emod_of_nonneg h, fun h => ?_⟩
  have h1 : (-k).tmod 5 = (-k) % 5 := Int.tmod_eq_emod_of_nonneg (by omega)
  rw [Int.neg_tmod] at h1
  omega
theorem tm_lo {k : Int} (h : k.tmod 5 < 0) : wrap64 (k.tmod 5 + 5) = k % 5 := by
  obtain ⟨h1, h2⟩ := tm5 k
  rw [IntWalk.wrap64_in _ (by omega)]
  omega
theorem tm_hi {k : Int} (h : ¬ k.tmod 5 < 0) : k.tmod 5 = k % 5 := by
  obtain ⟨h1, h2⟩ := tm5 k
  omega

set_option maxHeartbeats 400000 in
theorem kind_any (k : Int) (v1 v2 v3 v4 : Value) (w : World) :
    Calls Tryd.prog 23 #[.agg #[.int .i64 k, v1, v2, v3, v4]] w fun e w' => e = .returned (.int .i64 (k % 5)) ∧ Below w.heap.size w w' := by
  by_cases hk : k.tmod 5 < 0
  · go_enter Tryd.func23, Tryd.ntmps23
    go_wp2
    go_ret
    exact ⟨congrArg (fun x => Ending.returned (.int .i64 x)) (tm_lo hk), (Below.refl _ _).alloc (Nat.le_refl _) _⟩
  · go_enter Tryd.func23, Tryd.ntmps23
    go_wp2
    go_ret
    exact ⟨congrArg (fun x => Ending.returned (.int .i64 x)) (tm_hi (by omega)), (Below.refl _ _).alloc (Nat.le_refl _) _⟩

theorem kind_eq (k q : Int) (hq : k % 5 = q) (v1 v2 v3 v4 : Value) (w : World) :
    Calls Tryd.prog 23 #[.agg #[.int .i64 k, v1, v2, v3, v4]] w fun e w' => e = .returned (.int .i64 q) ∧ Below w.heap.size w w' := by
  subst hq
  exact kind_any k v1 v2 v3 v4 w

theorem i0 : wInt 0 = [48, 59] := by simp [wInt, itoa, decDigits]
theorem i300 : wInt 300 = [51, 48, 48, 59] := by simp [wInt, itoa, decDigits]
theorem im7 : wInt (-7) = [45, 55, 59] := by simp [wInt, itoa, decDigits]
theorem i7 : wInt 7 = [55, 59] := by simp [wInt, itoa, decDigits]
theorem tab3 : wText [97, 44, 98] = [51, 58, 97, 44, 98, 44] := by simp [wText, decDigits]
theorem l2 : wList wInt [1, -1] = [50, 91, 49, 59, 45, 49, 59, 93] := by simp [wList, wInt, itoa, decDigits]
theorem l0 : wList wTextB [] = [48, 91, 93] := by simp [wList, decDigits]
theorem n007 : numP [48, 48, 55, 59] = none := by decide

theorem below_of_only {w w' : World} {B b : Nat} (h : w.grownBy w' (some b)) (hb : B ≤ b ∧ B ≤ w.heap.size) : Below B w w' :=
  ⟨h.os, h.tape, h.output, h.size, fun i hi => h.block i (by omega) (fun e => by have := Option.some.inj e; omega)⟩
theorem blw {w w1 w2 : World} (h : Below w.heap.size w w1) (h2 : Below w1.heap.size w1 w2) : Below w.heap.size w w2 := h.trans (h2.mono h.size)

theorem s_num (n : Int) (l : List UInt8) (h0 : -9223372036854775808 ≤ n) (h1 : n ≤ 9223372036854775807) (hl : (if n < 0 then [] else wInt n) = l) (w : World) (ht : Tab w) :
    Calls Tryd.prog 11 #[.int .i64 n] w fun e w' => e = .returned (.string ⟨l.toArray⟩) ∧ Below w.heap.size w w' := by
  subst hl
  exact wNum_any n h0 h1 w ht
theorem s_int (n : Int) (l : List UInt8) (h0 : -9223372036854775808 ≤ n) (h1 : n ≤ 9223372036854775807) (hl : wInt n = l) (w : World) (ht : Tab w) :
    Calls Tryd.prog 13 #[.int .i64 n] w fun e w' => e = .returned (.string ⟨l.toArray⟩) ∧ Below w.heap.size w w' := by
  subst hl
  exact wInt_any n h0 h1 w ht
theorem s_text (w : World) (ht : Tab w) :
    Calls Tryd.prog 15 #[.string ⟨#[97, 44, 98]⟩] w fun e w' => e = .returned (.string ⟨#[51, 58, 97, 44, 98, 44]⟩) ∧ Below w.heap.size w w' :=
  (wText_any ⟨#[97, 44, 98]⟩ (by decide) w ht).mono fun e w' ⟨he, hb⟩ => ⟨by rw [he]; exact ret_bytes tab3, hb⟩
theorem s_texts (w : World) (ht : Tab w) :
    Calls Tryd.prog 19 #[.slice none 0 0] w fun e w' => e = .returned (.string ⟨#[48, 91, 93]⟩) ∧ Below w.heap.size w w' :=
  (texts_any none 0 0 0 [] w ht Reads.none_ (Nat.zero_le _) (by omega) (by simp) (by rw [l0]; decide)).mono fun e w' ⟨he, hb⟩ => ⟨by rw [he]; exact ret_bytes l0, hb⟩
theorem s_nums (a : Addr) (w : World) (ht : Tab w) (h0 : w.cell? a = some (.int .i64 1)) (h1 : w.cell? (a.add 1) = some (.int .i64 (-1))) (hb : a.block < w.heap.size) :
    Calls Tryd.prog 17 #[.slice (some a) 2 2] w fun e w' => e = .returned (.string ⟨#[50, 91, 49, 59, 45, 49, 59, 93]⟩) ∧ Below w.heap.size w w' :=
  (nums_any (some a) 2 2 w.heap.size [1, -1] w ht ⟨rfl, fun _ => ⟨a, rfl, hb, fun j u hu => by
    match j, hu with
    | 0, hu => simp at hu; subst hu; simpa [Addr.add] using h0
    | 1, hu => simp at hu; subst hu; exact h1⟩⟩ (Nat.le_refl _) (by omega) (by simp) (by rw [l2]; decide)).mono fun e w' ⟨he, hb⟩ => ⟨by rw [he]; exact ret_bytes l2, hb⟩

set_option maxHeartbeats 1000000 in
theorem small_any (w : World) (ht : Tab w) :
    Calls Tryd.prog 9 #[] w fun e w' => e = .returned (.bool true) ∧ Below w.heap.size w w' := by
  go_enter Tryd.func9, Tryd.ntmps9
  go_wp2_with fail
  refine (s_num 0 [48, 59] (by omega) (by omega) i0 _ ht).mono ?_
  rintro e w1 ⟨rfl, b1⟩
  have t1 := ht.on b1
  go_wp2_with fail
  refine (s_num 300 [51, 48, 48, 59] (by omega) (by omega) i300 _ t1).mono ?_
  rintro e w2 ⟨rfl, b2⟩
  have t2 := t1.on b2
  go_wp2_with fail
  refine (s_num (-1) [] (by omega) (by omega) rfl _ t2).mono ?_
  rintro e w3 ⟨rfl, b3⟩
  have t3 := t2.on b3
  go_wp2_with fail
  refine (s_int (-7) [45, 55, 59] (by omega) (by omega) im7 _ t3).mono ?_
  rintro e w4 ⟨rfl, b4⟩
  have t4 := t3.on b4
  go_wp2_with fail
  refine (s_int 7 [55, 59] (by omega) (by omega) i7 _ t4).mono ?_
  rintro e w5 ⟨rfl, b5⟩
  have t5 := t4.on b5
  go_wp2_with fail
  refine (s_text _ t5).mono ?_
  rintro e w6 ⟨rfl, b6⟩
  have t6 := t5.on b6
  have hal : Below w6.heap.size w6 (w6.alloc (.cells #[.int .i64 1, .int .i64 (-1)] 3)) := (Below.refl _ _).alloc (Nat.le_refl _) _
  have ta := t6.on hal
  go_wp2_with fail
  refine (s_nums _ _ ta (by simp) (by simp [Addr.add]) (by simp)).mono ?_
  rintro e w7 ⟨rfl, b7⟩
  have q7 : Below w.heap.size w w7 := blw (blw (blw (blw (blw (blw (blw b1 b2) b3) b4) b5) b6) hal) b7
  have t7 := ht.on q7
  clear t1 t2 t3 t4 t5 t6 ta b1 b2 b3 b4 b5 b6 hal b7
  go_wp2_with fail
  refine (s_texts _ t7).mono ?_
  rintro e w8 ⟨rfl, b8⟩
  have q8 := blw q7 b8
  go_wp2_with fail
  refine (open_any _ _).mono ?_
  rintro e w9 ⟨rfl, hR, b9⟩
  have q9 := blw q8 b9
  go_wp2_with fail
  refine (num_no hR (fun h => by cases h) (by decide) n007).mono ?_
  rintro e w10 ⟨rfl, hR10, g10⟩
  have q10 : Below w.heap.size w w10 := q9.trans (below_of_only g10 (by have := q8.size; have := b9.size; omega))
  go_wp2_with fail
  refine (left_any _ _ _ _ hR10).mono ?_
  rintro e w11 ⟨rfl, rfl⟩
  go_wp2_with fail
  refine (done_any _ _ _ _ hR10).mono ?_
  rintro e w12 ⟨rfl, rfl⟩
  go_wp2
  go_ret
  exact ⟨rfl, q10⟩

end Go.Proofs.YtkkaancpokahcaaDoor
