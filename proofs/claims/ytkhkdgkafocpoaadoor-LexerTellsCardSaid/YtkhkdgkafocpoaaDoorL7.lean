/- The walk of lexer's first. Conditions: the variables that the calls read; lengths. -/
import Derived.Test.YtkhkdgkafocpoaaDoorL6
namespace Go.Proofs.YtkhkdgkafocpoaaDoor
set_option maxRecDepth 8000
open Go.RowKit

def firstV (f : First) : Value := match f with
  | .tok t n => .tuple #[tokV t.kind ⟨t.text.toArray⟩ t.n 0, .int .i64 (n : Int), .int .i64 0]
  | .bad x => .tuple #[zeroTok, .int .i64 0, .int .i64 x]
theorem firstV_form (f : First) : ∃ k s n m x, firstV f = .tuple #[tokV k s n 0, .int .i64 m, .int .i64 x] := by
  cases f with
  | tok t n => exact ⟨_, _, _, _, _, rfl⟩
  | bad x => exact ⟨0, ⟨#[]⟩, 0, 0, x, rfl⟩
theorem FirstEnd.v {f : First} {w w' : World} {e : Ending} (h : FirstEnd f w e w') : e = .returned (firstV f) ∧ Below w.heap.size w w' := h
theorem FirstEnd.of {f : First} {w w' : World} {v : Value} {e : Ending} (hv : Hid (firstV f = v)) (he : e = .returned v) (hb : Below w.heap.size w w') : FirstEnd f w e w' := by
  refine ⟨?_, hb⟩
  rw [he, ← hv.out]; rfl
theorem name_first {b : UInt8} {l : List UInt8} (h : letB b = true) : nameF ((b :: l).take (cntP nameB (b :: l))) = firstP (b :: l) := by
  have hp := cntP_pos (f := nameB) (l := l) (letB_facts h).1
  have hle := cntP_le nameB (b :: l)
  have hlen : ((b :: l).take (cntP nameB (b :: l))).length = cntP nameB (b :: l) := by rw [List.length_take]; omega
  rw [firstP_name h, nameF, hlen]
  have hn : nameP ((b :: l).take (cntP nameB (b :: l))) = decide (cntP nameB (b :: l) ≤ 20) := by
    unfold nameP
    rw [hlen, cntP_take]
    obtain ⟨m, hm⟩ : ∃ m, cntP nameB (b :: l) = m + 1 := ⟨_, (Nat.sub_add_cancel hp).symm⟩
    rw [hm, List.take_succ_cons]
    simp [h]
  rw [hn]
  by_cases hc : cntP nameB (b :: l) ≤ 20
  · rw [if_pos (by simpa using hc), if_pos hc]
  · rw [if_neg (by simpa using hc), if_neg hc]
theorem num_first {b : UInt8} {l : List UInt8} (h : letB b = false) (h2 : digB b = true) : numF ((b :: l).take (cntP digB (b :: l))) = firstP (b :: l) := by
  have hle := cntP_le digB (b :: l)
  have hlen : ((b :: l).take (cntP digB (b :: l))).length = cntP digB (b :: l) := by rw [List.length_take]; omega
  rw [firstP_num h h2, numF, hlen]
  cases numP ((b :: l).take (cntP digB (b :: l))) <;> rfl
theorem quo_first {b : UInt8} {l : List UInt8} (h : b.toNat = 34) : quoF l = firstP (b :: l) := by
  have : b = 34 := UInt8.toNat_inj.1 h
  subst this
  rw [firstP_quo, quoF]; rfl
theorem sign_first {b : UInt8} {l : List UInt8} (h : letB b = false) (h2 : digB b = false) (h3 : b.toNat ≠ 34) (h4 : signB b = true) : firstP (b :: l) = .tok ⟨3, [b], 0, 0⟩ 1 := by
  rw [firstP, if_neg (by simp [h]), if_neg (by simp [h2]), if_neg (by simpa using h3), if_pos h4]
theorem none_first {b : UInt8} {l : List UInt8} (h : letB b = false) (h2 : digB b = false) (h3 : b.toNat ≠ 34) (h4 : signB b = false) : firstP (b :: l) = .bad 10 := by
  rw [firstP, if_neg (by simp [h]), if_neg (by simp [h2]), if_neg (by simpa using h3), if_neg (by simp [h4])]
theorem extract_take (s : ByteArray) (n : Nat) : (s.extract 0 n).data.toList = s.data.toList.take n := by
  rw [Lib.extract_data]; simp
theorem extract_size (s : ByteArray) (n : Nat) : (s.extract 0 n).size ≤ s.size := by
  have h : (s.extract 0 n).data.toList.length = (s.extract 0 n).size := by simp
  have h2 : s.data.toList.length = s.size := by simp
  rw [extract_take, List.length_take] at h
  omega
/-- first's calls, each at the world in which the result's cell lies. -/
theorem first_call {K : Nat} {s : ByteArray} {f : First} {w w0 : World} (hb0 : Below w.heap.size w w0) (hlt : w.heap.size < w0.heap.size) (hk : Blk w0 w.heap.size 25 tok0)
    (h : Calls Tryd.prog K #[.string s] w0 (FirstEnd f w0)) :
    ∃ k t n m x, Hid (firstV f = .tuple #[tokV k t n 0, .int .i64 m, .int .i64 x]) ∧ Hid (Calls Tryd.prog K #[.string s] w0 fun e w' => e = .returned (.tuple #[.agg #[.int .i64 k, .string t, .int .i64 n, .int .i64 0], .int .i64 m, .int .i64 x]) ∧ Blk w' w.heap.size 25 tok0 ∧ Below w.heap.size w w') := by
  obtain ⟨k, t, n, m, x, hv⟩ := firstV_form f
  refine ⟨k, t, n, m, x, hv, h.mono fun e w' he => ?_⟩
  obtain ⟨he, hb⟩ := he.v
  exact ⟨by rw [he, hv]; rfl, hk.below hb hlt, hb0.trans (hb.mono (Nat.le_of_lt hlt))⟩
set_option maxHeartbeats 4000000 in
theorem first_any (s : ByteArray) (w : World) (hs : s.size ≤ 268435456) (h0 : 0 < s.size) (hE : Hid (Env w)) :
    Calls Tryd.prog 26 #[.string s] w (FirstEnd (firstP s.data.toList) w) := by
  have hb0 : Below w.heap.size w (w.alloc (.cells #[.int .i64 0, .string ⟨#[]⟩, .int .i64 0, .int .i64 0] 25)) := (Below.refl _ _).alloc (Nat.le_refl _) _
  have hk0 : Blk (w.alloc (.cells #[.int .i64 0, .string ⟨#[]⟩, .int .i64 0, .int .i64 0] 25)) w.heap.size 25 tok0 := Blk.new _ _ _
  have hz0 : w.heap.size < (w.alloc (.cells #[.int .i64 0, .string ⟨#[]⟩, .int .i64 0, .int .i64 0] 25)).heap.size := by simp
  obtain ⟨w0, hw0⟩ : ∃ w0, w0 = w.alloc (.cells #[.int .i64 0, .string ⟨#[]⟩, .int .i64 0, .int .i64 0] 25) := ⟨_, rfl⟩
  rw [← hw0] at hb0 hk0 hz0
  have hE0 : Hid (Env w0) := hE.out.on hb0
  have HW := Lib.hid hw0
  have hd := str_drop h0
  rw [List.drop_zero] at hd
  have HL := Lib.hid hd
  have c1 := isLetter_any s[0] w0
  have c2 := isDigit_any s[0] w0
  have HB0 := Lib.hid hb0
  have HK0 := Lib.hid hk0
  clear hw0 hd hb0 hk0
  cases hl : letB s[0]
  · rw [hl] at c1
    have C1 := Lib.hid c1
    cases hg : digB s[0]
    · rw [hg] at c2
      have C2 := Lib.hid c2
      clear c1 c2
      by_cases h34 : s[0].toNat = 34
      · have hb34 : ((s[0].toNat : Int) == 34) = true := by simp [h34]
        obtain ⟨k, t, n, m, x, HV, C4⟩ := first_call HB0.out hz0 HK0.out (quoted_any s w0 hs h0)
        have hres : Hid (firstV (firstP s.data.toList) = .tuple #[tokV k t n 0, .int .i64 m, .int .i64 x]) := by
          show _ = _
          have h1 := HV.out
          rw [HL.out, List.drop_succ_cons, List.drop_zero, quo_first h34] at h1
          rw [HL.out]; exact h1
        clear hl hg HV h34
        go_enter Tryd.func26, Tryd.ntmps26
        go_wp2_with fail
        rw [← HW.out]
        refine C1.out.mono ?_
        rintro e w' ⟨rfl, rfl⟩
        go_wp2_with fail
        refine C2.out.mono ?_
        rintro e w' ⟨rfl, rfl⟩
        go_wp2_with fail
        refine C4.out.mono ?_
        rintro e w4 ⟨rfl, hk4, hb4⟩
        have HB4 := Lib.hid hb4
        obtain ⟨q0, q1, q2, q3, f0, f1, f2, f3⟩ := tok_cells hk4
        clear hk4 hb4
        go_wp2_with fail
        refine bodyPost_ret (v := .tuple #[tokV k t n 0, .int .i64 m, .int .i64 x]) (by simp [results, Tryd.results26, go_sem, tokV, q0, q1, q2, q3]) rfl (FirstEnd.of hres rfl ?_)
        repeat (refine below_set ?_ (Nat.le_refl _) _ _)
        exact HB4.out
      · have hb34 : ((s[0].toNat : Int) == 34) = false := by
          have : (s[0].toNat : Int) ≠ 34 := by omega
          simpa using this
        have c5 := isSign_any s[0] w0 (hE0.out.1)
        cases hsg : signB s[0]
        · rw [hsg] at c5
          have C5 := Lib.hid c5
          have hres : Hid (firstP s.data.toList = .bad 10) := by
            show _ = _
            rw [HL.out]; exact none_first hl hg h34 hsg
          obtain ⟨q0, q1, q2, q3, f0, f1, f2, f3⟩ := tok_cells HK0.out
          clear c5 hl hg h34 hsg
          go_enter Tryd.func26, Tryd.ntmps26
          go_wp2_with fail
          rw [← HW.out]
          refine C1.out.mono ?_
          rintro e w' ⟨rfl, rfl⟩
          go_wp2_with fail
          refine C2.out.mono ?_
          rintro e w' ⟨rfl, rfl⟩
          go_wp2_with fail
          refine C5.out.mono ?_
          rintro e w' ⟨rfl, rfl⟩
          go_wp2_with fail
          refine bodyPost_ret (v := .tuple #[zeroTok, .int .i64 0, .int .i64 10]) (by simp [results, Tryd.results26, go_sem, zeroTok, q0, q1, q2, q3]) rfl (FirstEnd.no hres rfl ?_)
          repeat (refine below_set ?_ (Nat.le_refl _) _ _)
          exact HB0.out
        · rw [hsg] at c5
          have C5 := Lib.hid c5
          have hres : Hid (firstP s.data.toList = .tok ⟨3, (s.extract 0 1).data.toList, 0, 0⟩ 1) := by
            show _ = _
            rw [extract_take, HL.out]; exact sign_first hl hg h34 hsg
          obtain ⟨q0, q1, q2, q3, f0, f1, f2, f3⟩ := tok_cells HK0.out
          have h01 : (1 : Int) ≤ (s.size : Int) := by omega
          clear c5 hl hg h34 hsg
          go_enter Tryd.func26, Tryd.ntmps26
          go_wp2_with fail
          rw [← HW.out]
          refine C1.out.mono ?_
          rintro e w' ⟨rfl, rfl⟩
          go_wp2_with fail
          refine C2.out.mono ?_
          rintro e w' ⟨rfl, rfl⟩
          go_wp2_with fail
          refine C5.out.mono ?_
          rintro e w' ⟨rfl, rfl⟩
          go_wp2_with fail
          refine bodyPost_ret (v := .tuple #[tokV 3 (s.extract 0 1) 0 0, .int .i64 ((1 : Nat) : Int), .int .i64 0]) (by simp [results, Tryd.results26, go_sem, tokV, q0, q1, q2, q3]) rfl (FirstEnd.yes hres rfl ?_)
          repeat (refine below_set ?_ (Nat.le_refl _) _ _)
          exact HB0.out
    · rw [hg] at c2
      have C2 := Lib.hid c2
      have C3 := Lib.hid (count_digit s w0 (by omega))
      have hle := cntP_le digB s.data.toList
      rw [show s.data.toList.length = s.size by simp] at hle
      obtain ⟨c, hc⟩ : ∃ c : Nat, cntP digB s.data.toList = c := ⟨_, rfl⟩
      rw [hc] at C3 hle
      have hes := extract_size s c
      obtain ⟨k, t, n, m, x, HV, C4⟩ := first_call HB0.out hz0 HK0.out (number_any (s.extract 0 c) w0 (by omega) hE0)
      have hres : Hid (firstV (firstP s.data.toList) = .tuple #[tokV k t n 0, .int .i64 m, .int .i64 x]) := by
        show _ = _
        have h1 := HV.out
        rw [extract_take, ← hc, HL.out, num_first hl hg] at h1
        rw [HL.out]; exact h1
      clear c1 c2 hl hg hc hes HV
      go_enter Tryd.func26, Tryd.ntmps26
      go_wp2_with fail
      rw [← HW.out]
      refine C1.out.mono ?_
      rintro e w' ⟨rfl, rfl⟩
      go_wp2_with fail
      refine C2.out.mono ?_
      rintro e w' ⟨rfl, rfl⟩
      go_wp2_with fail
      refine C3.out.mono ?_
      rintro e w' ⟨rfl, rfl⟩
      go_wp2_with fail
      refine C4.out.mono ?_
      rintro e w4 ⟨rfl, hk4, hb4⟩
      have HB4 := Lib.hid hb4
      obtain ⟨q0, q1, q2, q3, f0, f1, f2, f3⟩ := tok_cells hk4
      clear hk4 hb4
      go_wp2_with fail
      refine bodyPost_ret (v := .tuple #[tokV k t n 0, .int .i64 m, .int .i64 x]) (by simp [results, Tryd.results26, go_sem, tokV, q0, q1, q2, q3]) rfl (FirstEnd.of hres rfl ?_)
      repeat (refine below_set ?_ (Nat.le_refl _) _ _)
      exact HB4.out
  · rw [hl] at c1
    have C1 := Lib.hid c1
    have C3 := Lib.hid (count_name s w0 (by omega))
    have hle := cntP_le nameB s.data.toList
    rw [show s.data.toList.length = s.size by simp] at hle
    obtain ⟨c, hc⟩ : ∃ c : Nat, cntP nameB s.data.toList = c := ⟨_, rfl⟩
    rw [hc] at C3 hle
    have hes := extract_size s c
    obtain ⟨k, t, n, m, x, HV, C4⟩ := first_call HB0.out hz0 HK0.out (name_any (s.extract 0 c) w0 (by omega))
    have hres : Hid (firstV (firstP s.data.toList) = .tuple #[tokV k t n 0, .int .i64 m, .int .i64 x]) := by
      show _ = _
      have h1 := HV.out
      rw [extract_take, ← hc, HL.out, name_first hl] at h1
      rw [HL.out]; exact h1
    clear c1 c2 hl hc hes HV
    go_enter Tryd.func26, Tryd.ntmps26
    go_wp2_with fail
    rw [← HW.out]
    refine C1.out.mono ?_
    rintro e w' ⟨rfl, rfl⟩
    go_wp2_with fail
    refine C3.out.mono ?_
    rintro e w' ⟨rfl, rfl⟩
    go_wp2_with fail
    refine C4.out.mono ?_
    rintro e w4 ⟨rfl, hk4, hb4⟩
    have HB4 := Lib.hid hb4
    obtain ⟨q0, q1, q2, q3, f0, f1, f2, f3⟩ := tok_cells hk4
    clear hk4 hb4
    go_wp2_with fail
    refine bodyPost_ret (v := .tuple #[tokV k t n 0, .int .i64 m, .int .i64 x]) (by simp [results, Tryd.results26, go_sem, tokV, q0, q1, q2, q3]) rfl (FirstEnd.of hres rfl ?_)
    repeat (refine below_set ?_ (Nat.le_refl _) _ _)
    exact HB4.out
end Go.Proofs.YtkhkdgkafocpoaaDoor
