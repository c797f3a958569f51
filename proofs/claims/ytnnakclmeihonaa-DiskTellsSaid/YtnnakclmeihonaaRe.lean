/- The walk of the law DiskReads. Conditions: what the arguments read as. -/
import Derived.Test.YtnnakclmeihonaaPl
import Derived.Lib.Strings
namespace Go.Proofs.Ytnnakclmeihonaa
open Go.RowKit Go.ChangeMaps

theorem bStr_cut (D : List UInt8) (i j : Nat) : ((bStr D).extract i j).toList = (D.drop i).take (j - i) := by
  refine (ByteArray.toList_eq _).trans ?_
  simp [bStr, ByteArray.data_extract, List.extract_eq_take_drop]
/-- played, in a world behind W. -/
theorem x_played {W w : World} {A : Option Addr} {n c : Nat} {xs : List Ac} (hb : Below W.heap.size W w) (h : AsIs W W.heap.size A n xs) (hf : ∀ x ∈ xs, x.Fits) (hw : fewP xs = true) :
    Calls Try.prog 22 #[.slice A n c] w (XNew W w (play newD xs)) :=
  (played_any A n c xs w ((h.below hb).more hb.size) hf hw).mono fun _ _ he => Dx.first hb he

set_option maxRecDepth 4000 in
set_option maxHeartbeats 4000000 in
theorem reads_walk (A : Option Addr) (n c : Nat) (xs : List Ac) (f a z : Int) (t : ByteArray) (w : World) (h : AsIs w w.heap.size A n xs) (hn : n ≤ 9223372036854775807) (hF : ∀ x ∈ xs, x.Fits) (hf : I64 f) (ha : I64 a) (hz : I64 z) (ht : t.size ≤ 9223372036854775807) :
    Calls Try.prog 7 #[.slice A n c, .int .i64 f, .int .i64 a, .string t, .int .i64 z] w fun e w' => e = .returned (.bool true) ∧ Below w.heap.size w w' := by
  have HS := Lib.hid (small_any w)
  have HFEW : Hid (∀ W, Below w.heap.size w W → Calls Try.prog 9 #[.slice A n c] W fun e w' => e = .returned (.bool (fewP xs)) ∧ W = w') := fun W hb => few_any A n c _ xs W (h.below hb) hn hF
  have HW := Lib.hid h
  have HFF := Lib.hid hF
  clear h hF
  cases hq : fewP xs with
  | false =>
    rw [hq] at HFEW
    clear hq
    go_enter Try.func7, Try.ntmps7
    go_wp2_with fail
    refine HS.out.mono ?_
    rintro e w1 ⟨rfl, b1⟩
    have HB := Lib.hid b1
    clear b1
    go_wp2_with fail
    refine (HFEW.out _ HB.out).mono ?_
    rintro e w' ⟨rfl, rfl⟩
    go_wp2_with fail
    go_ret
    exact ⟨rfl, HB.out⟩
  | true =>
    by_cases hbad : 300 < t.size ∨ a < 0 ∨ 3000 < a ∨ z < 0
    · rw [hq] at HFEW
      clear hq
      have hcases : (300 : Int) < (t.size : Int) ∨ (¬ (300 : Int) < (t.size : Int) ∧ a < 0) ∨ (¬ (300 : Int) < (t.size : Int) ∧ ¬ a < 0 ∧ 3000 < a) ∨ (¬ (300 : Int) < (t.size : Int) ∧ ¬ a < 0 ∧ ¬ 3000 < a ∧ z < 0) := by omega
      rcases hcases with h1 | ⟨h1, h2⟩ | ⟨h1, h2, h3⟩ | ⟨h1, h2, h3, h4⟩
      all_goals
        clear hbad
        go_enter Try.func7, Try.ntmps7
        go_wp2_with fail
        refine HS.out.mono ?_
        rintro e w1 ⟨rfl, b1⟩
        have HB := Lib.hid b1
        clear b1
        go_wp2_with fail
        refine (HFEW.out _ HB.out).mono ?_
        rintro e w' ⟨rfl, rfl⟩
        go_wp2_with fail
        go_ret
        exact ⟨rfl, HB.out⟩
    · have h1 : ¬ (300 : Int) < (t.size : Int) := by omega
      have h2 : ¬ a < 0 := by omega
      have h3 : ¬ 3000 < a := by omega
      have h4 : ¬ z < 0 := by omega
      have HQ := Lib.hid hq
      rw [hq] at HFEW
      clear hq hbad
      go_enter Try.func7, Try.ntmps7
      go_wp2_with fail
      refine HS.out.mono ?_
      rintro e w1 ⟨rfl, b1⟩
      have HB := Lib.hid b1
      clear b1
      go_wp2_with fail
      refine (HFEW.out _ HB.out).mono ?_
      rintro e w' ⟨rfl, rfl⟩
      go_wp2_with fail
      refine (x_played HB.out HW.out HFF.out HQ.out).mono ?_
      rintro e w2 ⟨b, o2, rfl, hx2, -, -⟩
      generalize play newD xs = s0 at hx2
      have H2 := Lib.hid hx2
      clear hx2 HFEW HS HW HFF HQ HB
      go_wp2_with fail
      refine (x_arm H2.out (by unfold I64; omega) (Nums.nil _ _)).mono ?_
      rintro e w3 ⟨o3, rfl, hx3, -⟩
      have hx3 : Dx w w3 o3 b { s0 with left := 0, keep := [] } := hx3
      generalize hs1 : ({ s0 with left := 0, keep := [] } : Ds) = s1 at hx3
      have hl1 : s1.left = 0 := by rw [← hs1]
      have H3 := Lib.hid hx3
      clear hx3 H2 hs1
      go_wp2_with fail
      cases hdn : s1.down with
      | true =>
        refine (x_down H3.out hdn).mono ?_
        rintro e w' ⟨rfl, rfl⟩
        obtain ⟨r, hr⟩ : ∃ r, (writeP s1 f a t.data.toList).2 = r := ⟨_, rfl⟩
        have hne : ¬ r = 0 := by rw [← hr]; exact write_bad hl1 (.inl hdn)
        go_wp2_with fail
        refine (x_write H3.out (by omega) rfl hr).mono ?_
        rintro e w4 ⟨o4, rfl, hx4, -⟩
        have HE := Lib.hid hx4.below
        clear hx4 H3 hr
        go_wp2_with fail
        go_ret
        exact ⟨ret_b (bne_iff_ne.2 hne), HE.out⟩
      | false =>
        refine (x_down H3.out hdn).mono ?_
        rintro e w' ⟨rfl, rfl⟩
        by_cases f0 : f < 0
        · have hff : isF f = false := by unfold isF; simp; omega
          obtain ⟨r, hr⟩ : ∃ r, (writeP s1 f a t.data.toList).2 = r := ⟨_, rfl⟩
          have hne : ¬ r = 0 := by rw [← hr]; exact write_bad hl1 (.inr hff)
          go_wp2_with fail
          refine (x_write H3.out (by omega) rfl hr).mono ?_
          rintro e w4 ⟨o4, rfl, hx4, -⟩
          have HE := Lib.hid hx4.below
          clear hx4 H3 hr
          go_wp2_with fail
          go_ret
          exact ⟨ret_b (bne_iff_ne.2 hne), HE.out⟩
        · by_cases f1 : 15 < f
          · have hff : isF f = false := by unfold isF; simp; omega
            obtain ⟨r, hr⟩ : ∃ r, (writeP s1 f a t.data.toList).2 = r := ⟨_, rfl⟩
            have hne : ¬ r = 0 := by rw [← hr]; exact write_bad hl1 (.inr hff)
            go_wp2_with fail
            refine (x_write H3.out (by omega) rfl hr).mono ?_
            rintro e w4 ⟨o4, rfl, hx4, -⟩
            have HE := Lib.hid hx4.below
            clear hx4 H3 hr
            go_wp2_with fail
            go_ret
            exact ⟨ret_b (bne_iff_ne.2 hne), HE.out⟩
          · have hff : isF f = true := by unfold isF; simp; omega
            have hts : t.data.toList.length = t.size := rfl
            have hal : a + (t.data.toList.length : Int) ≤ 16777216 := by rw [hts]; omega
            have hwr := write_up hdn hl1 hff (show 0 ≤ a by omega) hal
            generalize hs2 : stored s1 f a.toNat t.data.toList = s2 at hwr
            have hd2 : s2.down = false := by rw [← hs2, stored_down, hdn]
            have hl2 : s2.left = 0 := by rw [← hs2, stored_left, hl1]
            have hmid : ((s2.data f).drop a.toNat).take t.data.toList.length = t.data.toList := by rw [← hs2]; exact stored_mid _ _ _ _
            have HW1 := Lib.hid (congrArg Prod.fst hwr)
            have HW2 := Lib.hid (congrArg Prod.snd hwr)
            have HR1 : Hid (readP s2 f a (t.size : Int) = (t.data.toList, 0)) := by
              refine (read_up hd2 hff (by omega) (by omega)).trans ?_
              rw [Int.toNat_natCast, ← hts, hmid]
            have HR2 := Lib.hid (read_all (n := ((s2.data f).length : Int)) hd2 hff (by omega))
            have HR3 := Lib.hid (read_up (a := a) (n := z) hd2 hff (by omega) (by omega))
            clear hwr hs2 hmid hal hdn hl1
            go_wp2_with fail
            refine (x_write H3.out (by omega) HW1.out HW2.out).mono ?_
            rintro e w4 ⟨o4, rfl, hx4, -⟩
            have H4 := Lib.hid hx4
            have HOK := Lib.hid hx4.da.1
            clear hx4 H3 HW1 HW2
            generalize hD : s2.data f = D at *
            go_wp2_with fail
            refine (x_read H4.out hf HR1.out).mono ?_
            rintro e w' ⟨rfl, rfl⟩
            go_wp2_with fail
            refine (x_size H4.out hf (congrArg List.length hD)).mono ?_
            rintro e w' ⟨rfl, rfl⟩
            go_wp2_with fail
            refine (x_read H4.out hf HR2.out).mono ?_
            rintro e w' ⟨rfl, rfl⟩
            go_wp2_with fail
            refine (x_read H4.out hf HR3.out).mono ?_
            rintro e w' ⟨rfl, rfl⟩
            clear HR1 HR2 HR3
            have q1 := bStr_toList t.data.toList
            have q2 := bStr_size D
            have q3 := Lib.toList_data t
            go_wp2_with fail
            refine (x_size H4.out hf (congrArg List.length hD)).mono ?_
            rintro e w' ⟨rfl, rfl⟩
            clear q1 q3
            obtain ⟨x, rfl⟩ := Int.eq_ofNat_of_zero_le (show 0 ≤ a by omega)
            obtain ⟨y, rfl⟩ := Int.eq_ofNat_of_zero_le (show 0 ≤ z by omega)
            rw [Int.toNat_natCast, Int.toNat_natCast]
            have q4 := bStr_toList ((D.drop x).take y)
            have hLb := HOK.out.size f
            rw [hD] at hLb
            generalize hL : D.length = L at *
            by_cases hx : L < x
            · have hx' : (L : Int) < (x : Int) := by omega
              have q5 : ∀ j, ((bStr D).extract L j).toList = [] := fun j => by rw [bStr_cut, List.drop_eq_nil_of_le (by omega), List.take_nil]
              have q8 : List.take y (List.drop x D) = [] := by rw [List.drop_eq_nil_of_le (by omega), List.take_nil]
              rw [q8]
              rw [q8] at q4
              by_cases hy : y = 0
              · subst hy
                have HT := Lib.hid (trunc_up (n := L) hd2 hl2 hff (by rw [hD, hL]; omega))
                have HZ := Lib.hid (reads_last (n := L) HOK.out hd2 hff)
                have q6 := bStr_cut D 0 L
                rw [List.drop_zero, Nat.sub_zero] at q6
                have q7 := bStr_toList (D.take L)
                rw [hD] at HZ
                go_wp2_with fail
                refine (x_trunc H4.out hf (congrArg Prod.fst HT.out) (congrArg Prod.snd HT.out)).mono ?_
                rintro e w5 ⟨o5, rfl, hx5, -⟩
                have H5 := Lib.hid hx5
                clear hx5 H4 HT
                go_wp2_with fail
                refine (x_crash H5.out (Nums.nil _ _) rfl).mono ?_
                rintro e w6 ⟨o6, rfl, hx6, -⟩
                have H6 := Lib.hid hx6
                clear hx6 H5
                go_wp2_with fail
                refine (x_start H6.out).mono ?_
                rintro e w7 ⟨o7, rfl, hx7, -⟩
                have H7 := Lib.hid hx7
                clear hx7 H6
                go_wp2_with fail
                refine (x_read H7.out hf HZ.out).mono ?_
                rintro e w' ⟨rfl, rfl⟩
                have HE := Lib.hid H7.out.below
                clear H7 HZ
                go_wp2_with fail
                go_ret
                exact ⟨rfl, HE.out⟩
              · have hy' : (0 : Int) < (y : Int) := by omega
                have HT := Lib.hid (trunc_up (n := L) hd2 hl2 hff (by rw [hD, hL]; omega))
                have HZ := Lib.hid (reads_last (n := L) HOK.out hd2 hff)
                have q6 := bStr_cut D 0 L
                rw [List.drop_zero, Nat.sub_zero] at q6
                have q7 := bStr_toList (D.take L)
                rw [hD] at HZ
                go_wp2_with fail
                refine (x_trunc H4.out hf (congrArg Prod.fst HT.out) (congrArg Prod.snd HT.out)).mono ?_
                rintro e w5 ⟨o5, rfl, hx5, -⟩
                have H5 := Lib.hid hx5
                clear hx5 H4 HT
                go_wp2_with fail
                refine (x_crash H5.out (Nums.nil _ _) rfl).mono ?_
                rintro e w6 ⟨o6, rfl, hx6, -⟩
                have H6 := Lib.hid hx6
                clear hx6 H5
                go_wp2_with fail
                refine (x_start H6.out).mono ?_
                rintro e w7 ⟨o7, rfl, hx7, -⟩
                have H7 := Lib.hid hx7
                clear hx7 H6
                go_wp2_with fail
                refine (x_read H7.out hf HZ.out).mono ?_
                rintro e w' ⟨rfl, rfl⟩
                have HE := Lib.hid H7.out.below
                clear H7 HZ
                go_wp2_with fail
                go_ret
                exact ⟨rfl, HE.out⟩
            · have hx' : ¬ (L : Int) < (x : Int) := by omega
              by_cases hy : L - x < y
              · have hy' : ((L : Int) - (x : Int)) < (y : Int) := by omega
                have q8 : List.take y (List.drop x D) = List.drop x D := List.take_of_length_le (by rw [List.length_drop]; omega)
                have q5 : ((bStr D).extract x L).toList = List.drop x D := by rw [bStr_cut]; exact List.take_of_length_le (by rw [List.length_drop]; omega)
                have q9 : ((bStr D).extract x (x + (L - x))).toList = List.drop x D := by rw [show x + (L - x) = L from by omega]; exact q5
                rw [q8]
                rw [q8] at q4
                have HT := Lib.hid (trunc_up (n := x) hd2 hl2 hff (by rw [hD, hL]; omega))
                have HZ := Lib.hid (reads_last (n := x) HOK.out hd2 hff)
                have q6 := bStr_cut D 0 x
                rw [List.drop_zero, Nat.sub_zero] at q6
                have q7 := bStr_toList (D.take x)
                rw [hD] at HZ
                go_wp2_with fail
                refine (x_trunc H4.out hf (congrArg Prod.fst HT.out) (congrArg Prod.snd HT.out)).mono ?_
                rintro e w5 ⟨o5, rfl, hx5, -⟩
                have H5 := Lib.hid hx5
                clear hx5 H4 HT
                go_wp2_with fail
                refine (x_crash H5.out (Nums.nil _ _) rfl).mono ?_
                rintro e w6 ⟨o6, rfl, hx6, -⟩
                have H6 := Lib.hid hx6
                clear hx6 H5
                go_wp2_with fail
                refine (x_start H6.out).mono ?_
                rintro e w7 ⟨o7, rfl, hx7, -⟩
                have H7 := Lib.hid hx7
                clear hx7 H6
                go_wp2_with fail
                refine (x_read H7.out hf HZ.out).mono ?_
                rintro e w' ⟨rfl, rfl⟩
                have HE := Lib.hid H7.out.below
                clear H7 HZ
                go_wp2_with fail
                go_ret
                exact ⟨rfl, HE.out⟩
              · have hy' : ¬ ((L : Int) - (x : Int)) < (y : Int) := by omega
                have q5 : ((bStr D).extract x (x + y)).toList = List.take y (List.drop x D) := by rw [bStr_cut, show x + y - x = y from by omega]
                have HT := Lib.hid (trunc_up (n := x) hd2 hl2 hff (by rw [hD, hL]; omega))
                have HZ := Lib.hid (reads_last (n := x) HOK.out hd2 hff)
                have q6 := bStr_cut D 0 x
                rw [List.drop_zero, Nat.sub_zero] at q6
                have q7 := bStr_toList (D.take x)
                rw [hD] at HZ
                go_wp2_with fail
                refine (x_trunc H4.out hf (congrArg Prod.fst HT.out) (congrArg Prod.snd HT.out)).mono ?_
                rintro e w5 ⟨o5, rfl, hx5, -⟩
                have H5 := Lib.hid hx5
                clear hx5 H4 HT
                go_wp2_with fail
                refine (x_crash H5.out (Nums.nil _ _) rfl).mono ?_
                rintro e w6 ⟨o6, rfl, hx6, -⟩
                have H6 := Lib.hid hx6
                clear hx6 H5
                go_wp2_with fail
                refine (x_start H6.out).mono ?_
                rintro e w7 ⟨o7, rfl, hx7, -⟩
                have H7 := Lib.hid hx7
                clear hx7 H6
                go_wp2_with fail
                refine (x_read H7.out hf HZ.out).mono ?_
                rintro e w' ⟨rfl, rfl⟩
                have HE := Lib.hid H7.out.below
                clear H7 HZ
                go_wp2_with fail
                go_ret
                exact ⟨rfl, HE.out⟩

end Go.Proofs.Ytnnakclmeihonaa
