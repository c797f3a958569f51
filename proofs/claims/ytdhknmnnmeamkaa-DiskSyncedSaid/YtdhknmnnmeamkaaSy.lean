/- The walk of the law DiskSynced. Conditions: what the arguments read as. -/
import Derived.Test.YtdhknmnnmeamkaaPs
import Derived.Test.YtdhknmnnmeamkaaRe
namespace Go.Proofs.Ytdhknmnnmeamkaa
open Go.RowKit Go.ChangeMaps

set_option maxRecDepth 4000 in
set_option maxHeartbeats 4000000 in
theorem synced_walk (A : Option Addr) (n c : Nat) (xs : List Ac) (f : Int) (A2 : Option Addr) (n2 c2 : Nat) (ys : List Ac) (A3 : Option Addr) (n3 c3 : Nat) (l : List Int) (w : World) (h : AsIs w w.heap.size A n xs) (hn : n ≤ 9223372036854775807) (hF : ∀ x ∈ xs, x.Fits)
    (h2 : AsIs w w.heap.size A2 n2 ys) (hn2 : n2 ≤ 9223372036854775807) (hF2 : ∀ x ∈ ys, x.Fits) (h3 : Reads w w.heap.size 1 A3 n3 (inV l)) (hn3 : n3 ≤ 9223372036854775807) (hf : I64 f) :
    Calls Try.prog 5 #[.slice A n c, .int .i64 f, .slice A2 n2 c2, .slice A3 n3 c3] w fun e w' => e = .returned (.bool true) ∧ Below w.heap.size w w' := by
  have HS := Lib.hid (small_any w)
  have HFEW : Hid (∀ W, Below w.heap.size w W → Calls Try.prog 9 #[.slice A n c] W fun e w' => e = .returned (.bool (fewP xs)) ∧ W = w') := fun W hb => few_any A n c _ xs W (h.below hb) hn hF
  have HFEW2 : Hid (∀ W, Below w.heap.size w W → Calls Try.prog 9 #[.slice A2 n2 c2] W fun e w' => e = .returned (.bool (fewP ys)) ∧ W = w') := fun W hb => few_any A2 n2 c2 _ ys W (h2.below hb) hn2 hF2
  have HW := Lib.hid h
  have HW2 := Lib.hid h2
  have HFF := Lib.hid hF
  have HFF2 := Lib.hid hF2
  have HR3 := Lib.hid h3
  clear h h2 hF hF2 h3
  cases hq : fewP xs with
  | false =>
    rw [hq] at HFEW
    clear hq
    go_enter Try.func5, Try.ntmps5
    go_wp2_with fail
    refine HS.out.mono ?_
    rintro e w1 ⟨rfl, b1⟩
    have HB := Lib.hid b1
    clear b1
    go_wp2_with fail
    refine (HFEW.out _ HB.out).mono ?_
    rintro e w' ⟨rfl, rfl⟩
    go_wp2_with fail
    go_ret
    exact ⟨rfl, HB.out⟩
  | true =>
    have HQ := Lib.hid hq
    rw [hq] at HFEW
    clear hq
    cases hq2 : fewP ys with
    | false =>
      rw [hq2] at HFEW2
      clear hq2
      go_enter Try.func5, Try.ntmps5
      go_wp2_with fail
      refine HS.out.mono ?_
      rintro e w1 ⟨rfl, b1⟩
      have HB := Lib.hid b1
      clear b1
      go_wp2_with fail
      refine (HFEW.out _ HB.out).mono ?_
      rintro e w' ⟨rfl, rfl⟩
      go_wp2_with fail
      refine (HFEW2.out _ HB.out).mono ?_
      rintro e w' ⟨rfl, rfl⟩
      go_wp2_with fail
      go_ret
      exact ⟨rfl, HB.out⟩
    | true =>
      have HQ2 := Lib.hid hq2
      rw [hq2] at HFEW2
      clear hq2
      by_cases hk : 60 < n3
      · have hk' : (60 : Int) < (n3 : Int) := by omega
        go_enter Try.func5, Try.ntmps5
        go_wp2_with fail
        refine HS.out.mono ?_
        rintro e w1 ⟨rfl, b1⟩
        have HB := Lib.hid b1
        clear b1
        go_wp2_with fail
        refine (HFEW.out _ HB.out).mono ?_
        rintro e w' ⟨rfl, rfl⟩
        go_wp2_with fail
        refine (HFEW2.out _ HB.out).mono ?_
        rintro e w' ⟨rfl, rfl⟩
        go_wp2_with fail
        go_ret
        exact ⟨rfl, HB.out⟩
      · have hk' : ¬ (60 : Int) < (n3 : Int) := by omega
        go_enter Try.func5, Try.ntmps5
        go_wp2_with fail
        refine HS.out.mono ?_
        rintro e w1 ⟨rfl, b1⟩
        have HB := Lib.hid b1
        clear b1
        go_wp2_with fail
        refine (HFEW.out _ HB.out).mono ?_
        rintro e w' ⟨rfl, rfl⟩
        go_wp2_with fail
        refine (HFEW2.out _ HB.out).mono ?_
        rintro e w' ⟨rfl, rfl⟩
        go_wp2_with fail
        refine (x_played HB.out HW.out HFF.out HQ.out).mono ?_
        rintro e w2 ⟨b, o2, rfl, hx2, -, -⟩
        generalize play newD xs = s0 at hx2
        have H2 := Lib.hid hx2
        have HOK := Lib.hid hx2.da.1
        clear hx2 HFEW HFEW2 HS HW HFF HQ HB
        obtain ⟨r0, hr0⟩ : ∃ r0, readP s0 f 0 16777216 = r0 := ⟨_, rfl⟩
        obtain ⟨D0, e0⟩ := r0
        obtain ⟨r, hr⟩ : ∃ r, (syncP s0 f).2 = r := ⟨_, rfl⟩
        go_wp2_with fail
        refine (x_read H2.out hf hr0).mono ?_
        rintro e w' ⟨rfl, rfl⟩
        go_wp2_with fail
        refine (x_sync H2.out rfl hr).mono ?_
        rintro e w3 ⟨o3, rfl, hx3, -⟩
        have H3 := Lib.hid hx3
        clear hx3 H2
        by_cases hr00 : r = 0
        · subst hr00
          obtain ⟨q1, q2, q3, q4⟩ := sync_ok hr
          have hre := read_all (n := 16777216) q1 q2 (by have := HOK.out.size f; omega)
          rw [hr0] at hre
          injection hre with e1 e2
          subst e1
          generalize (syncP s0 f).1 = s1 at *
          generalize s0.data f = D at *
          have HSY := Lib.hid q4
          have HR1 := Lib.hid (read_all (n := 16777216) q3 q2 (by have := H3.out.da.1.size f; omega))
          have hD := q4.data
          rw [hD] at HR1
          have q5 := bStr_toList D
          clear q4 q1 q3 hD HOK hr0
          go_wp2_with fail
          refine (x_read H3.out hf HR1.out).mono ?_
          rintro e w' ⟨rfl, rfl⟩
          go_wp2_with fail
          obtain ⟨wo, hwo⟩ : ∃ wo : World, wo = w3 := ⟨_, rfl⟩
          go_loopw [15] (fun i wr => ∃ (k : Nat) (own : Nat → Option Nat) (s : Ds), k ≤ n2 ∧ i = .int .i64 k ∧ Hid (Dx w wr own b s) ∧ Hid (Syn D f s)) (fun i _ => n2 - (RowKit.intOf i).toNat)
          case atStart => exact ⟨0, o3, s1, Nat.zero_le _, rfl, H3.out, HSY.out⟩
          case round =>
            clear H3 HSY
            obtain ⟨k, own, s, hk, rfl, HD, HSY⟩ := hrel
            by_cases hlt : k < n2
            · obtain ⟨ad, x, rfl, _, hx, A1, c1, g0, g1, g2, g3, g4, hrd⟩ := (HW2.out.below HD.out.below).at_ hlt
              have hmem := List.mem_of_getElem? hx
              have HFX := Lib.hid (HFF2.out x hmem)
              obtain ⟨hs, hkp⟩ := (few_ok HQ2.out).2 x hmem
              have HK : Hid (Nums wr own A1 x.keep.length x.keep) := ⟨hrd.more HD.out.below.size, fun hp ad' e => by
                obtain ⟨ad2, e1, h2, _⟩ := hrd.2 hp
                rw [e] at e1
                cases e1
                cases e2 : own ad'.block with
                | none => rfl
                | some r => have := HD.out.new _ _ e2; omega, by omega⟩
              have hlt' : (k : Int) < (n2 : Int) := by omega
              have hk0 : 0 ≤ (k : Int) := by omega
              obtain ⟨d8, hd8⟩ : ∃ d8, x.d % 8 = d8 := ⟨_, rfl⟩
              have e7 : bits .and .i64 x.d 7 = d8 := (i64_and7 _).trans hd8
              clear hx hmem hrd
              by_cases hdo : (d8 < 4 ∧ x.f ≠ f) ∨ d8 = 4
              · have HACT := Lib.hid (HSY.out.act (x := x) (by rw [hd8]; exact hdo))
                have hdo2 : (d8 < 4 ∧ ¬ x.f = f) ∨ (¬ d8 < 4 ∧ d8 = 4) := by omega
                clear hd8 hdo
                rcases hdo2 with ⟨d1, d2⟩ | ⟨d1, d2⟩
                all_goals
                  go_wp2_with fail
                  refine (do_any HD.out x A1 c1 HK.out HFX.out (by omega)).mono ?_
                  rintro e w4 ⟨own2, rfl, h2, -⟩
                  have H2 := Lib.hid h2
                  clear h2 HD HK g0 g1 g2 g3 g4
                  go_wp2_with fail
                  go_roundw
                  case rel => exact ⟨k + 1, own2, _, by omega, by go_num, H2, HACT⟩
                  case measure => simp [RowKit.intOf]; omega
              · have hdo2 : (d8 < 4 ∧ x.f = f) ∨ (¬ d8 < 4 ∧ ¬ d8 = 4) := by omega
                clear hd8 hdo
                rcases hdo2 with ⟨d1, d2⟩ | ⟨d1, d2⟩
                all_goals
                  go_wp2_with fail
                  go_roundw
                  case rel => exact ⟨k + 1, own, s, by omega, by go_num, HD, HSY⟩
                  case measure => simp [RowKit.intOf]; omega
            · obtain rfl : k = n2 := by omega
              have HNU := Lib.hid (Nums.low HD.out HR3.out (by omega))
              have HSC := Lib.hid (HSY.out.crashP l)
              go_wp2_with fail
              refine (x_crash HD.out HNU.out rfl).mono ?_
              rintro e w5 ⟨o5, rfl, hx5, -⟩
              have H5 := Lib.hid hx5
              clear hx5 HD HNU HSY
              generalize crashP s l = s5 at *
              go_wp2_with fail
              refine (x_start H5.out).mono ?_
              rintro e w6 ⟨o6, rfl, hx6, -⟩
              have H6 := Lib.hid hx6
              clear hx6
              have HR6 := Lib.hid (read_all (s := { s5 with down := false }) (n := 16777216) rfl q2 (by have := H6.out.da.1.size f; omega))
              have hD := (HSC.out.set s5.lost s5.left s5.keep false).data
              rw [hD] at HR6
              clear hD HSC H5
              go_wp2_with fail
              refine (x_read H6.out hf HR6.out).mono ?_
              rintro e w' ⟨rfl, rfl⟩
              have HE := Lib.hid H6.out.below
              clear H6 HR6
              go_wp2_with fail
              go_ret
              exact ⟨rfl, HE.out⟩
        · have HE := Lib.hid H3.out.below
          clear H3 HOK hr0 hr
          go_wp2_with fail
          go_ret
          exact ⟨rfl, HE.out⟩

end Go.Proofs.Ytdhknmnnmeamkaa
