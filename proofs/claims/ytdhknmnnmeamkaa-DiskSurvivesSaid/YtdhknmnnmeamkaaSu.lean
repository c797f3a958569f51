/- The walk of the law DiskSurvives. Conditions: what the arguments read as. -/
import Derived.Test.YtdhknmnnmeamkaaAf
import Derived.Test.YtdhknmnnmeamkaaPv
import Derived.Deep.QuietTactic
import Derived.BigQuiet
namespace Go.Proofs.Ytdhknmnnmeamkaa
open Go.RowKit Go.ChangeMaps

set_option maxRecDepth 4000 in
set_option maxHeartbeats 4000000 in
theorem survives_walk (A : Option Addr) (n c : Nat) (xs : List Ac) (f : Int) (A3 : Option Addr) (n3 c3 : Nat) (l : List Int) (w : World) (h : AsIs w w.heap.size A n xs) (hn : n ≤ 9223372036854775807) (hF : ∀ x ∈ xs, x.Fits)
    (h3 : Reads w w.heap.size 1 A3 n3 (inV l)) (hn3 : n3 ≤ 9223372036854775807) (hf : I64 f) :
    Calls Try.prog 4 #[.slice A n c, .int .i64 f, .slice A3 n3 c3] w fun e w' => e = .returned (.bool true) ∧ Below w.heap.size w w' := by
  have HS := Lib.hid (small_any w)
  have HFEW : Hid (∀ W, Below w.heap.size w W → Calls Try.prog 9 #[.slice A n c] W fun e w' => e = .returned (.bool (fewP xs)) ∧ W = w') := fun W hb => few_any A n c _ xs W (h.below hb) hn hF
  have HW := Lib.hid h
  have HFF := Lib.hid hF
  have HR3 := Lib.hid h3
  clear h hF h3
  cases hq : fewP xs with
  | false =>
    rw [hq] at HFEW
    clear hq
    go_enter Try.func4, Try.ntmps4
    go_wp2_with fail
    refine HS.out.mono ?_
    rintro e w1 ⟨rfl, b1⟩
    have HB := Lib.hid b1
    clear b1
    go_wp2_with fail
    refine (HFEW.out _ HB.out).mono ?_
    rintro e w' ⟨rfl, rfl⟩
    go_wp2_with fail
    go_ret
    exact ⟨rfl, HB.out⟩
  | true =>
    have HQ := Lib.hid hq
    rw [hq] at HFEW
    clear hq
    by_cases hk : 60 < n3
    · have hk' : (60 : Int) < (n3 : Int) := by omega
      go_enter Try.func4, Try.ntmps4
      go_wp2_with fail
      refine HS.out.mono ?_
      rintro e w1 ⟨rfl, b1⟩
      have HB := Lib.hid b1
      clear b1
      go_wp2_with fail
      refine (HFEW.out _ HB.out).mono ?_
      rintro e w' ⟨rfl, rfl⟩
      go_wp2_with fail
      go_ret
      exact ⟨rfl, HB.out⟩
    · have hk' : ¬ (60 : Int) < (n3 : Int) := by omega
      go_enter Try.func4, Try.ntmps4
      go_wp2_with fail
      refine HS.out.mono ?_
      rintro e w1 ⟨rfl, b1⟩
      have HB := Lib.hid b1
      clear b1
      go_wp2_with fail
      refine (HFEW.out _ HB.out).mono ?_
      rintro e w' ⟨rfl, rfl⟩
      go_wp2_with fail
      refine (x_played HB.out HW.out HFF.out HQ.out).mono ?_
      rintro e w2 ⟨b, o2, rfl, hx2, -, -⟩
      generalize play newD xs = s at hx2
      have H2 := Lib.hid hx2
      have HOK := Lib.hid hx2.da.1
      have HE2 := Lib.hid hx2.below
      clear hx2 HFEW HS HW HFF HQ HB
      go_wp2_with fail
      cases hd : s.down with
      | true =>
        refine (x_down H2.out hd).mono ?_
        rintro e w' ⟨rfl, rfl⟩
        clear H2
        go_wp2_with fail
        go_ret
        exact ⟨rfl, HE2.out⟩
      | false =>
        refine (x_down H2.out hd).mono ?_
        rintro e w' ⟨rfl, rfl⟩
        by_cases f0 : f < 0
        · clear H2
          go_wp2_with fail
          go_ret
          exact ⟨rfl, HE2.out⟩
        · by_cases f1 : 15 < f
          · clear H2
            go_wp2_with fail
            go_ret
            exact ⟨rfl, HE2.out⟩
          · have hff : isF f = true := by unfold isF; simp; omega
            obtain ⟨N, hN⟩ : ∃ N, s.data f = N := ⟨_, rfl⟩
            go_wp2_with fail
            refine (x_size H2.out hf (congrArg List.length hN)).mono ?_
            rintro e w' ⟨rfl, rfl⟩
            by_cases hz : 100000 < N.length
            · have hz' : (100000 : Int) < (N.length : Int) := by omega
              clear H2
              go_wp2_with fail
              go_ret
              exact ⟨rfl, HE2.out⟩
            · have hz' : ¬ (100000 : Int) < (N.length : Int) := by omega
              have HR := Lib.hid (read_all (n := 16777216) hd hff (by rw [hN]; omega))
              rw [hN] at HR
              have HA1 := Lib.hid (fun W (hb : Below w2.heap.size w2 W) => after_any (H2.out.still hb) hd hff none 0 0 [] Reads.none_ (by omega))
              have HA2 := Lib.hid (fun W (hb : Below w2.heap.size w2 W) => after_any ((H2.out.still hb).alloc (.cells #[.int .i64 1] 3)) hd hff (some ⟨W.heap.size, 0, none⟩) 1 1 [1] (Nums.new (H2.out.still hb) [1] (by decide)).1 (by omega))
              have HA3 := Lib.hid (fun W (hb : Below w2.heap.size w2 W) => after_any (H2.out.still hb) hd hff A3 n3 c3 l (((HR3.out.below HE2.out).more HE2.out.size |>.below hb).more hb.size) (by omega))
              rw [surv_all HOK.out] at HA2
              rw [hN] at HA2
              rw [crashed_nil] at HA1
              obtain ⟨s1, s2, s3⟩ := surv_facts HOK.out f l
              rw [hN] at s2 s3
              generalize (crashed s l).data f = S at *
              generalize s.dur f = L at *
              have HS3 := Lib.hid s3
              clear s3 HOK
              go_wp2_with fail
              refine (x_read H2.out hf HR.out).mono ?_
              rintro e w' ⟨rfl, rfl⟩
              go_wp2_with fail
              refine (HA1.out _ (Below.refl _ _)).mono ?_
              rintro e w3 ⟨rfl, b3⟩
              have HB3 := Lib.hid b3
              clear b3
              go_wp2_with fail
              refine (HA2.out _ HB3.out).mono ?_
              rintro e w4 ⟨rfl, b4⟩
              have HB4 : Hid (Below w2.heap.size w2 w4) := (HB3.out.alloc HB3.out.size _).trans (b4.mono (by have := HB3.out.size; simp; omega))
              clear b4 HB3
              go_wp2_with fail
              refine (HA3.out _ HB4.out).mono ?_
              rintro e w5 ⟨rfl, b5⟩
              have HB5 : Hid (Below w.heap.size w w5) := HE2.out.trans ((HB4.out.trans (b5.mono HB4.out.size)).mono HE2.out.size)
              clear b5 HB4 HA1 HA2 HA3 HR H2 HE2 HR3
              have q1 := bStr_toList N
              have q2 := bStr_size N
              have q3 := bStr_size S
              have q4 := bStr_size L
              have s1' : ¬ (S.length : Int) < (L.length : Int) := by omega
              have s2' : ¬ (N.length : Int) < (S.length : Int) := by omega
              go_wp2_with fail
              have d1 : decide (S.length < L.length) = false := decide_eq_false (by omega)
              have d2 : decide (N.length < S.length) = false := decide_eq_false (by omega)
              simp only [d1, d2, Bool.or_false]
              clear d1 d2
              go_loopw [17] (fun i wr => ∃ k : Nat, i = .int .i64 k ∧ 64 * k < S.length + 64 ∧ Hid (Below w.heap.size w wr)) (fun i _ => S.length + 1 - (RowKit.intOf i).toNat)
              case atStart => exact ⟨0, rfl, by omega, HB5.out⟩
              case round =>
                clear HB5
                obtain ⟨k, rfl, hks, HB⟩ := hrel
                by_cases hlt : 64 * k < S.length
                · have hm : IntKind.i64.wrap (64 * (k : Int)) = 64 * (k : Int) := IntWalk.i64_in _ (by omega)
                  have hlt' : 64 * (k : Int) < (S.length : Int) := by omega
                  go_wp2_with fail
                  obtain ⟨wi, rfl⟩ : ∃ x, x = wr := ⟨_, rfl⟩
                  go_loopw [18, 19, 20] (fun u v j wr => ∃ (i : Nat) (ub vb : Bool), u = .bool ub ∧ v = .bool vb ∧ j = .int .i64 i ∧ 64 * k ≤ i ∧ i ≤ 64 * k + 64 ∧ i ≤ S.length ∧ Hid ((ub = true ∧ ∀ i, i / 64 = k → atB S i = atB N i) ∨ (vb = true ∧ ∀ i, i / 64 = k → atB S i = atB L i)) ∧ Hid (Below w.heap.size w wr)) (fun _ _ j _ => 64 * k + 64 - (RowKit.intOf j).toNat)
                  case atStart => exact ⟨64 * k, true, true, rfl, rfl, by go_num, by omega, by omega, by omega, (HS3.out k).imp (fun h => ⟨rfl, h⟩) (fun h => ⟨rfl, h⟩), HB.out⟩
                  case round =>
                    clear HB
                    obtain ⟨i, ub, vb, rfl, rfl, rfl, hi0, hi1, hi2, HSEL, HB⟩ := hrel
                    have hm2 : IntKind.i64.wrap (64 * (k : Int) + 64) = 64 * (k : Int) + 64 := IntWalk.i64_in _ (by omega)
                    by_cases hc : i < 64 * k + 64 ∧ i < S.length
                    · obtain ⟨hc1, hc2⟩ := hc
                      have hc1' : (i : Int) < 64 * (k : Int) + 64 := by omega
                      have hc2' : (i : Int) < (S.length : Int) := by omega
                      have hc3' : (i : Int) < (N.length : Int) := by omega
                      have hi0' : (0 : Int) ≤ (i : Int) := by omega
                      cases ub with
                      | true =>
                        cases vb with
                        | true =>
                          go_wp2_with fail
                          go_quiet (fail)
                          go_wp2_with fail
                          go_quiet ((go_at_call 24; exact (byteAt_still L i _).mono fun _ _ h => ⟨h.1, _, h.2⟩))
                          go_wp2_with fail
                          go_roundw
                          case rel =>
                            refine ⟨i + 1, _, _, rfl, rfl, ?_, by omega, by omega, by omega, ?_, ?_⟩
                            · go_num
                            · show _ ∨ _
                              rcases HSEL.out with ⟨_, hP⟩ | ⟨_, hQ⟩
                              · refine .inl ⟨?_, hP⟩
                                rw [bStr_get, bStr_get, hP i (by omega)]; simp
                              · refine .inr ⟨?_, hQ⟩
                                rw [bStr_get, hQ i (by omega)]; simp
                            · exact below_drewN HB.out _
                          case measure => simp [RowKit.intOf]; omega
                        | false =>
                          go_wp2_with fail
                          go_quiet (fail)
                          go_wp2_with fail
                          go_quiet (fail)
                          go_wp2_with fail
                          go_roundw
                          case rel =>
                            refine ⟨i + 1, _, _, rfl, rfl, ?_, by omega, by omega, by omega, ?_, ?_⟩
                            · go_num
                            · show _ ∨ _
                              rcases HSEL.out with ⟨_, hP⟩ | ⟨hv, hQ⟩
                              · refine .inl ⟨?_, hP⟩
                                rw [bStr_get, bStr_get, hP i (by omega)]; simp
                              · cases hv
                            · exact below_drewN HB.out _
                          case measure => simp [RowKit.intOf]; omega
                      | false =>
                        cases vb with
                        | true =>
                          go_wp2_with fail
                          go_quiet (fail)
                          go_wp2_with fail
                          go_quiet ((go_at_call 24; exact (byteAt_still L i _).mono fun _ _ h => ⟨h.1, _, h.2⟩))
                          go_wp2_with fail
                          go_roundw
                          case rel =>
                            refine ⟨i + 1, _, _, rfl, rfl, ?_, by omega, by omega, by omega, ?_, ?_⟩
                            · go_num
                            · show _ ∨ _
                              rcases HSEL.out with ⟨hv, hP⟩ | ⟨_, hQ⟩
                              · cases hv
                              · refine .inr ⟨?_, hQ⟩
                                rw [bStr_get, hQ i (by omega)]; simp
                            · exact below_drewN HB.out _
                          case measure => simp [RowKit.intOf]; omega
                        | false => rcases HSEL.out with ⟨hv, _⟩ | ⟨hv, _⟩ <;> cases hv
                    · have hce : (¬ (i : Int) < 64 * (k : Int) + 64) ∨ ((i : Int) < 64 * (k : Int) + 64 ∧ ¬ (i : Int) < (S.length : Int)) := by omega
                      clear hc
                      have hbb : (ub = true ∧ (vb = true ∨ vb = false)) ∨ (ub = false ∧ vb = true) := by
                        rcases HSEL.out with ⟨hv, _⟩ | ⟨hv, _⟩
                        · cases vb
                          · exact .inl ⟨hv, .inr rfl⟩
                          · exact .inl ⟨hv, .inl rfl⟩
                        · cases ub
                          · exact .inr ⟨rfl, hv⟩
                          · exact .inl ⟨rfl, .inl hv⟩
                      clear HSEL
                      rcases hce with h1 | ⟨h1, h2⟩ <;> rcases hbb with ⟨rfl, rfl | rfl⟩ | ⟨rfl, rfl⟩
                      all_goals
                        go_wp2_with fail
                        go_roundw
                        case rel => exact ⟨k + 1, by go_num, by omega, HB.out⟩
                        case measure => simp [RowKit.intOf]; omega
                · have hm : IntKind.i64.wrap (64 * (k : Int)) = 64 * (k : Int) := IntWalk.i64_in _ (by omega)
                  have hlt' : ¬ 64 * (k : Int) < (S.length : Int) := by omega
                  go_wp2_with fail
                  go_ret
                  exact ⟨rfl, HB.out⟩

end Go.Proofs.Ytdhknmnnmeamkaa
