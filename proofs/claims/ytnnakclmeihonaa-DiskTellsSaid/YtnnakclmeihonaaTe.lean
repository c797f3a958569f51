/- The walk of the law DiskTells. Conditions: what the arguments read as. -/
import Derived.Test.YtnnakclmeihonaaR3
import Derived.Deep.RegionHeld3
import Derived.Lib.Strings
namespace Go.Proofs.Ytnnakclmeihonaa
open Go.RowKit Go.ChangeMaps

theorem Dx.go {W w w' : World} {own : Nat → Option Nat} {b : Nat} {s : Ds} (h : Dx W w own b s) (hb : Below w.heap.size w w') : Dx W w' own b s :=
  ⟨h.da.kept1 (fun g r e => hb.block g (h.da.inb g r e)) hb.size, h.below.trans (hb.mono h.below.size), h.new⟩

set_option maxRecDepth 4000 in
set_option maxHeartbeats 4000000 in
theorem tells_walk (A : Option Addr) (n c : Nat) (xs : List Ac) (f a z : Int) (w : World) (h : AsIs w w.heap.size A n xs) (hn : n ≤ 9223372036854775807) (hF : ∀ x ∈ xs, x.Fits) (hf : I64 f) :
    Calls Try.prog 3 #[.slice A n c, .int .i64 f, .int .i64 a, .int .i64 z] w fun e w' => e = .returned (.bool true) ∧ Below w.heap.size w w' := by
  have HS := Lib.hid (small_any w)
  have HFEW : Hid (∀ W, Below w.heap.size w W → Calls Try.prog 9 #[.slice A n c] W fun e w' => e = .returned (.bool (fewP xs)) ∧ W = w') := fun W hb => few_any A n c _ xs W (h.below hb) hn hF
  have HW := Lib.hid h
  have HFF := Lib.hid hF
  clear h hF
  cases hq : fewP xs with
  | false =>
    rw [hq] at HFEW
    clear hq
    go_enter Try.func3, Try.ntmps3
    go_wp2_with fail
    refine HS.out.mono ?_
    rintro e w1 ⟨rfl, b1⟩
    have HB := Lib.hid b1
    clear b1
    go_wp2_with fail
    refine (HFEW.out _ HB.out).mono ?_
    rintro e w' ⟨rfl, rfl⟩
    go_wp2_with fail
    go_ret
    exact ⟨rfl, HB.out⟩
  | true =>
    have HO := Lib.hid (few_ok hq)
    have hn40 : n ≤ 40 := by rw [← HW.out.1]; exact HO.out.1
    rw [hq] at HFEW
    clear hq
    go_enter Try.func3, Try.ntmps3
    go_wp2_with fail
    refine HS.out.mono ?_
    rintro e w1 ⟨rfl, b1⟩
    have HB := Lib.hid b1
    clear b1
    go_wp2_with fail
    refine (HFEW.out _ HB.out).mono ?_
    rintro e w' ⟨rfl, rfl⟩
    go_wp2_with fail
    refine (x_new HB.out).mono ?_
    rintro e w2 ⟨b0, o2, rfl, hx2, -, -⟩
    have H2 := Lib.hid hx2
    clear hx2 HFEW HS HB
    go_wp2_with fail
    refine (y_new H2.out.below).mono ?_
    rintro e w3 ⟨br, o3, rfl, hy3, b3, n3⟩
    have H3 := Lib.hid (H2.out.go b3)
    have HR3 := Lib.hid hy3
    have HA3 : Hid (Apart o2 o3) := (Apart.new (own := o3) (own2 := o2) H2.out.da.inb n3).symm
    clear hy3 b3 n3 H2
    obtain ⟨hh, hhe⟩ : ∃ hh, n / 2 = hh := ⟨_, rfl⟩
    have hdiv : (n : Int).tdiv 2 = (hh : Int) := by rw [← hhe]; rfl
    have hhb : hh ≤ 20 := by omega
    have hhb0 : (hh : Int) ≤ 20 := by omega
    have HHE := Lib.hid hhe
    clear hhe
    go_wp2_with fail
    go_loopw [10, 12] (fun dv i wr => ∃ (k : Nat) (own own2 : Nat → Option Nat) (b : Nat) (S : Ds) (R : Rs), k ≤ n ∧ i = .int .i64 k ∧ dv = .pointer (some ⟨b, 0, none⟩) ∧ Hid (Dx w wr own b S) ∧ Hid (Rx w wr own2 br R) ∧ Hid (Apart own own2) ∧ Hid (Sim S R)) (fun _ i _ => n - (RowKit.intOf i).toNat)
    case atStart => exact ⟨0, o2, o3, b0, newD, newR, Nat.zero_le _, rfl, rfl, H3.out, HR3.out, HA3.out, Sim.new⟩
    case round =>
      clear H3 HR3 HA3
      obtain ⟨k, own, own2, b, S, R, hk, rfl, rfl, HD, HR, HAP, HSI⟩ := hrel
      by_cases hlt : k < n
      · obtain ⟨ad, x, rfl, hadb, hx, A1, c1, g0, g1, g2, g3, g4, hr⟩ := HW.out.at_ hlt
        have hmem := List.mem_of_getElem? hx
        have HFX := Lib.hid (HFF.out x hmem)
        obtain ⟨hs, hkp⟩ := HO.out.2 x hmem
        have HG : Hid (∀ W', Below w.heap.size w W' → W'.cell? (ad.add (k * 5)) = some (.int .i64 x.d) ∧ W'.cell? ⟨(ad.add (k * 5)).block, (ad.add (k * 5)).off + 1, none⟩ = some (.int .i64 x.f) ∧ W'.cell? ⟨(ad.add (k * 5)).block, (ad.add (k * 5)).off + 2, none⟩ = some (.int .i64 x.n) ∧ W'.cell? ⟨(ad.add (k * 5)).block, (ad.add (k * 5)).off + 3, none⟩ = some (.string x.s) ∧ W'.cell? ⟨(ad.add (k * 5)).block, (ad.add (k * 5)).off + 4, none⟩ = some (.slice A1 x.keep.length c1)) := fun W' hb =>
          have hbl : (ad.add (k * 5)).block < w.heap.size := by rw [block_of_add]; exact hadb
          ⟨(hb.cell hbl).trans g0, (hb.cell (p := ⟨(ad.add (k * 5)).block, (ad.add (k * 5)).off + 1, none⟩) hbl).trans g1, (hb.cell (p := ⟨(ad.add (k * 5)).block, (ad.add (k * 5)).off + 2, none⟩) hbl).trans g2, (hb.cell (p := ⟨(ad.add (k * 5)).block, (ad.add (k * 5)).off + 3, none⟩) hbl).trans g3, (hb.cell (p := ⟨(ad.add (k * 5)).block, (ad.add (k * 5)).off + 4, none⟩) hbl).trans g4⟩
        have HNU : Hid (∀ W' own', Below w.heap.size w W' → (∀ g r, own' g = some r → w.heap.size ≤ g) → Nums W' own' A1 x.keep.length x.keep) := fun W' own' hb hnew => ⟨(hr.below hb).more hb.size, fun hp ad' e => by
          obtain ⟨ad2, e1, h2, _⟩ := hr.2 hp
          rw [e] at e1
          cases e1
          cases e2 : own' ad'.block with
          | none => rfl
          | some r => have := hnew _ _ e2; omega, by omega⟩
        obtain ⟨hsim', hans⟩ := HSI.out.act HD.out.da.1 x
        have HDO := Lib.hid (do_any HD.out.drew x A1 c1 (HNU.out _ _ HD.out.drew.below HD.out.new) HFX.out (by omega))
        have HTE : Hid (∀ W' own', Rx w W' own' br R → Calls Try.prog 13 #[.pointer (some ⟨br, 0, none⟩), actV x A1 c1] W' (RXEnd w W' own' br (tellR R x).1 (.int .i64 (doP S x).2))) := fun W' own' hR' => by
          rw [hans]
          exact tell_any hR' HSI.out HD.out.da.1 x A1 c1 (HNU.out _ _ hR'.below hR'.new) HFX.out (by omega)
        generalize (doP S x).1 = S' at *
        generalize (doP S x).2 = r0 at *
        generalize (tellR R x).1 = R' at *
        have HSI' := Lib.hid hsim'
        obtain ⟨dn, hdn⟩ : ∃ dn, S'.down = dn := ⟨_, rfl⟩
        have hdn2 : R'.down = dn := hsim'.down.trans hdn
        obtain ⟨sn, hsn⟩ : ∃ sn, (S'.data f).length = sn := ⟨_, rfl⟩
        have HDN := Lib.hid hdn
        have HDN2 := Lib.hid hdn2
        have HSN := Lib.hid hsn
        have HF := Lib.hid hf
        have hlt' : (k : Int) < (n : Int) := by omega
        have hk0 : 0 ≤ (k : Int) := by omega
        unfold actV at HDO HTE
        clear hx hmem hr g0 g1 g2 g3 g4 hsim' hans hdn hdn2 hsn hf
        go_wp2_with fail
        go_region_held3 (fun w' => w'.cell? (ad.add (k * 5)) = some (.int .i64 x.d) ∧ w'.cell? ⟨(ad.add (k * 5)).block, (ad.add (k * 5)).off + 1, none⟩ = some (.int .i64 x.f) ∧ w'.cell? ⟨(ad.add (k * 5)).block, (ad.add (k * 5)).off + 2, none⟩ = some (.int .i64 x.n) ∧ w'.cell? ⟨(ad.add (k * 5)).block, (ad.add (k * 5)).off + 3, none⟩ = some (.string x.s) ∧ w'.cell? ⟨(ad.add (k * 5)).block, (ad.add (k * 5)).off + 4, none⟩ = some (.slice A1 x.keep.length c1))
          (first | exact HG.out _ HD.out.drew.below | exact q1 | exact q2 | exact q3)
          (first | (go_at_call 12; refine HDO.out.mono ?_; rintro e wa ⟨ona, rfl, hxa, ta⟩; obtain ⟨hya, apa⟩ := HR.out.drew.other HAP.out hxa.below ta; have q1 := HG.out _ hxa.below; have HDa := Lib.hid hxa; have HRa := Lib.hid hya; have HAPa := Lib.hid apa; clear hxa ta hya apa)
                 | (go_at_call 13; refine (HTE.out _ _ HRa.out).mono ?_; rintro e wb ⟨onb, rfl, hyb, tb⟩; obtain ⟨hxb, apb⟩ := HDa.out.other2 HAPa.out hyb.below tb; have q2 := HG.out _ hyb.below; have HDb := Lib.hid hxb; have HRb := Lib.hid hyb; have HAPb := Lib.hid apb; clear hxb tb hyb apb)
                 | (go_at_call 14; refine (x_down HDb.out HDN.out).mono ?_; rintro e wc ⟨rfl, rfl⟩)
                 | (go_at_call 15; refine (y_down HRb.out HDN2.out).mono ?_; rintro e wc ⟨rfl, rfl⟩)
                 | (go_at_call 16; refine (x_size HDb.out HF.out HSN.out).mono ?_; rintro e wc ⟨rfl, rfl⟩)
                 | (go_at_call 17; refine (y_size HRb.out HSI'.out HSN.out).mono ?_; rintro e wd ⟨rfl, bd⟩; have q3 := HG.out _ (HDb.out.go bd).below; have HDd := Lib.hid (HDb.out.go bd); have HRd := Lib.hid (HRb.out.past bd); clear bd))
        clear q1 q2 q3 HDa HRa HAPa HDb HRb HD HR HAP HSI HG HNU HDO HTE
        by_cases hkh : k = hh
        · have hkh' : (k : Int) = (hh : Int) := by omega
          obtain ⟨ad0, x0, e0, hadb0, hx0, A0, c0, g0, g1, g2, g3, g4, hr0⟩ := HW.out.at_ (k := 0) (by omega)
          cases e0
          have ea : ad.add (0 * 5) = ad := by simp [Addr.add]
          rw [ea] at g0 g1 g2 g3 g4
          have hmem0 := List.mem_of_getElem? hx0
          have HFX0 := Lib.hid (HFF.out x0 hmem0)
          obtain ⟨hs0, hkp0⟩ := HO.out.2 x0 hmem0
          have HNU0 : Hid (∀ W' own', Below w.heap.size w W' → (∀ g r, own' g = some r → w.heap.size ≤ g) → Nums W' own' A0 x0.keep.length x0.keep) := fun W' own' hb hnew => ⟨(hr0.below hb).more hb.size, fun hp ad' e => by
            obtain ⟨ad2, e1, h2, _⟩ := hr0.2 hp
            rw [e] at e1
            cases e1
            cases e2 : own' ad'.block with
            | none => rfl
            | some r => have := hnew _ _ e2; omega, by omega⟩
          have HG0 : Hid (∀ W', Below w.heap.size w W' → W'.cell? ad = some (.int .i64 x0.d) ∧ W'.cell? ⟨ad.block, ad.off + 1, none⟩ = some (.int .i64 x0.f) ∧ W'.cell? ⟨ad.block, ad.off + 2, none⟩ = some (.int .i64 x0.n) ∧ W'.cell? ⟨ad.block, ad.off + 3, none⟩ = some (.string x0.s) ∧ W'.cell? ⟨ad.block, ad.off + 4, none⟩ = some (.slice A0 x0.keep.length c0)) := fun W' hb =>
            have hbl : ad.block < w.heap.size := hadb
            ⟨(hb.cell hbl).trans g0, (hb.cell (p := ⟨ad.block, ad.off + 1, none⟩) hbl).trans g1, (hb.cell (p := ⟨ad.block, ad.off + 2, none⟩) hbl).trans g2, (hb.cell (p := ⟨ad.block, ad.off + 3, none⟩) hbl).trans g3, (hb.cell (p := ⟨ad.block, ad.off + 4, none⟩) hbl).trans g4⟩
          clear hx0 hmem0 hr0 ea g0 g1 g2 g3 g4
          go_wp2_with fail
          refine (x_copy HDd.out).mono ?_
          rintro e we ⟨bc, oc, rfl, hxc, bec, nec⟩
          have HXC := Lib.hid hxc
          have HOLD := Lib.hid (HDd.out.go bec)
          have HRE := Lib.hid (HRd.out.past bec)
          have HAC : Hid (Apart ona oc) := (Apart.new (own := oc) (own2 := ona) HDd.out.da.inb nec).symm
          have HAR : Hid (Apart oc onb) := Apart.new (own := oc) (own2 := onb) HRd.out.inb nec
          obtain ⟨g0, g1, g2, g3, g4⟩ := HG0.out _ hxc.below
          clear hxc bec nec HDd HRd
          have hn0 : (0 : Int) < (n : Int) := by omega
          go_wp2_with fail
          refine (do_any HOLD.out x0 A0 c0 (HNU0.out _ _ HOLD.out.below HOLD.out.new) HFX0.out (by omega)).mono ?_
          rintro e wf ⟨ofo, rfl, hxf, tf⟩
          obtain ⟨hc2, ac2⟩ := HXC.out.other HAC.out hxf tf
          obtain ⟨hr2, ar2⟩ := HRE.out.other HAPb.out hxf.below tf
          have HF2 := Lib.hid hxf
          have HC2 := Lib.hid hc2
          have HAC2 := Lib.hid ac2
          have HR2 := Lib.hid hr2
          have HAR2 := Lib.hid ar2
          clear hxf tf hc2 ac2 hr2 ar2 HXC HAC HRE HAPb HOLD g0 g1 g2 g3 g4 HG0 HNU0
          go_wp2_with fail
          refine (x_sync HF2.out rfl rfl).mono ?_
          rintro e wg ⟨og, rfl, hxg, tg⟩
          have HC3 := Lib.hid (HC2.out.other HAC2.out hxg tg).1
          have HR3 := Lib.hid (HR2.out.other HAR2.out hxg.below tg).1
          clear hxg tg HC2 HAC2 HR2 HAR2 HF2
          go_wp2_with fail
          go_roundw
          case rel => exact ⟨k + 1, oc, onb, bc, S', R', by omega, by go_num, rfl, HC3, HR3, HAR, HSI'⟩
          case measure => simp [RowKit.intOf]; omega
        · have hkh' : ¬ (k : Int) = (hh : Int) := by omega
          have hkb : ((k : Int) == (hh : Int)) = false := by simpa using hkh'
          have hkd : decide ((k : Int) = (hh : Int)) = false := decide_eq_false hkh'
          have hkd2 : decide (k = hh) = false := decide_eq_false hkh
          go_wp2_with fail
          go_roundw
          case rel => exact ⟨k + 1, ona, onb, b, S', R', by omega, by go_num, rfl, HDd, HRd, HAPb, HSI'⟩
          case measure => simp [RowKit.intOf]; omega
      · obtain rfl : k = n := by omega
        obtain ⟨l, r1, hrd⟩ : ∃ l r1, readP S f a z = (l, r1) := ⟨_, _, rfl⟩
        have HRD := Lib.hid hrd
        have HF := Lib.hid hf
        clear hrd hf
        go_wp2_with fail
        refine (x_read HD.out HF.out HRD.out).mono ?_
        rintro e w4 ⟨rfl, rfl⟩
        go_wp2_with fail
        refine (y_read HR.out HSI.out HD.out.da.1 HRD.out).mono ?_
        rintro e w5 ⟨rfl, b5⟩
        have HE := Lib.hid (HD.out.go b5).below
        clear b5 HD HR HAP
        go_wp2_with fail
        go_ret
        exact ⟨rfl, HE.out⟩

end Go.Proofs.Ytnnakclmeihonaa
