/- The walk of the law DiskArms. Conditions: what the arguments read as. -/
import Derived.Test.YtdhknmnnmeamkaaSa
import Derived.Test.YtdhknmnnmeamkaaPa
namespace Go.Proofs.Ytdhknmnnmeamkaa
open Go.RowKit Go.ChangeMaps

def ActAt (w : World) (a : Addr) (x : Ac) (A1 : Option Addr) (c1 : Nat) : Prop :=
  w.cell? a = some (.int .i64 x.d) ∧ w.cell? ⟨a.block, a.off + 1, none⟩ = some (.int .i64 x.f) ∧ w.cell? ⟨a.block, a.off + 2, none⟩ = some (.int .i64 x.n) ∧ w.cell? ⟨a.block, a.off + 3, none⟩ = some (.string x.s) ∧ w.cell? ⟨a.block, a.off + 4, none⟩ = some (.slice A1 x.keep.length c1)
theorem ActAt.below {B : Nat} {w w' : World} {a : Addr} {x : Ac} {A1 : Option Addr} {c1 : Nat} (h : ActAt w a x A1 c1) (hb : Below B w w') (ha : a.block < B) : ActAt w' a x A1 c1 :=
  ⟨(hb.cell ha).trans h.1, (hb.cell (p := ⟨a.block, a.off + 1, none⟩) ha).trans h.2.1, (hb.cell (p := ⟨a.block, a.off + 2, none⟩) ha).trans h.2.2.1, (hb.cell (p := ⟨a.block, a.off + 3, none⟩) ha).trans h.2.2.2.1, (hb.cell (p := ⟨a.block, a.off + 4, none⟩) ha).trans h.2.2.2.2⟩
theorem AsIs.act {w : World} {n k : Nat} {A : Option Addr} {xs : List Ac} (h : AsIs w w.heap.size A n xs) (hk : k < n) : ∃ (ad : Addr) (x : Ac), A = some ad ∧ (ad.add (k * 5)).block < w.heap.size ∧ xs[k]? = some x ∧ ∃ A1 c1, ActAt w (ad.add (k * 5)) x A1 c1 ∧ Reads w w.heap.size 1 A1 x.keep.length (inV x.keep) := by
  obtain ⟨ad, x, rfl, h1, hx, A1, c1, g0, g1, g2, g3, g4, hr⟩ := h.at_ hk
  exact ⟨ad, x, rfl, by rw [block_of_add]; exact h1, hx, A1, c1, ⟨g0, g1, g2, g3, g4⟩, hr⟩
theorem x_do {W w : World} {own : Nat → Option Nat} {b : Nat} {s s' : Ds} {r : Int} (h : Dx W w own b s) (x : Ac) (A : Option Addr) (c : Nat) (hr : Reads W W.heap.size 1 A x.keep.length (inV x.keep)) (hkp : x.keep.length ≤ 1000000) (hf : x.Fits) (hs : x.s.size ≤ 16777216) (e : doP s x = (s', r)) :
    Calls Try.prog 12 #[.pointer (some ⟨b, 0, none⟩), actV x A c] w (XEnd W w own b s' (.int .i64 r)) := by
  have h1 := do_any h x A c (Nums.low h hr hkp) hf hs
  rw [e] at h1
  exact h1

/-- What holds of the two disks: the crash is still to come, or it has come to both. -/
def Two (N q : Nat) (l : List Int) (s1 s2 : Ds) : Prop := (q < N ∧ s2.left = 0 ∧ s2.down = false ∧ s1 = arm s2 ((N : Int) - (q : Int)) l) ∨ (N ≤ q ∧ s1.down = true ∧ s2.down = true ∧ s1.data = s2.data)
theorem Two.same {N q : Nat} {l : List Int} {s1 s2 : Ds} (h : Two N q l s1 s2) : s1.down = s2.down ∧ s1.data = s2.data := by
  rcases h with ⟨_, _, _, rfl⟩ | ⟨_, h1, h2, h3⟩
  · exact ⟨rfl, rfl⟩
  · exact ⟨h1.trans h2.symm, h3⟩

set_option maxRecDepth 4000 in
set_option maxHeartbeats 4000000 in
theorem arms_walk (A : Option Addr) (n c : Nat) (xs : List Ac) (z : Int) (A3 : Option Addr) (n3 c3 : Nat) (l : List Int) (w : World) (h : AsIs w w.heap.size A n xs) (hn : n ≤ 9223372036854775807) (hF : ∀ x ∈ xs, x.Fits)
    (h3 : Reads w w.heap.size 1 A3 n3 (inV l)) (hn3 : n3 ≤ 9223372036854775807) (hz : I64 z) :
    Calls Try.prog 6 #[.slice A n c, .int .i64 z, .slice A3 n3 c3] w fun e w' => e = .returned (.bool true) ∧ Below w.heap.size w w' := by
  have HS := Lib.hid (small_any w)
  have HFEW : Hid (∀ W, Below w.heap.size w W → Calls Try.prog 9 #[.slice A n c] W fun e w' => e = .returned (.bool (fewP xs)) ∧ W = w') := fun W hb => few_any A n c _ xs W (h.below hb) hn hF
  have HW := Lib.hid h
  have HFF := Lib.hid hF
  have HR3 := Lib.hid h3
  have HL := Lib.hid h.1
  clear h hF h3
  cases hq : fewP xs with
  | false =>
    rw [hq] at HFEW
    clear hq
    go_enter Try.func6, Try.ntmps6
    go_wp2_with fail
    refine HS.out.mono ?_
    rintro e w1 ⟨rfl, b1⟩
    have HB := Lib.hid b1
    clear b1
    go_wp2_with fail
    refine (HFEW.out _ HB.out).mono ?_
    rintro e w' ⟨rfl, rfl⟩
    go_wp2_with fail
    go_ret
    exact ⟨rfl, HB.out⟩
  | true =>
    have HQ := Lib.hid hq
    rw [hq] at HFEW
    clear hq
    have hcases : (60 : Int) < (n3 : Int) ∨ (¬ (60 : Int) < (n3 : Int) ∧ z < 1) ∨ (¬ (60 : Int) < (n3 : Int) ∧ ¬ z < 1 ∧ 60 < z) ∨ (¬ (60 : Int) < (n3 : Int) ∧ ¬ z < 1 ∧ ¬ 60 < z) := by omega
    rcases hcases with k1 | ⟨k1, k2⟩ | ⟨k1, k2, k3⟩ | ⟨k1, k2, k3⟩
    iterate 3
      · go_enter Try.func6, Try.ntmps6
        go_wp2_with fail
        refine HS.out.mono ?_
        rintro e w1 ⟨rfl, b1⟩
        have HB := Lib.hid b1
        clear b1
        go_wp2_with fail
        refine (HFEW.out _ HB.out).mono ?_
        rintro e w' ⟨rfl, rfl⟩
        go_wp2_with fail
        go_ret
        exact ⟨rfl, HB.out⟩
    · obtain ⟨N, rfl⟩ := Int.eq_ofNat_of_zero_le (show 0 ≤ z by omega)
      have hn40 : n ≤ 40 := by rw [← HL.out]; exact (few_ok HQ.out).1
      go_enter Try.func6, Try.ntmps6
      go_wp2_with fail
      refine HS.out.mono ?_
      rintro e w1 ⟨rfl, b1⟩
      have HB := Lib.hid b1
      clear b1
      go_wp2_with fail
      refine (HFEW.out _ HB.out).mono ?_
      rintro e w' ⟨rfl, rfl⟩
      go_wp2_with fail
      refine (x_new HB.out).mono ?_
      rintro e w2 ⟨b, o1, rfl, hx1, -, -⟩
      have H1 := Lib.hid hx1
      clear hx1 HB HFEW HS
      go_wp2_with fail
      refine (x_new H1.out.below).mono ?_
      rintro e w3 ⟨c2, o2, rfl, hx2, b3, n3'⟩
      obtain ⟨hx1, ap⟩ := H1.out.past b3 n3'
      have H2 := Lib.hid hx1
      have C2 := Lib.hid hx2
      have AP2 := Lib.hid ap
      clear hx1 hx2 ap b3 n3' H1
      go_wp2_with fail
      refine (x_arm H2.out hz (Nums.low H2.out HR3.out (by omega))).mono ?_
      rintro e w4 ⟨o3, rfl, hx4, t4⟩
      obtain ⟨hc4, ap4⟩ := C2.out.other AP2.out hx4 t4
      have ep : pos (N : Int) = (N : Int) := by unfold pos; omega
      rw [ep] at hx4
      have H4 := Lib.hid (show Dx w w4 o3 b (arm newD ((N : Int) - ((0 : Nat) : Int)) l) by rw [show ((N : Int) - ((0 : Nat) : Int)) = (N : Int) by omega]; exact hx4)
      have C4 := Lib.hid hc4
      have AP4 := Lib.hid ap4
      clear hx4 t4 hc4 ap4 ep H2 C2 AP2
      go_wp2_with fail
      go_loopw [10, 11] (fun m i wr => ∃ (q k : Nat) (o1 o2 : Nat → Option Nat) (s1 s2 : Ds), m = .int .i64 q ∧ i = .int .i64 k ∧ k ≤ n ∧ q ≤ k ∧ Hid (Dx w wr o1 b s1) ∧ Hid (Dx w wr o2 c2 s2) ∧ Hid (Apart o1 o2) ∧ Hid (Two N q l s1 s2)) (fun _ i _ => n - (RowKit.intOf i).toNat)
      case atStart => exact ⟨0, 0, o3, o2, _, newD, rfl, rfl, Nat.zero_le _, Nat.le_refl _, H4.out, C4.out, AP4.out, .inl ⟨by omega, rfl, rfl, rfl⟩⟩
      case round =>
        clear H4 C4 AP4
        obtain ⟨q, k, o1, o2, s1, s2, rfl, rfl, hk, hqk, HD, HC, HAP, HT⟩ := hrel
        by_cases hlt : k < n
        · obtain ⟨ad, x, rfl, hab, hx, A1, c1, hat, hrd⟩ := HW.out.act hlt
          have hmem := List.mem_of_getElem? hx
          have HFX := Lib.hid (HFF.out x hmem)
          obtain ⟨hs, hkp⟩ := (few_ok HQ.out).2 x hmem
          have HAT := Lib.hid hat
          have HRD := Lib.hid hrd
          have HAB := Lib.hid hab
          obtain ⟨g0, g1, g2, g3, g4⟩ := HAT.out.below HD.out.below HAB.out
          have hlt' : (k : Int) < (n : Int) := by omega
          have hk0 : 0 ≤ (k : Int) := by omega
          have hq0 : 0 ≤ (q : Int) := by omega
          obtain ⟨d8, hd8⟩ : ∃ d8, x.d % 8 = d8 := ⟨_, rfl⟩
          have e7 : bits .and .i64 x.d 7 = d8 := (i64_and7 _).trans hd8
          clear hx hmem hrd hat hab
          by_cases h5 : 4 < d8
          · have HE := Lib.hid HD.out.below
            clear HD HC HAP HT
            go_wp2_with fail
            go_ret
            exact ⟨rfl, HE.out⟩
          · rcases HT.out with ⟨t1, t2, t3, rfl⟩ | ⟨t1, t2, t3, t4⟩
            · by_cases h4 : d8 = 4
              · obtain ⟨a1, a2, a3⟩ := act_lose (L := (N : Int) - (q : Int)) (keep := l) t3 t2 x (hd8.trans h4)
                have HTW : Hid (Two N q l (arm (doP s2 x).1 ((N : Int) - (q : Int)) l) (doP s2 x).1) := .inl ⟨t1, a2, a3, rfl⟩
                have HA := Lib.hid a1
                have c1' : (q : Int) < (N : Int) := by omega
                have h4' : ¬ d8 < 4 := by omega
                clear HT hd8 a1 a2 a3
                obtain ⟨r, hr⟩ : ∃ r, (doP s2 x).2 = r := ⟨_, rfl⟩
                have HA2 : Hid (doP s2 x = ((doP s2 x).1, r)) := Prod.ext rfl hr
                rw [hr] at HA
                generalize (doP s2 x).1 = s3 at *
                go_wp2_with fail
                refine (x_do HD.out x A1 c1 HRD.out (by omega) HFX.out (by omega) HA.out).mono ?_
                rintro e w4 ⟨o3, rfl, hx4, tr4⟩
                obtain ⟨hc4, ap4⟩ := HC.out.other HAP.out hx4 tr4
                obtain ⟨g0, g1, g2, g3, g4⟩ := HAT.out.below hx4.below HAB.out
                have H4 := Lib.hid hx4
                have C4 := Lib.hid hc4
                have AP4 := Lib.hid ap4
                clear hx4 hc4 ap4 tr4 HD HC HAP
                go_wp2_with fail
                refine (x_do C4.out x A1 c1 HRD.out (by omega) HFX.out (by omega) HA2.out).mono ?_
                rintro e w5 ⟨o4, rfl, hx5, tr5⟩
                obtain ⟨hd5, ap5⟩ := H4.out.other AP4.out.symm hx5 tr5
                have H5 := Lib.hid hd5
                have C5 := Lib.hid hx5
                have AP5 := Lib.hid ap5.symm
                clear hx5 hd5 ap5 tr5 H4 C4 AP4 g0 g1 g2 g3 g4
                go_wp2_with fail
                go_roundw
                case rel => exact ⟨q, k + 1, _, _, _, _, by go_num, by go_num, by omega, by omega, H5, C5, AP5, HTW⟩
                case measure => simp [RowKit.intOf]; omega
              · have h4' : d8 < 4 := by omega
                by_cases hl : q + 1 < N
                · obtain ⟨a1, a2, a3⟩ := act_before (L := (N : Int) - (q : Int)) (keep := l) t3 t2 x (by omega) (by omega)
                  have e9 : (N : Int) - (q : Int) - 1 = (N : Int) - ((q + 1 : Nat) : Int) := by omega
                  rw [e9] at a1
                  have HTW : Hid (Two N (q + 1) l (arm (doP s2 x).1 ((N : Int) - ((q + 1 : Nat) : Int)) l) (doP s2 x).1) := .inl ⟨hl, a2, a3, rfl⟩
                  have HA := Lib.hid a1
                  have c1' : (q : Int) + 1 < (N : Int) := by omega
                  clear HT hd8 a1 a2 a3 e9
                  obtain ⟨r, hr⟩ : ∃ r, (doP s2 x).2 = r := ⟨_, rfl⟩
                  have HA2 : Hid (doP s2 x = ((doP s2 x).1, r)) := Prod.ext rfl hr
                  rw [hr] at HA
                  generalize (doP s2 x).1 = s3 at *
                  go_wp2_with fail
                  refine (x_do HD.out x A1 c1 HRD.out (by omega) HFX.out (by omega) HA.out).mono ?_
                  rintro e w4 ⟨o3, rfl, hx4, tr4⟩
                  obtain ⟨hc4, ap4⟩ := HC.out.other HAP.out hx4 tr4
                  obtain ⟨g0, g1, g2, g3, g4⟩ := HAT.out.below hx4.below HAB.out
                  have H4 := Lib.hid hx4
                  have C4 := Lib.hid hc4
                  have AP4 := Lib.hid ap4
                  clear hx4 hc4 ap4 tr4 HD HC HAP
                  go_wp2_with fail
                  refine (x_do C4.out x A1 c1 HRD.out (by omega) HFX.out (by omega) HA2.out).mono ?_
                  rintro e w5 ⟨o4, rfl, hx5, tr5⟩
                  obtain ⟨hd5, ap5⟩ := H4.out.other AP4.out.symm hx5 tr5
                  have H5 := Lib.hid hd5
                  have C5 := Lib.hid hx5
                  have AP5 := Lib.hid ap5.symm
                  clear hx5 hd5 ap5 tr5 H4 C4 AP4 g0 g1 g2 g3 g4
                  go_wp2_with fail
                  go_roundw
                  case rel => exact ⟨q + 1, k + 1, _, _, _, _, by go_num, by go_num, by omega, by omega, H5, C5, AP5, HTW⟩
                  case measure => simp [RowKit.intOf]; omega
                · have hqN : q + 1 = N := by omega
                  have e9 : (N : Int) - (q : Int) = 1 := by omega
                  rw [e9] at HD
                  obtain ⟨a1, a3⟩ := act_crash (keep := l) t3 t2 x (by omega)
                  have c1' : (q : Int) + 1 = (N : Int) := by omega
                  have c2' : ¬ (q : Int) + 1 < (N : Int) := by omega
                  have h4n : ¬ d8 = 4 := h4
                  by_cases hw : d8 < 2
                  · rw [if_pos (by omega)] at a1
                    have hcr := crash_up (keep := l) a3
                    have HTW : Hid (Two N (q + 1) l (crashed (doP s2 x).1 l) (crashed (doP s2 x).1 l)) := .inr ⟨by omega, rfl, rfl, rfl⟩
                    have HA := Lib.hid a1
                    have HCR := Lib.hid hcr
                    clear HT hd8 a1 a3 e9 hcr
                    obtain ⟨r, hr⟩ : ∃ r, (doP s2 x).2 = r := ⟨_, rfl⟩
                    have HA2 : Hid (doP s2 x = ((doP s2 x).1, r)) := Prod.ext rfl hr
                    generalize (doP s2 x).1 = s3 at *
                    go_wp2_with fail
                    refine (x_do HD.out x A1 c1 HRD.out (by omega) HFX.out (by omega) HA.out).mono ?_
                    rintro e w4 ⟨o3, rfl, hx4, tr4⟩
                    obtain ⟨hc4, ap4⟩ := HC.out.other HAP.out hx4 tr4
                    obtain ⟨g0, g1, g2, g3, g4⟩ := HAT.out.below hx4.below HAB.out
                    have H4 := Lib.hid hx4
                    have C4 := Lib.hid hc4
                    have AP4 := Lib.hid ap4
                    clear hx4 hc4 ap4 tr4 HD HC HAP
                    go_wp2_with fail
                    refine (x_do C4.out x A1 c1 HRD.out (by omega) HFX.out (by omega) HA2.out).mono ?_
                    rintro e w5 ⟨o4, rfl, hx5, tr5⟩
                    obtain ⟨hd5, ap5⟩ := H4.out.other AP4.out.symm hx5 tr5
                    have H5 := Lib.hid hd5
                    have C5 := Lib.hid hx5
                    have AP5 := Lib.hid ap5.symm
                    clear hx5 hd5 ap5 tr5 H4 C4 AP4 g0 g1 g2 g3 g4
                    go_wp2_with fail
                    refine (x_crash C5.out (Nums.low C5.out HR3.out (by omega)) HCR.out).mono ?_
                    rintro e w6 ⟨o6, rfl, hx6, tr6⟩
                    obtain ⟨hd6, ap6⟩ := H5.out.other AP5.out.symm hx6 tr6
                    have H6 := Lib.hid hd6
                    have C6 := Lib.hid hx6
                    have AP6 := Lib.hid ap6.symm
                    clear hx6 hd6 ap6 tr6 H5 C5 AP5
                    go_wp2_with fail
                    refine (x_down H6.out (show (crashed s3 l).down = true from rfl)).mono ?_
                    rintro e w' ⟨rfl, rfl⟩
                    go_wp2_with fail
                    go_roundw
                    case rel => exact ⟨q + 1, k + 1, _, _, _, _, by go_num, by go_num, by omega, by omega, H6, C6, AP6, HTW⟩
                    case measure => simp [RowKit.intOf]; omega
                  · rw [if_neg (by omega)] at a1
                    have hcr := crash_up (keep := l) t3
                    have HTW : Hid (Two N (q + 1) l (crashed s2 l) (crashed s2 l)) := .inr ⟨by omega, rfl, rfl, rfl⟩
                    have HA := Lib.hid a1
                    have HCR := Lib.hid hcr
                    clear HT hd8 a1 a3 e9 hcr
                    go_wp2_with fail
                    refine (x_do HD.out x A1 c1 HRD.out (by omega) HFX.out (by omega) HA.out).mono ?_
                    rintro e w4 ⟨o3, rfl, hx4, tr4⟩
                    obtain ⟨hc4, ap4⟩ := HC.out.other HAP.out hx4 tr4
                    obtain ⟨g0, g1, g2, g3, g4⟩ := HAT.out.below hx4.below HAB.out
                    have H4 := Lib.hid hx4
                    have C4 := Lib.hid hc4
                    have AP4 := Lib.hid ap4
                    clear hx4 hc4 ap4 tr4 HD HC HAP
                    go_wp2_with fail
                    refine (x_crash C4.out (Nums.low C4.out HR3.out (by omega)) HCR.out).mono ?_
                    rintro e w6 ⟨o6, rfl, hx6, tr6⟩
                    obtain ⟨hd6, ap6⟩ := H4.out.other AP4.out.symm hx6 tr6
                    have H6 := Lib.hid hd6
                    have C6 := Lib.hid hx6
                    have AP6 := Lib.hid ap6.symm
                    clear hx6 hd6 ap6 tr6 H4 C4 AP4
                    go_wp2_with fail
                    refine (x_down H6.out (show (crashed s2 l).down = true from rfl)).mono ?_
                    rintro e w' ⟨rfl, rfl⟩
                    go_wp2_with fail
                    go_roundw
                    case rel => exact ⟨q + 1, k + 1, _, _, _, _, by go_num, by go_num, by omega, by omega, H6, C6, AP6, HTW⟩
                    case measure => simp [RowKit.intOf]; omega
            · obtain ⟨a1, a2, a3⟩ := act_down t2 x (by omega)
              have c1' : (N : Int) ≤ (q : Int) := by omega
              obtain ⟨r, hr⟩ : ∃ r, (doP s1 x).2 = r := ⟨_, rfl⟩
              have HA : Hid (doP s1 x = ((doP s1 x).1, r)) := Prod.ext rfl hr
              by_cases h4 : d8 < 4
              · obtain rfl : r = 8 := by rw [← hr]; exact a3 (by omega)
                have HTW : Hid (Two N (q + 1) l (doP s1 x).1 s2) := .inr ⟨by omega, a1, t3, a2.trans t4⟩
                have HDN := Lib.hid a1
                have c2' : ¬ (q : Int) + 1 < (N : Int) := by omega
                have c3' : ¬ (q : Int) + 1 = (N : Int) := by omega
                clear HT hd8 a1 a2 a3 hr
                generalize (doP s1 x).1 = s3 at *
                go_wp2_with fail
                refine (x_do HD.out x A1 c1 HRD.out (by omega) HFX.out (by omega) HA.out).mono ?_
                rintro e w4 ⟨o3, rfl, hx4, tr4⟩
                obtain ⟨hc4, ap4⟩ := HC.out.other HAP.out hx4 tr4
                obtain ⟨g0, g1, g2, g3, g4⟩ := HAT.out.below hx4.below HAB.out
                have H4 := Lib.hid hx4
                have C4 := Lib.hid hc4
                have AP4 := Lib.hid ap4
                clear hx4 hc4 ap4 tr4 HD HC HAP
                go_wp2_with fail
                refine (x_down H4.out HDN.out).mono ?_
                rintro e w' ⟨rfl, rfl⟩
                go_wp2_with fail
                go_roundw
                case rel => exact ⟨q + 1, k + 1, _, _, _, _, by go_num, by go_num, by omega, by omega, H4, C4, AP4, HTW⟩
                case measure => simp [RowKit.intOf]; omega
              · have h4' : d8 = 4 := by omega
                have HTW : Hid (Two N q l (doP s1 x).1 s2) := .inr ⟨t1, a1, t3, a2.trans t4⟩
                have HDN := Lib.hid a1
                have c2' : ¬ (q : Int) < (N : Int) := by omega
                have h2' : ¬ d8 < 2 := by omega
                clear HT hd8 a1 a2 a3 hr
                generalize (doP s1 x).1 = s3 at *
                by_cases hqN : q = N
                · have c3' : (q : Int) = (N : Int) := by omega
                  go_wp2_with fail
                  refine (x_do HD.out x A1 c1 HRD.out (by omega) HFX.out (by omega) HA.out).mono ?_
                  rintro e w4 ⟨o3, rfl, hx4, tr4⟩
                  obtain ⟨hc4, ap4⟩ := HC.out.other HAP.out hx4 tr4
                  obtain ⟨g0, g1, g2, g3, g4⟩ := HAT.out.below hx4.below HAB.out
                  have H4 := Lib.hid hx4
                  have C4 := Lib.hid hc4
                  have AP4 := Lib.hid ap4
                  clear hx4 hc4 ap4 tr4 HD HC HAP
                  go_wp2_with fail
                  refine (x_down H4.out HDN.out).mono ?_
                  rintro e w' ⟨rfl, rfl⟩
                  go_wp2_with fail
                  refine (x_down H4.out HDN.out).mono ?_
                  rintro e w' ⟨rfl, rfl⟩
                  go_wp2_with fail
                  go_roundw
                  case rel => exact ⟨q, k + 1, _, _, _, _, by go_num, by go_num, by omega, by omega, H4, C4, AP4, HTW⟩
                  case measure => simp [RowKit.intOf]; omega
                · have c3' : ¬ (q : Int) = (N : Int) := by omega
                  go_wp2_with fail
                  refine (x_do HD.out x A1 c1 HRD.out (by omega) HFX.out (by omega) HA.out).mono ?_
                  rintro e w4 ⟨o3, rfl, hx4, tr4⟩
                  obtain ⟨hc4, ap4⟩ := HC.out.other HAP.out hx4 tr4
                  obtain ⟨g0, g1, g2, g3, g4⟩ := HAT.out.below hx4.below HAB.out
                  have H4 := Lib.hid hx4
                  have C4 := Lib.hid hc4
                  have AP4 := Lib.hid ap4
                  clear hx4 hc4 ap4 tr4 HD HC HAP
                  go_wp2_with fail
                  refine (x_down H4.out HDN.out).mono ?_
                  rintro e w' ⟨rfl, rfl⟩
                  go_wp2_with fail
                  go_roundw
                  case rel => exact ⟨q, k + 1, _, _, _, _, by go_num, by go_num, by omega, by omega, H4, C4, AP4, HTW⟩
                  case measure => simp [RowKit.intOf]; omega
        · obtain rfl : k = n := by omega
          obtain ⟨e1, e2⟩ := Two.same HT.out
          have HL1 := Lib.hid (fun W (hb : Below w.heap.size w W) => ((HW.out.below hb).more hb.size))
          have HE1 := Lib.hid e1
          have HE2 := Lib.hid e2
          clear HT e1 e2
          go_wp2_with fail
          refine (same_any HD.out HC.out A k c xs (HL1.out _ HD.out.below) (by omega) HFF.out HE1.out HE2.out).mono ?_
          rintro e w5 ⟨rfl, d5, rfl⟩
          have H5 := Lib.hid (HD.out.drewN d5)
          have C5 := Lib.hid (HC.out.drewN d5)
          generalize wr.drewN d5 = w5 at *
          clear HD HC
          go_wp2_with fail
          refine (x_start H5.out).mono ?_
          rintro e w6 ⟨o6, rfl, hx6, tr6⟩
          obtain ⟨hc6, ap6⟩ := C5.out.other HAP.out hx6 tr6
          have H6 := Lib.hid hx6
          have C6 := Lib.hid hc6
          have AP6 := Lib.hid ap6
          clear hx6 hc6 ap6 tr6 H5 C5 HAP
          go_wp2_with fail
          refine (x_start C6.out).mono ?_
          rintro e w7 ⟨o7, rfl, hx7, tr7⟩
          obtain ⟨hd7, ap7⟩ := H6.out.other AP6.out.symm hx7 tr7
          have H7 := Lib.hid hd7
          have C7 := Lib.hid hx7
          clear hx7 hd7 ap7 tr7 H6 C6 AP6
          go_wp2_with fail
          refine (same_any H7.out C7.out A k c xs (HL1.out _ H7.out.below) (by omega) HFF.out rfl HE2.out).mono ?_
          rintro e w8 ⟨rfl, d8, rfl⟩
          have HE := Lib.hid (below_drewN H7.out.below d8)
          generalize w7.drewN d8 = w8 at *
          clear H7 C7
          go_wp2_with fail
          go_ret
          exact ⟨rfl, HE.out⟩

end Go.Proofs.Ytdhknmnnmeamkaa
