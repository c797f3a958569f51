/- The walk of big's reduce. Conditions: lengths; the divisor's highest bit is set; the window is less than the divisor times a digit. -/
import Derived.Test.YtoocdokhljpokaaDoorE2
namespace Go.Proofs.YtoocdokhljpokaaDoor
set_option maxRecDepth 8000
open Go.RowKit

/-- How reduce ends. -/
def RedEnd (w : World) (g off n : Nat) (L b : List Nat) (e : Ending) (w' : World) : Prop :=
  ∃ E, e = .returned (.int .i64 (dval ((L.drop off).take (n + 1)) / dval b : Nat)) ∧ Dig w' g (midL L off (n + 1) E) ∧ Sml E ∧ E.length = n + 1 ∧ dval E = dval ((L.drop off).take (n + 1)) % dval b ∧ w.grownBy w' (some g)
theorem or40 {a b : Int} (a0 : 0 ≤ a) (a1 : a < 1048576) (b0 : 0 ≤ b) (b1 : b < 1048576) : bits .or .i64 (a * 1099511627776) (b * 1048576) = a * 1099511627776 + b * 1048576 :=
  bits_join .i64 63 (by decide) wraps_i64 40 (a * 1099511627776) (b * 1048576) (by omega) (by omega) (by omega) (by omega) (by omega) (by omega)
theorem or20 {a b c : Int} (a0 : 0 ≤ a) (a1 : a < 1048576) (b0 : 0 ≤ b) (b1 : b < 1048576) (c0 : 0 ≤ c) (c1 : c < 1048576) : bits .or .i64 (a * 1099511627776 + b * 1048576) c = a * 1099511627776 + b * 1048576 + c :=
  bits_join .i64 63 (by decide) wraps_i64 20 (a * 1099511627776 + b * 1048576) c (by omega) (by omega) (by omega) (by omega) (by omega) (by omega)
theorem midL_win {L E : List Nat} {off n : Nat} (ho : off ≤ L.length) (hE : E.length = n) : ((midL L off n E).drop off).take n = E := by
  unfold midL
  rw [List.drop_append_of_le_length (by rw [List.length_take]; omega), List.drop_of_length_le (by rw [List.length_take]; omega), List.nil_append, List.take_append_of_le_length (by omega), List.take_of_length_le (by omega)]
theorem midL_mid {L E E2 : List Nat} {off n : Nat} (ho : off ≤ L.length) (hE : E.length = n) : midL (midL L off n E) off n E2 = midL L off n E2 := by
  have e1 : (midL L off n E).take off = L.take off := by
    unfold midL
    rw [List.take_append_of_le_length (by rw [List.length_take]; omega), List.take_take, Nat.min_self]
  have e2 : (midL L off n E).drop (off + n) = L.drop (off + n) := by
    unfold midL
    rw [← List.append_assoc]
    exact List.drop_left' (by rw [List.length_append, List.length_take]; omega)
  show (midL L off n E).take off ++ (E2 ++ (midL L off n E).drop (off + n)) = _
  rw [e1, e2]
  rfl
set_option maxHeartbeats 4000000 in
theorem reduce_any (g off n c : Nat) (L : List Nat) (A2 : Option Addr) (c2 B2 : Nat) (b : List Nat) (w : World)
    (h : Dig w g L) (ho : off + (n + 1) ≤ L.length) (hs : Sml ((L.drop off).take (n + 1))) (hb : Reads w B2 1 A2 n (dv b)) (hb2 : 0 < n → ∀ ad, A2 = some ad → ad.block ≠ g) (hbs : Sml b) (hn2 : 2 ≤ n) (hn : n ≤ 1048576)
    (ht : ∀ d, b[n - 1]? = some d → 524288 ≤ d) (hlt : dval ((L.drop off).take (n + 1)) < dval b * 1048576) :
    Calls Tryd.prog 56 #[.slice (some ⟨g, off, none⟩) (n + 1) c, .slice A2 n c2] w (RedEnd w g off n L b) := by
  obtain ⟨D, hD⟩ : ∃ D, (L.drop off).take (n + 1) = D := ⟨_, rfl⟩
  have hDl : D.length = n + 1 := by rw [← hD, List.length_take, List.length_drop]; omega
  have hbl : b.length = n := hb.lenD
  have hself := midL_self L off (n + 1)
  unfold RedEnd
  rw [hD] at hs hself hlt ⊢
  obtain ⟨k, hk⟩ : ∃ k, n = k + 2 := ⟨n - 2, by omega⟩
  subst hk
  obtain ⟨d2, e2⟩ : ∃ d, D[k + 2]? = some d := ⟨_, List.getElem?_eq_getElem (by omega)⟩
  obtain ⟨d1, e1⟩ : ∃ d, D[k + 1]? = some d := ⟨_, List.getElem?_eq_getElem (by omega)⟩
  obtain ⟨d0, e0⟩ : ∃ d, D[k]? = some d := ⟨_, List.getElem?_eq_getElem (by omega)⟩
  obtain ⟨ad, b1, rfl, f1, g1⟩ := hb.atD (i := k + 1) (by omega)
  obtain ⟨ad', b0, ee, f0, g0⟩ := hb.atD (i := k) (by omega)
  cases ee
  have g1' : w.cell? ⟨ad.block, ad.off + (k + 1), none⟩ = some (.int .i64 (b1 : Int)) := by
    have e : ad.add (k + 1) = ⟨ad.block, ad.off + (k + 1), none⟩ := by simp [Addr.add]
    rw [← e]; exact g1
  have htop := ht b1 (by simpa using f1)
  have hg := guess hDl hbl hs hbs e2 e1 e0 f1 f0 htop hlt
  have hd2 := hs.at_ e2
  have hd1 := hs.at_ e1
  have hd0 := hs.at_ e0
  have hb1 := hbs.at_ f1
  have hb0 := hbs.at_ f0
  have c2' : w.cell? ⟨g, off + (k + 2), none⟩ = some (.int .i64 (d2 : Int)) := by rw [← hself] at h; exact h.cell ((midL_at (n := k + 3) (by omega) (show k + 2 < D.length by omega)).trans e2)
  have c1' : w.cell? ⟨g, off + (k + 1), none⟩ = some (.int .i64 (d1 : Int)) := by rw [← hself] at h; exact h.cell ((midL_at (n := k + 3) (by omega) (show k + 1 < D.length by omega)).trans e1)
  have c0' : w.cell? ⟨g, off + k, none⟩ = some (.int .i64 (d0 : Int)) := by rw [← hself] at h; exact h.cell ((midL_at (n := k + 3) (by omega) (show k < D.length by omega)).trans e0)
  have H := Lib.hid h
  have HD := Lib.hid hD
  have HDL := Lib.hid hDl
  have HBL := Lib.hid hbl
  have HS := Lib.hid hs
  have HB := Lib.hid hb
  have HB2 := Lib.hid hb2
  have HBS := Lib.hid hbs
  have HLT := Lib.hid hlt
  have HO := Lib.hid ho
  have HG := Lib.hid hg
  clear h hD hDl hbl hs hb hb2 hbs hlt hg hself e2 e1 e0 f1 f0 ht ho
  go_enter Tryd.func56, Tryd.ntmps56
  go_wp2_with fail
  have i2 : (0 : Int) ≤ (k : Int) + 2 := by omega
  have i2b : (k : Int) + 2 < (k : Int) + 2 + 1 := by omega
  have i2t : ((k : Int) + 2).toNat = k + 2 := by omega
  have v1 : IntKind.i64.wrap ((k : Int) + 2 - 1) = (k : Int) + 1 := by rw [IntWalk.i64_in _ (by omega)]; omega
  have v2 : IntKind.i64.wrap ((k : Int) + 2 - 2) = (k : Int) := by rw [IntWalk.i64_in _ (by omega)]; omega
  have v3 : IntKind.i64.wrap (k : Int) = (k : Int) := IntWalk.i64_in _ (by omega)
  have i1 : (0 : Int) ≤ (k : Int) + 1 := by omega
  have i1b : (k : Int) + 1 < (k : Int) + 2 + 1 := by omega
  have i1c : (k : Int) + 1 < (k : Int) + 2 := by omega
  have i1t : ((k : Int) + 1).toNat = k + 1 := by omega
  have i0b : (k : Int) < (k : Int) + 2 + 1 := by omega
  have i0c : (k : Int) < (k : Int) + 2 := by omega
  have s2 : IntKind.i64.wrap ((d2 : Int) * 1099511627776) = (d2 : Int) * 1099511627776 := IntWalk.i64_in _ (by omega)
  have s1 : IntKind.i64.wrap ((d1 : Int) * 1048576) = (d1 : Int) * 1048576 := IntWalk.i64_in _ (by omega)
  have s3 : IntKind.i64.wrap ((b1 : Int) * 1048576) = (b1 : Int) * 1048576 := IntWalk.i64_in _ (by omega)
  have o1 := or40 (a := d2) (b := d1) (by omega) (by omega) (by omega) (by omega)
  have o2 := or20 (a := d2) (b := d1) (c := d0) (by omega) (by omega) (by omega) (by omega) (by omega) (by omega)
  have o3 := or_digit (x := b1) (d := b0) (by omega) (by omega) (by omega) (by omega)
  obtain ⟨T, hT⟩ : ∃ T : Int, (d2 : Int) * 1099511627776 + (d1 : Int) * 1048576 + (d0 : Int) = T := ⟨_, rfl⟩
  obtain ⟨U, hU⟩ : ∃ U : Int, (b1 : Int) * 1048576 + (b0 : Int) = U := ⟨_, rfl⟩
  rw [hT] at o2
  rw [hU] at o3
  have hUz : ¬ U = 0 := by omega
  have hU0 : 0 < U := by omega
  have hT0 : 0 ≤ T := by omega
  have hT1 : T < 1152921504606846976 := by omega
  have hq0 : 0 ≤ T / U := Int.ediv_nonneg hT0 (by omega)
  have hq1 : T / U ≤ 1048576 := by
    have := HG.out.1
    have e : T / U = (((d2 * 1099511627776 + d1 * 1048576 + d0) / (b1 * 1048576 + b0) : Nat) : Int) := by rw [← hT, ← hU]; rfl
    rw [e]
    omega
  have wq : IntKind.i64.wrap (T.tdiv U) = T / U := by rw [Int.tdiv_eq_ediv_of_nonneg hT0]; exact IntWalk.i64_in _ (by omega)
  have HT := Lib.hid hT
  have HU := Lib.hid hU
  clear hT hU
  obtain ⟨q0, hq0n⟩ : ∃ q0 : Nat, (d2 * 1099511627776 + d1 * 1048576 + d0) / (b1 * 1048576 + b0) = q0 := ⟨_, rfl⟩
  have hTU : T / U = (q0 : Int) := by rw [← HT.out, ← HU.out, ← hq0n]; rfl
  have HG2 : Hid (dval D / dval b ≤ q0 ∧ q0 ≤ dval D / dval b + 1) := by rw [← hq0n]; exact HG.out.2
  have hqb : q0 ≤ 1048576 := by omega
  have HTU := Lib.hid hTU
  have hbp : 0 < dval b := by have := HLT.out; omega
  have HW : Hid ((dval D : Int) < 1048576 ^ (k + 2 + 1) ∧ (dval b : Int) < 1048576 ^ (k + 2 + 1)) := by
    have h1 := dval_lt HS.out
    have h2 := dval_lt HBS.out
    rw [HDL.out] at h1
    rw [HBL.out] at h2
    have h3 : 1048576 ^ (k + 2) ≤ 1048576 ^ (k + 2 + 1) := Nat.pow_le_pow_right (by decide) (by omega)
    have h4 := cast_pow (k + 2 + 1)
    refine ⟨by rw [← h4]; omega, by rw [← h4]; omega⟩
  clear hq0n hTU
  go_quiet (fail)
  go_wp2_with fail
  refine (addTo_any g off (k + 2 + 1) c L (some ad) (k + 2) c2 B2 b (-(T / U)) _ (H.out.drewN _) HO.out (by rw [HD.out]; exact HS.out) (HB.out.drewN _) HB2.out HBS.out (by omega) (by omega) (by omega) (by omega)).mono ?_
  rintro e w2 ⟨E, t, rfl, hE, sE, lE, vE, gE⟩
  rw [HD.out, HTU.out] at vE
  have hoL : off ≤ L.length := by have := HO.out; omega
  have hEl : (dval E : Int) < 1048576 ^ (k + 2 + 1) := by
    have h1 := dval_lt sE
    rw [lE] at h1
    rw [← cast_pow]
    omega
  have HEl := Lib.hid hEl
  have HE := Lib.hid hE
  have HSE := Lib.hid sE
  have HLE := Lib.hid lE
  have HVE := Lib.hid vE
  have HGE := Lib.hid gE
  clear hE sE lE vE gE hEl
  by_cases hneg : t < 0
  · go_wp2_with fail
    refine (addTo_any g off (k + 2 + 1) c (midL L off (k + 2 + 1) E) (some ad) (k + 2) c2 B2 b 1 w2 HE.out (by rw [midL_len HO.out HLE.out]; exact HO.out) (by rw [midL_win hoL HLE.out]; exact HSE.out) ((HB.out.drewN _).apart HGE.out HB2.out) HB2.out HBS.out (by omega) (by omega) (by omega) (by omega)).mono ?_
    rintro e w3 ⟨E2, t2, rfl, hE2, sE2, lE2, vE2, gE2⟩
    rw [midL_mid hoL HLE.out] at hE2
    rw [midL_win hoL HLE.out] at vE2
    have hEl2 : (dval E2 : Int) < 1048576 ^ (k + 2 + 1) := by
      have h1 := dval_lt sE2
      rw [lE2] at h1
      rw [← cast_pow]
      omega
    obtain ⟨r1, r2⟩ := red_neg hbp HG2.out.1 HG2.out.2 HVE.out HEl.out HW.out.2 hneg vE2 hEl2
    have hres : T / U - 1 = ((dval D / dval b : Nat) : Int) := by rw [HTU.out, r1]; omega
    have HR := Lib.hid hres
    have hfin : Dig w3 g (midL L off (k + 2 + 1) E2) ∧ Sml E2 ∧ E2.length = k + 2 + 1 ∧ dval E2 = dval D % dval b ∧ w.grownBy w3 (some g) := ⟨hE2, sE2, lE2, r2, grown_step (grown_step (only_drewN (grown_refl w (some g)) _) HGE.out) gE2⟩
    have HF := Lib.hid hfin
    clear hE2 sE2 lE2 vE2 gE2 hEl2 r1 r2 hres hfin
    go_wp2_with fail
    go_ret
    exact ⟨E2, by rw [← HR.out]; rfl, HF.out.1, HF.out.2.1, HF.out.2.2.1, HF.out.2.2.2.1, HF.out.2.2.2.2⟩
  · obtain ⟨r1, r2⟩ := red_pos hbp HG2.out.1 HVE.out HW.out.1 (by omega)
    have hres : T / U = ((dval D / dval b : Nat) : Int) := by rw [HTU.out, r1]
    have HR := Lib.hid hres
    have HR2 := Lib.hid r2
    clear r1 r2 hres
    go_wp2_with fail
    go_ret
    exact ⟨E, by rw [← HR.out]; rfl, HE.out, HSE.out, HLE.out, HR2.out, grown_step (only_drewN (grown_refl w (some g)) _) HGE.out⟩
end Go.Proofs.YtoocdokhljpokaaDoor
