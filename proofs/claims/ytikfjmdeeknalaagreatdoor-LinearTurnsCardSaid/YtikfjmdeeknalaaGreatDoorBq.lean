/- The walks of big's small functions over digits. Conditions: lengths. -/
import Derived.Test.YtikfjmdeeknalaaGreatDoorBw
import Derived.Test.YtikfjmdeeknalaaGreatDoorShelf
namespace Go.Proofs.YtikfjmdeeknalaaGreatDoor
set_option maxRecDepth 8000
open Go.RowKit

def lenOf : Value → Nat
  | .slice _ n _ => n
  | _ => 0
set_option maxHeartbeats 2000000 in
theorem trim_any (A : Option Addr) (n c B : Nat) (l : List Nat) (w : World) (h : Reads w B 1 A n (dv l)) (hc : n ≤ c) (hn : n ≤ 1073741824) :
    Calls Tryz.prog 197 #[.slice A n c] w fun e w' => w = w' ∧ ∃ m, m ≤ n ∧ e = .returned (.slice A m c) ∧ NoZ (l.take m) ∧ dval (l.take m) = dval l := by
  have HR := Lib.hid h
  have hl := h.lenD
  have HL := Lib.hid hl
  clear h hl
  go_enter Tryz.func197, Tryz.ntmps197
  go_wp2_with fail
  go_loopw [0] (fun d wr => ∃ m, m ≤ n ∧ d = .slice A m c ∧ Hid (∀ i, m ≤ i → i < n → l[i]? = some 0) ∧ w = wr) (fun d _ => lenOf d)
  case atStart => exact ⟨n, Nat.le_refl _, rfl, (fun i h1 h2 => by omega), rfl⟩
  case round =>
    obtain ⟨m, hm, rfl, HZ, rfl⟩ := hrel
    by_cases h0 : m = 0
    · subst h0
      go_wp2_with fail
      go_ret
      refine ⟨rfl, 0, by omega, rfl, by simp [NoZ], ?_⟩
      exact dval_take0 (fun i h1 h2 => HZ.out i h1 (by rw [← HL.out]; exact h2))
    · have hp : (0 : Int) < (m : Int) := by omega
      obtain ⟨ad, d, rfl, hd, g1⟩ := HR.out.atD (i := m - 1) (by omega)
      have hi0 : (0 : Int) ≤ (m : Int) - 1 := by omega
      have hi1 : (m : Int) - 1 < (m : Int) := by omega
      have ht : ((m : Int) - 1).toNat = m - 1 := by omega
      by_cases hd0 : d = 0
      · subst hd0
        have hmc : (m : Int) - 1 ≤ (c : Int) := by omega
        go_wp2_with fail
        go_roundw
        case rel => exact ⟨m - 1, by omega, by first | rfl | (congr 1; omega) | (congr 1; all_goals omega), (fun i h1 h2 => by
          by_cases e : i = m - 1
          · subst e; exact hd
          · exact HZ.out i (by omega) h2), trivial⟩
        case measure => simp [lenOf]; omega
      · have hd0' : ¬ (d : Int) = 0 := by omega
        go_wp2_with fail
        go_ret
        refine ⟨rfl, m, hm, rfl, ?_, ?_⟩
        · have hlt : m - 1 < l.length := by rw [HL.out]; omega
          have e : l.take m = l.take (m - 1) ++ [d] := by
            have := List.take_append_getElem hlt
            rw [(List.getElem?_eq_some_iff.1 hd).2] at this
            rw [← show m - 1 + 1 = m by omega]
            exact this.symm
          rw [e]
          simp [NoZ]
          omega
        · exact dval_take0 (fun i h1 h2 => HZ.out i h1 (by rw [← HL.out]; exact h2))

/-- The order of two numbers. -/
def ordN (a b : Nat) : Int := if a < b then -1 else if a = b then 0 else 1
theorem ordN_cmp (a b : Nat) : Lib.compareInt (a : Int) (b : Int) = ordN a b := by
  unfold Lib.compareInt ordN
  split <;> split <;> first | omega | (split <;> omega)
set_option maxHeartbeats 4000000 in
theorem compare_any (A1 A2 : Option Addr) (n1 n2 c1 c2 B1 B2 : Nat) (l1 l2 : List Nat) (w : World) (h1 : Reads w B1 1 A1 n1 (dv l1)) (h2 : Reads w B2 1 A2 n2 (dv l2)) (k1 : Norm l1) (k2 : Norm l2) (hn1 : n1 ≤ 1073741824) (hn2 : n2 ≤ 1073741824) {r : Int} (hr : ordN (dval l1) (dval l2) = r) :
    Calls Tryz.prog 140 #[.slice A1 n1 c1, .slice A2 n2 c2] w fun e w' => e = .returned (.int .i64 r) ∧ Drew w w' := by
  have H1 := Lib.hid h1
  have H2 := Lib.hid h2
  have L1 := Lib.hid h1.lenD
  have L2 := Lib.hid h2.lenD
  have K1 := Lib.hid k1
  have K2 := Lib.hid k2
  clear h1 h2 k1 k2
  by_cases hne : n1 = n2
  · subst hne
    have HN := Lib.hid (ordN_cmp)
    go_enter Tryz.func140, Tryz.ntmps140
    go_wp2_with fail
    go_loopw [5] (fun i wr => ∃ k : Nat, k ≤ n1 ∧ i = .int .i64 ((k : Int) - 1) ∧ Hid (l1.drop k = l2.drop k) ∧ Drew w wr) (fun i _ => (RowKit.intOf i + 1).toNat)
    case atStart => exact ⟨n1, Nat.le_refl _, rfl, (by rw [List.drop_of_length_le (by rw [L1.out]; exact Nat.le_refl _), List.drop_of_length_le (by rw [L2.out]; exact Nat.le_refl _)]; exact rfl), 0, rfl⟩
    case round =>
      obtain ⟨k, hk, rfl, HD, dd, rfl⟩ := hrel
      by_cases h0 : k = 0
      · subst h0
        have e : l1 = l2 := by have := HD.out; simpa using this
        have e2 : ordN (dval l1) (dval l2) = 0 := by rw [e]; unfold ordN; rw [if_neg (by omega), if_pos rfl]
        go_wp2_with fail
        go_ret
        exact ⟨by rw [← hr, e2]; rfl, dd, rfl⟩
      · obtain ⟨ad1, x, rfl, hx, g1⟩ := H1.out.atD (i := k - 1) (by omega)
        obtain ⟨ad2, y, rfl, hy, g2⟩ := H2.out.atD (i := k - 1) (by omega)
        have hi0 : (0 : Int) ≤ (k : Int) - 1 := by omega
        have hi1 : (k : Int) - 1 < (n1 : Int) := by omega
        have ht : ((k : Int) - 1).toNat = k - 1 := by omega
        have hd1 : l1.drop (k - 1 + 1) = l2.drop (k - 1 + 1) := by rw [show k - 1 + 1 = k by omega]; exact HD.out
        by_cases hxy : x = y
        · subst hxy
          have HX := Lib.hid hx
          have HY := Lib.hid hy
          have hd2 : l1.drop (k - 1) = l2.drop (k - 1) := by
            have e1 := List.drop_eq_getElem_cons (l := l1) (i := k - 1) (List.getElem?_eq_some_iff.1 hx).1
            have e2 := List.drop_eq_getElem_cons (l := l2) (i := k - 1) (List.getElem?_eq_some_iff.1 hy).1
            rw [e1, e2, hd1, (List.getElem?_eq_some_iff.1 hx).2, (List.getElem?_eq_some_iff.1 hy).2]
          have HD2 := Lib.hid hd2
          clear hx hy hd1 hd2
          have g1d : (w.drewN dd).cell? (ad1.add (k - 1)) = some (.int .i64 (x : Int)) := g1
          have g2d : (w.drewN dd).cell? (ad2.add (k - 1)) = some (.int .i64 (x : Int)) := g2
          go_wp2_with fail
          go_quiet (fail)
          go_wp2_with fail
          go_roundw
          case rel => exact ⟨k - 1, by omega, by first | rfl | (congr 1; omega), HD2, _, rfl⟩
          case measure => simp [RowKit.intOf]; omega
        · have hxy' : ¬ (x : Int) = (y : Int) := by omega
          have hres : ordN x y = r := by
            rw [← hr]
            rcases Nat.lt_or_gt_of_ne hxy with h | h
            · have := dval_top K1.out.1 hx hy hd1 h
              unfold ordN
              rw [if_pos h, if_pos this]
            · have := dval_top K2.out.1 hy hx hd1.symm h
              unfold ordN
              rw [if_neg (by omega), if_neg (by omega), if_neg (by omega), if_neg (by omega)]
          clear hx hy hd1
          have g1d : (w.drewN dd).cell? (ad1.add (k - 1)) = some (.int .i64 (x : Int)) := g1
          have g2d : (w.drewN dd).cell? (ad2.add (k - 1)) = some (.int .i64 (y : Int)) := g2
          go_wp2_with fail
          go_quiet (fail)
          go_wp2_with fail
          go_quiet ((go_at_call 139; exact (Tryz.cmp_Compare_int _ _ _).mono fun _ _ h => ⟨h.1, _, h.2⟩))
          go_wp2_with fail
          go_ret
          exact ⟨by rw [ordN_cmp, hres]; rfl, Drew.more (Drew.more ⟨_, rfl⟩)⟩
  · have hne' : ¬ (n1 : Int) = (n2 : Int) := by omega
    have hres : ordN n1 n2 = r := by
      rw [← hr]
      rcases Nat.lt_or_gt_of_ne hne with h | h
      · have := dval_short K1.out.1 K2.out (by rw [L1.out, L2.out]; exact h)
        unfold ordN
        rw [if_pos h, if_pos this]
      · have := dval_short K2.out.1 K1.out (by rw [L1.out, L2.out]; exact h)
        unfold ordN
        rw [if_neg (by omega), if_neg (by omega), if_neg (by omega), if_neg (by omega)]
    go_enter Tryz.func140, Tryz.ntmps140
    go_wp2_with fail
    refine (Tryz.cmp_Compare_int _ _ _).mono ?_
    rintro e w' ⟨rfl, rfl⟩
    go_wp2_with fail
    go_ret
    exact ⟨by rw [ordN_cmp, hres]; rfl, 0, rfl⟩


/-- How addTo ends. -/
def AddEnd (w : World) (g off n : Nat) (L b : List Nat) (f : Int) (e : Ending) (w' : World) : Prop := ∃ E q, e = .returned (.int .i64 q) ∧ Dig w' g (midL L off n E) ∧ Sml E ∧ E.length = n ∧ (dval E : Int) + 1048576 ^ n * q = dval ((L.drop off).take n) + f * dval b ∧ w.grownBy w' (some g)
set_option maxHeartbeats 4000000 in
theorem addTo_any (g off n c : Nat) (L : List Nat) (A2 : Option Addr) (n2 c2 B2 : Nat) (b : List Nat) (f : Int) (w : World)
    (h : Dig w g L) (ho : off + n ≤ L.length) (hs : Sml ((L.drop off).take n)) (hb : Reads w B2 1 A2 n2 (dv b)) (hb2 : 0 < n2 → ∀ ad, A2 = some ad → ad.block ≠ g) (hbs : Sml b) (hn2 : n2 ≤ n) (f0 : -1048576 ≤ f) (f1 : f ≤ 1048576) (hn : n ≤ 1073741824) :
    Calls Tryz.prog 199 #[.slice (some ⟨g, off, none⟩) n c, .slice A2 n2 c2, .int .i64 f] w (AddEnd w g off n L b f) := by
  obtain ⟨D, hD⟩ : ∃ D, (L.drop off).take n = D := ⟨_, rfl⟩
  have hDl : D.length = n := by rw [← hD, List.length_take, List.length_drop]; omega
  have hself := midL_self L off n
  unfold AddEnd
  rw [hD] at hs hself ⊢
  rw [← hself] at h
  have hoL : off ≤ L.length := by omega
  have HS := Lib.hid hs
  have H := Lib.hid h
  have HB := Lib.hid hb
  have HB2 := Lib.hid hb2
  have HBS := Lib.hid hbs
  have HDL := Lib.hid hDl
  have hbl := Lib.hid hb.lenD
  clear hD hself h hb hb2 hs hbs hDl
  have hand := and_mask
  go_enter Tryz.func199, Tryz.ntmps199
  go_wp2_with fail
  go_loopw [7, 13] (fun q i wr => ∃ (k : Nat) (E : List Nat) (t : Int), k ≤ n2 ∧ i = .int .i64 k ∧ q = .int .i64 t ∧ Hid (AddSt D b f k k E t) ∧ Hid (Dig wr g (midL L off n E)) ∧ Hid (w.grownBy wr (some g))) (fun _ i _ => n2 - (RowKit.intOf i).toNat)
  case atStart => exact ⟨0, D, 0, Nat.zero_le _, rfl, rfl, AddSt.new HS.out, H, grown_refl _ _⟩
  case round =>
    obtain ⟨k, E, t, hk, rfl, rfl, HA, HE, HG⟩ := hrel
    by_cases hlt : k < n2
    · obtain ⟨ad, x, rfl, hx, g1⟩ := (HB.out.apart HG.out HB2.out).atD hlt
      obtain ⟨d, hd⟩ : ∃ d, D[k]? = some d := ⟨_, List.getElem?_eq_getElem (by rw [HDL.out]; omega)⟩
      have hEl : E.length = n := HA.out.len.trans HDL.out
      have hEd : E[k]? = some d := (at_low HA.out.low).trans hd
      have g2 := HE.out.cell ((midL_at (n := n) hoL (show k < E.length by omega)).trans hEd)
      have gf := HE.out.frozen (off + k)
      have hxl := HBS.out.at_ hx
      have hdl := HS.out.at_ hd
      have ht0 := HA.out.lo
      have ht1 := HA.out.hi
      have b1 : (x : Int) * f ≤ 1099511627776 := by
        have h1 : (x : Int) * f ≤ (x : Int) * 1048576 := Int.mul_le_mul_of_nonneg_left f1 (by omega)
        omega
      have b2 : -1099511627776 ≤ (x : Int) * f := by
        have h1 : (x : Int) * (-1048576) ≤ (x : Int) * f := Int.mul_le_mul_of_nonneg_left f0 (by omega)
        omega
      have HX := Lib.hid hx
      have HDk := Lib.hid hd
      have hkc : (k : Int) < (n : Int) := by omega
      clear hx hd hEl hEd
      go_wp2_with fail
      go_roundw
      case rel => exact ⟨k + 1, _, _, by omega, by go_num, rfl, HA.out.step1 HDk.out HX.out hxl f0 f1, by
        have h := HE.out.setI (off + k) (v := (t + (↑d + ↑x * f)) % 1048576) (by omega)
        rw [midL_set hoL (by rw [HA.out.len, HDL.out]; omega)] at h
        exact h, only_setCell HG.out (.inl rfl) _⟩
      case measure => simp [RowKit.intOf]; omega
    · obtain rfl : k = n2 := by omega
      clear HB HB2 H
      go_wp2_with fail
      go_loopw [7, 10] (fun q i wr => ∃ (j : Nat) (E : List Nat) (t : Int), j ≤ n ∧ i = .int .i64 j ∧ q = .int .i64 t ∧ Hid (AddSt D b f j k E t) ∧ Hid (Dig wr g (midL L off n E)) ∧ Hid (w.grownBy wr (some g))) (fun _ i _ => n - (RowKit.intOf i).toNat)
      case atStart => exact ⟨k, E, t, by omega, rfl, rfl, HA, HE, HG⟩
      case round =>
        clear HA HE HG
        obtain ⟨j, E, t, hj, rfl, rfl, HA, HE, HG⟩ := hrel
        by_cases hlt2 : j < n
        · by_cases ht : t = 0
          · subst ht
            have hkc : (j : Int) < (n : Int) := by omega
            go_wp2_with fail
            go_ret
            exact ⟨E, 0, rfl, HE.out, HA.out.sml, HA.out.len.trans HDL.out, by have := (hbl.out ▸ HA.out : AddSt D b f j b.length E 0).done (by rw [HDL.out]; omega) (.inr rfl); rw [HDL.out] at this; exact this, HG.out⟩
          · obtain ⟨d, hd⟩ : ∃ d, D[j]? = some d := ⟨_, List.getElem?_eq_getElem (by rw [HDL.out]; omega)⟩
            have hEl : E.length = n := HA.out.len.trans HDL.out
            have hEd : E[j]? = some d := (at_low HA.out.low).trans hd
            have g2 := HE.out.cell ((midL_at (n := n) hoL (show j < E.length by omega)).trans hEd)
            have gf := HE.out.frozen (off + j)
            have hdl := HS.out.at_ hd
            have ht0 := HA.out.lo
            have ht1 := HA.out.hi
            have HDk := Lib.hid hd
            have hkc : (j : Int) < (n : Int) := by omega
            clear hd hEl hEd
            go_wp2_with fail
            go_roundw
            case rel => exact ⟨j + 1, _, _, by omega, by go_num, rfl, HA.out.step2 HDk.out f0 f1, by
              have h := HE.out.setI (off + j) (v := (t + ↑d) % 1048576) (by omega)
              rw [midL_set hoL (by rw [HA.out.len, HDL.out]; omega)] at h
              exact h, only_setCell HG.out (.inl rfl) _⟩
            case measure => simp [RowKit.intOf]; omega
        · obtain rfl : j = n := by omega
          go_wp2_with fail
          go_ret
          exact ⟨E, t, rfl, HE.out, HA.out.sml, HA.out.len.trans HDL.out, by have := (hbl.out ▸ HA.out : AddSt D b f j b.length E t).done (by rw [HDL.out]; omega) (.inl HDL.out.symm); rw [HDL.out] at this; exact this, HG.out⟩
end Go.Proofs.YtikfjmdeeknalaaGreatDoor
