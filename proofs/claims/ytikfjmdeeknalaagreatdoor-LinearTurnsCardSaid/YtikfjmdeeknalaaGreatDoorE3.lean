/- The walks of big's shift and shiftBack. Conditions: lengths; the shift is less than a digit's width. -/
import Derived.Test.YtikfjmdeeknalaaGreatDoorE1
import Derived.Test.YtikfjmdeeknalaaGreatDoorBx
import Derived.WalkArith
namespace Go.Proofs.YtikfjmdeeknalaaGreatDoor
set_option maxRecDepth 8000
open Go.RowKit

theorem or_comm_i (a b : Int) : bits .or .i64 a b = bits .or .i64 b a := by
  show IntKind.i64.wrap (((BitVec.ofInt 64 a) ||| (BitVec.ofInt 64 b)).toNat : Int) = IntKind.i64.wrap (((BitVec.ofInt 64 b) ||| (BitVec.ofInt 64 a)).toNat : Int)
  rw [BitVec.or_comm]
theorem pow_small {y : Nat} (hy : y < 20) : 0 < 2 ^ y ∧ 2 ^ y ≤ 524288 := by
  refine ⟨Nat.pow_pos (by decide), ?_⟩
  have : 2 ^ y ≤ 2 ^ 19 := Nat.pow_le_pow_right (by decide) (by omega)
  simpa using this
/-- A digit that is shifted by y, and what is carried. -/
theorem or_low_y {t d y : Nat} (hy : y < 20) (h1 : t < 2 ^ y) (h2 : d < 1048576) : bits .or .i64 (t : Int) ((d * 2 ^ y : Nat) : Int) = ((t + d * 2 ^ y : Nat) : Int) := by
  obtain ⟨p0, p1⟩ := pow_small hy
  have h3 : d * 2 ^ y ≤ 1048576 * 524288 := Nat.mul_le_mul (by omega) p1
  rw [or_comm_i]
  have e : (2 : Int) ^ y = ((2 ^ y : Nat) : Int) := by rw [Int.natCast_pow]; rfl
  have := bits_join .i64 63 (by decide) wraps_i64 y ((d * 2 ^ y : Nat) : Int) (t : Int) (by omega) (by rw [e, ← Int.natCast_emod, Nat.mul_mod_left]; rfl) (by omega) (by omega) (by rw [e]; omega) (by omega)
  rw [this]
  omega
/-- How shift ends. -/
def ShlEnd (w : World) (l : List Nat) (n y : Nat) (e : Ending) (w' : World) : Prop := ∃ S, e = .returned (.slice (some ⟨w.heap.size, 0, none⟩) (n + 1) (n + 1)) ∧ S.length = n + 1 ∧ Sml S ∧ dval S = dval l * 2 ^ y ∧ Dig w' w.heap.size S ∧ Below w.heap.size w w'
set_option maxHeartbeats 4000000 in
theorem shift_any (A : Option Addr) (n c B : Nat) (l : List Nat) (y : Nat) (w : World) (h : Reads w B 1 A n (dv l)) (hs : Sml l) (hy : y < 20) (hn : n ≤ 1048576) :
    Calls Tryz.prog 228 #[.slice A n c, .int .i64 y] w (ShlEnd w l n y) := by
  have HR := Lib.hid h
  have HL := Lib.hid h.lenD
  have HS := Lib.hid hs
  have hmk := fun wx => run_make_row' (P := Tryz.prog) 22 3 (.int .i64 0) 8 Tryz.underlying22 (by kernel_rfl) (by simp [Value.cells]) .i64 .i64 (n + 1) (by omega) (by omega) wx
  obtain ⟨N, hN⟩ : ∃ N, n + 1 = N := ⟨_, rfl⟩
  rw [hN] at hmk
  have hNi : (n : Int) + 1 = (N : Int) := by omega
  have hand := and_mask
  clear h hs
  go_enter Tryz.func228, Tryz.ntmps228
  go_wp2_with fail
  have HD := Lib.hid (Dig.made w N)
  have HMK := Lib.hid hmk
  clear hmk
  go_loopw [6, 15] (fun q i wr => ∃ (k : Nat) (S : List Nat) (t : Nat), k ≤ n ∧ i = .int .i64 k ∧ q = .int .i64 t ∧ Hid (ShlSt l (2 ^ y) k S t) ∧ Hid (Dig wr w.heap.size S) ∧ Hid (Below w.heap.size w wr)) (fun _ i _ => n - (RowKit.intOf i).toNat)
  case atStart => exact ⟨0, _, 0, Nat.zero_le _, rfl, rfl, ShlSt.new (Nat.pow_pos (by decide)) (by rw [List.length_replicate, HL.out, hN]), HD, (Below.refl _ _).alloc (Nat.le_refl _) _⟩
  case round =>
    obtain ⟨k, S, t, hk, rfl, rfl, HT, HE, HW⟩ := hrel
    by_cases hlt : k < n
    · have hkc : (k : Int) < (n : Int) := by omega
      have hkN : (k : Int) < (N : Int) := by omega
      obtain ⟨ad, d, rfl, hd, g1⟩ := (HR.out.past HW.out).atD hlt
      have HDk := Lib.hid hd
      have hdl := HS.out.at_ hd
      have ht := HT.out.hi
      obtain ⟨p0, p1⟩ := pow_small hy
      have h3 : d * 2 ^ y ≤ 1048576 * 524288 := Nat.mul_le_mul (by omega) p1
      have hor := or_low_y hy ht hdl
      obtain ⟨Z, hZ⟩ : ∃ Z : Int, ((d * 2 ^ y : Nat) : Int) = Z := ⟨_, rfl⟩
      obtain ⟨X, hX⟩ : ∃ X : Int, ((t + d * 2 ^ y : Nat) : Int) = X := ⟨_, rfl⟩
      have hX0 : 0 ≤ X := by omega
      have hX1 : X ≤ 1099511627776 := by omega
      rw [hZ, hX] at hor
      have hw : wrap64 ((d : Int) * 2 ^ y) = Z := by
        have e : (d : Int) * 2 ^ y = ((d * 2 ^ y : Nat) : Int) := by rw [Int.natCast_mul, Int.natCast_pow]; rfl
        rw [e, hZ]
        unfold wrap64
        omega
      have HX := Lib.hid hX
      obtain ⟨u, hu⟩ : ∃ u, S[k]? = some u := ⟨_, List.getElem?_eq_getElem (by rw [HT.out.len, HL.out]; omega)⟩
      have g2 := HE.out.cell hu
      have gf := HE.out.frozen k
      clear hd p0 p1 h3 hZ hX hu
      go_wp2_with fail
      go_roundw
      case rel => exact ⟨k + 1, _, (t + d * 2 ^ y) / 1048576, by omega, by go_num, by rw [← HX.out]; rfl, HT.out.step HDk.out hdl, by
        have h := HE.out.setI k (v := X % 1048576) (by omega)
        rw [show (X % 1048576).toNat = (t + d * 2 ^ y) % 1048576 by rw [← HX.out]; omega] at h
        exact h, HW.out.setCell (p := ⟨w.heap.size, k, none⟩) (Nat.le_refl _) _⟩
      case measure => simp [RowKit.intOf]; omega
    · obtain rfl : k = n := by omega
      have hSl : S.length = N := by rw [HT.out.len, HL.out, hN]
      obtain ⟨u, hu⟩ : ∃ u, S[k]? = some u := ⟨_, List.getElem?_eq_getElem (by omega)⟩
      have g2 := HE.out.cell hu
      have gf := HE.out.frozen k
      have hkN : (k : Int) < (N : Int) := by omega
      obtain ⟨p0, p1⟩ := pow_small hy
      have hT : Hid (ShlSt l (2 ^ y) l.length S t) := by rw [HL.out]; exact HT.out
      obtain ⟨d1, d2, d3⟩ := hT.out.done (by omega)
      rw [HL.out] at d1 d2 d3
      have HD1 := Lib.hid d1
      have HD2 := Lib.hid d2
      have HD3 := Lib.hid d3
      clear hu d1 d2 d3 hT p0 p1 hSl
      go_wp2_with fail
      go_ret
      refine ⟨S.set k t, by subst hN; rfl, HD3.out, HD1.out, HD2.out, HE.out.set k t, HW.out.setCell (p := ⟨w.heap.size, k, none⟩) (Nat.le_refl _) _⟩
/-- How shiftBack ends. -/
def ShbEnd (w : World) (g n c : Nat) (D : List Nat) (L : List Nat) (y : Nat) (e : Ending) (w' : World) : Prop := ∃ E, e = .returned (.slice (some ⟨g, 0, none⟩) n c) ∧ E.length = n ∧ Sml E ∧ dval E = dval D / 2 ^ y ∧ Dig w' g (midL L 0 n E) ∧ w.grownBy w' (some g)
theorem and_low_y {t y : Nat} (hy : y < 20) (ht : t < 1099511627776) : bits .and .i64 (t : Int) (2 ^ y - 1) = ((t % 2 ^ y : Nat) : Int) := by
  show IntKind.i64.wrap (((BitVec.ofInt 64 (t : Int)) &&& (BitVec.ofInt 64 (2 ^ y - 1))).toNat : Int) = _
  obtain ⟨p0, p1⟩ := pow_small hy
  have e : (2 : Int) ^ y - 1 = ((2 ^ y - 1 : Nat) : Int) := by
    have : (2 : Int) ^ y = ((2 ^ y : Nat) : Int) := by rw [Int.natCast_pow]; rfl
    rw [this]
    omega
  have h1 : (BitVec.ofInt 64 (t : Int)).toNat = t := by rw [ofInt_nat]; omega
  have h2 : (BitVec.ofInt 64 ((2 : Int) ^ y - 1)).toNat = 2 ^ y - 1 := by rw [e, ofInt_nat]; omega
  rw [BitVec.toNat_and, h1, h2, Nat.and_two_pow_sub_one_eq_mod, IntKind.wrap_i64]
  have := Nat.mod_lt t p0
  omega
set_option maxHeartbeats 4000000 in
theorem shiftBack_any (g n c : Nat) (L : List Nat) (y : Nat) (w : World) (h : Dig w g L) (hl : n ≤ L.length) (hs : Sml (L.take n)) (hy : y < 20) (hn : n ≤ 1048576) :
    Calls Tryz.prog 230 #[.slice (some ⟨g, 0, none⟩) n c, .int .i64 y] w (ShbEnd w g n c (L.take n) L y) := by
  obtain ⟨D, hD⟩ : ∃ D, L.take n = D := ⟨_, rfl⟩
  have hDl : D.length = n := by rw [← hD, List.length_take]; omega
  have hself := midL_self L 0 n
  rw [List.drop_zero, hD] at hself
  rw [hD] at hs ⊢
  rw [← hself] at h
  have H := Lib.hid h
  have HL := Lib.hid hDl
  have HS := Lib.hid hs
  have HLL := Lib.hid hl
  clear h hs hDl hl hD hself
  go_enter Tryz.func230, Tryz.ntmps230
  go_wp2_with fail
  go_loopw [5, 6] (fun q i wr => ∃ (k : Nat) (E : List Nat) (t : Nat), k ≤ n ∧ i = .int .i64 ((k : Int) - 1) ∧ q = .int .i64 t ∧ Hid (DivSt D (2 ^ y) k E t) ∧ Hid (Dig wr g (midL L 0 n E)) ∧ Hid (w.grownBy wr (some g))) (fun _ i _ => (RowKit.intOf i + 1).toNat)
  case atStart => exact ⟨n, D, 0, Nat.le_refl _, rfl, rfl, HL.out ▸ DivSt.new (Nat.pow_pos (by decide)), H, grown_refl _ _⟩
  case round =>
    clear H
    obtain ⟨k, E, t, hk, rfl, rfl, HT, HE, HG⟩ := hrel
    by_cases h0 : k = 0
    · subst h0
      obtain ⟨hsE, hvE, hrE⟩ := HT.out.done
      have HSE := Lib.hid hsE
      have HVE := Lib.hid hvE
      have HLE := Lib.hid (HT.out.len.trans HL.out)
      clear hsE hvE hrE HT
      go_wp2_with fail
      go_ret
      exact ⟨E, rfl, HLE.out, HSE.out, HVE.out, HE.out, HG.out⟩
    · obtain ⟨d, hd⟩ : ∃ d, D[k - 1]? = some d := ⟨_, List.getElem?_eq_getElem (by rw [HL.out]; omega)⟩
      have hdl := HS.out.at_ hd
      have hEl : E.length = n := HT.out.len.trans HL.out
      have hlow : E[k - 1]? = some d := by
        have := congrArg (fun l : List Nat => l[k - 1]?) HT.out.low
        simp only [List.getElem?_take, if_pos (show k - 1 < k by omega)] at this
        exact this.trans hd
      have g2 := HE.out.cell ((midL_at (n := n) (Nat.zero_le _) (show k - 1 < E.length by omega)).trans hlow)
      rw [Nat.zero_add] at g2
      have gf := HE.out.frozen (k - 1)
      have hi0 : (0 : Int) ≤ (k : Int) - 1 := by omega
      have hi1 : (k : Int) - 1 < (n : Int) := by omega
      have ht : ((k : Int) - 1).toNat = k - 1 := by omega
      obtain ⟨p0, p1⟩ := pow_small hy
      have htl := HT.out.lt
      have hor : bits .or .i64 ((t : Int) * 1048576) (d : Int) = ((t * 1048576 + d : Nat) : Int) := by rw [or_digit (by omega) (by omega) (by omega) (by omega)]; omega
      obtain ⟨X, hX⟩ : ∃ X : Int, ((t * 1048576 + d : Nat) : Int) = X := ⟨_, rfl⟩
      have hX0 : 0 ≤ X := by omega
      have hX1 : X ≤ 1099511627776 := by omega
      have hand := and_low_y (t := t * 1048576 + d) hy (by omega)
      rw [hX] at hor hand
      have HX := Lib.hid hX
      obtain ⟨P, hpw⟩ : ∃ P : Int, (2 : Int) ^ y = P := ⟨_, rfl⟩
      have hPn : P = ((2 ^ y : Nat) : Int) := by rw [← hpw, Int.natCast_pow]; rfl
      have hP0 : 1 ≤ P := by omega
      have hP1 : P ≤ 524288 := by omega
      have hPz : ¬ P = 0 := by omega
      have ht2 : (t : Int) ≤ 524288 := by omega
      rw [hpw] at hand
      obtain ⟨Y, hY⟩ : ∃ Y : Int, (((t * 1048576 + d) % 2 ^ y : Nat) : Int) = Y := ⟨_, rfl⟩
      rw [hY] at hand
      have HY := Lib.hid hY
      have HPn := Lib.hid hPn
      clear hY hPn htl
      have HDk := Lib.hid hd
      have HEl := Lib.hid hEl
      clear hd hlow p0 p1 hX hEl
      go_wp2_with fail
      go_roundw
      case rel =>
        have hq : X / P = (((t * 1048576 + d) / 2 ^ y : Nat) : Int) := by rw [← HX.out, HPn.out]; rfl
        exact ⟨k - 1, _, (t * 1048576 + d) % 2 ^ y, by omega, by first | rfl | (congr 1; omega), by rw [HY.out], DivSt.step (i := k - 1) (by rw [show k - 1 + 1 = k by omega]; exact HT.out) HDk.out hdl, by
          have h := HE.out.set (0 + (k - 1)) ((t * 1048576 + d) / 2 ^ y)
          rw [midL_set (Nat.zero_le _) (by rw [HEl.out]; omega), Nat.zero_add, ← hq] at h
          exact h, only_setCell HG.out (.inl rfl) _⟩
      case measure => simp [RowKit.intOf]; omega
end Go.Proofs.YtikfjmdeeknalaaGreatDoor

/- The walk of big's reduce. Conditions: lengths; the divisor's highest bit is set; the window is less than the divisor times a digit. -/
namespace Go.Proofs.YtikfjmdeeknalaaGreatDoor
set_option maxRecDepth 8000
open Go.RowKit

/-- How reduce ends. -/
def RedEnd (w : World) (g off n : Nat) (L b : List Nat) (e : Ending) (w' : World) : Prop :=
  ∃ E, e = .returned (.int .i64 (dval ((L.drop off).take (n + 1)) / dval b : Nat)) ∧ Dig w' g (midL L off (n + 1) E) ∧ Sml E ∧ E.length = n + 1 ∧ dval E = dval ((L.drop off).take (n + 1)) % dval b ∧ w.grownBy w' (some g)
theorem or40 {a b : Int} (a0 : 0 ≤ a) (a1 : a < 1048576) (b0 : 0 ≤ b) (b1 : b < 1048576) : bits .or .i64 (a * 1099511627776) (b * 1048576) = a * 1099511627776 + b * 1048576 :=
  bits_join .i64 63 (by decide) wraps_i64 40 (a * 1099511627776) (b * 1048576) (by omega) (by omega) (by omega) (by omega) (by omega) (by omega)
theorem or20 {a b c : Int} (a0 : 0 ≤ a) (a1 : a < 1048576) (b0 : 0 ≤ b) (b1 : b < 1048576) (c0 : 0 ≤ c) (c1 : c < 1048576) : bits .or .i64 (a * 1099511627776 + b * 1048576) c = a * 1099511627776 + b * 1048576 + c :=
  bits_join .i64 63 (by decide) wraps_i64 20 (a * 1099511627776 + b * 1048576) c (by omega) (by omega) (by omega) (by omega) (by omega) (by omega)
theorem midL_win {L E : List Nat} {off n : Nat} (ho : off ≤ L.length) (hE : E.length = n) : ((midL L off n E).drop off).take n = E := by
  unfold midL
  rw [List.drop_append_of_le_length (by rw [List.length_take]; omega), List.drop_of_length_le (by rw [List.length_take]; omega), List.nil_append, List.take_append_of_le_length (by omega), List.take_of_length_le (by omega)]
theorem midL_mid {L E E2 : List Nat} {off n : Nat} (ho : off ≤ L.length) (hE : E.length = n) : midL (midL L off n E) off n E2 = midL L off n E2 := by
  have e1 : (midL L off n E).take off = L.take off := by
    unfold midL
    rw [List.take_append_of_le_length (by rw [List.length_take]; omega), List.take_take, Nat.min_self]
  have e2 : (midL L off n E).drop (off + n) = L.drop (off + n) := by
    unfold midL
    rw [← List.append_assoc]
    exact List.drop_left' (by rw [List.length_append, List.length_take]; omega)
  show (midL L off n E).take off ++ (E2 ++ (midL L off n E).drop (off + n)) = _
  rw [e1, e2]
  rfl
set_option maxHeartbeats 4000000 in
theorem reduce_any (g off n c : Nat) (L : List Nat) (A2 : Option Addr) (c2 B2 : Nat) (b : List Nat) (w : World)
    (h : Dig w g L) (ho : off + (n + 1) ≤ L.length) (hs : Sml ((L.drop off).take (n + 1))) (hb : Reads w B2 1 A2 n (dv b)) (hb2 : 0 < n → ∀ ad, A2 = some ad → ad.block ≠ g) (hbs : Sml b) (hn2 : 2 ≤ n) (hn : n ≤ 1048576)
    (ht : ∀ d, b[n - 1]? = some d → 524288 ≤ d) (hlt : dval ((L.drop off).take (n + 1)) < dval b * 1048576) :
    Calls Tryz.prog 229 #[.slice (some ⟨g, off, none⟩) (n + 1) c, .slice A2 n c2] w (RedEnd w g off n L b) := by
  obtain ⟨D, hD⟩ : ∃ D, (L.drop off).take (n + 1) = D := ⟨_, rfl⟩
  have hDl : D.length = n + 1 := by rw [← hD, List.length_take, List.length_drop]; omega
  have hbl : b.length = n := hb.lenD
  have hself := midL_self L off (n + 1)
  unfold RedEnd
  rw [hD] at hs hself hlt ⊢
  obtain ⟨k, hk⟩ : ∃ k, n = k + 2 := ⟨n - 2, by omega⟩
  subst hk
  obtain ⟨d2, e2⟩ : ∃ d, D[k + 2]? = some d := ⟨_, List.getElem?_eq_getElem (by omega)⟩
  obtain ⟨d1, e1⟩ : ∃ d, D[k + 1]? = some d := ⟨_, List.getElem?_eq_getElem (by omega)⟩
  obtain ⟨d0, e0⟩ : ∃ d, D[k]? = some d := ⟨_, List.getElem?_eq_getElem (by omega)⟩
  obtain ⟨ad, b1, rfl, f1, g1⟩ := hb.atD (i := k + 1) (by omega)
  obtain ⟨ad', b0, ee, f0, g0⟩ := hb.atD (i := k) (by omega)
  cases ee
  have g1' : w.cell? ⟨ad.block, ad.off + (k + 1), none⟩ = some (.int .i64 (b1 : Int)) := by
    have e : ad.add (k + 1) = ⟨ad.block, ad.off + (k + 1), none⟩ := by simp [Addr.add]
    rw [← e]; exact g1
  have htop := ht b1 (by simpa using f1)
  have hg := guess hDl hbl hs hbs e2 e1 e0 f1 f0 htop hlt
  have hd2 := hs.at_ e2
  have hd1 := hs.at_ e1
  have hd0 := hs.at_ e0
  have hb1 := hbs.at_ f1
  have hb0 := hbs.at_ f0
  have c2' : w.cell? ⟨g, off + (k + 2), none⟩ = some (.int .i64 (d2 : Int)) := by rw [← hself] at h; exact h.cell ((midL_at (n := k + 3) (by omega) (show k + 2 < D.length by omega)).trans e2)
  have c1' : w.cell? ⟨g, off + (k + 1), none⟩ = some (.int .i64 (d1 : Int)) := by rw [← hself] at h; exact h.cell ((midL_at (n := k + 3) (by omega) (show k + 1 < D.length by omega)).trans e1)
  have c0' : w.cell? ⟨g, off + k, none⟩ = some (.int .i64 (d0 : Int)) := by rw [← hself] at h; exact h.cell ((midL_at (n := k + 3) (by omega) (show k < D.length by omega)).trans e0)
  have H := Lib.hid h
  have HD := Lib.hid hD
  have HDL := Lib.hid hDl
  have HBL := Lib.hid hbl
  have HS := Lib.hid hs
  have HB := Lib.hid hb
  have HB2 := Lib.hid hb2
  have HBS := Lib.hid hbs
  have HLT := Lib.hid hlt
  have HO := Lib.hid ho
  have HG := Lib.hid hg
  clear h hD hDl hbl hs hb hb2 hbs hlt hg hself e2 e1 e0 f1 f0 ht ho
  go_enter Tryz.func229, Tryz.ntmps229
  go_wp2_with fail
  have i2 : (0 : Int) ≤ (k : Int) + 2 := by omega
  have i2b : (k : Int) + 2 < (k : Int) + 2 + 1 := by omega
  have i2t : ((k : Int) + 2).toNat = k + 2 := by omega
  have v1 : IntKind.i64.wrap ((k : Int) + 2 - 1) = (k : Int) + 1 := by rw [IntWalk.i64_in _ (by omega)]; omega
  have v2 : IntKind.i64.wrap ((k : Int) + 2 - 2) = (k : Int) := by rw [IntWalk.i64_in _ (by omega)]; omega
  have v3 : IntKind.i64.wrap (k : Int) = (k : Int) := IntWalk.i64_in _ (by omega)
  have i1 : (0 : Int) ≤ (k : Int) + 1 := by omega
  have i1b : (k : Int) + 1 < (k : Int) + 2 + 1 := by omega
  have i1c : (k : Int) + 1 < (k : Int) + 2 := by omega
  have i1t : ((k : Int) + 1).toNat = k + 1 := by omega
  have i0b : (k : Int) < (k : Int) + 2 + 1 := by omega
  have i0c : (k : Int) < (k : Int) + 2 := by omega
  have s2 : IntKind.i64.wrap ((d2 : Int) * 1099511627776) = (d2 : Int) * 1099511627776 := IntWalk.i64_in _ (by omega)
  have s1 : IntKind.i64.wrap ((d1 : Int) * 1048576) = (d1 : Int) * 1048576 := IntWalk.i64_in _ (by omega)
  have s3 : IntKind.i64.wrap ((b1 : Int) * 1048576) = (b1 : Int) * 1048576 := IntWalk.i64_in _ (by omega)
  have o1 := or40 (a := d2) (b := d1) (by omega) (by omega) (by omega) (by omega)
  have o2 := or20 (a := d2) (b := d1) (c := d0) (by omega) (by omega) (by omega) (by omega) (by omega) (by omega)
  have o3 := or_digit (x := b1) (d := b0) (by omega) (by omega) (by omega) (by omega)
  obtain ⟨T, hT⟩ : ∃ T : Int, (d2 : Int) * 1099511627776 + (d1 : Int) * 1048576 + (d0 : Int) = T := ⟨_, rfl⟩
  obtain ⟨U, hU⟩ : ∃ U : Int, (b1 : Int) * 1048576 + (b0 : Int) = U := ⟨_, rfl⟩
  rw [hT] at o2
  rw [hU] at o3
  have hUz : ¬ U = 0 := by omega
  have hU0 : 0 < U := by omega
  have hT0 : 0 ≤ T := by omega
  have hT1 : T < 1152921504606846976 := by omega
  have hq0 : 0 ≤ T / U := Int.ediv_nonneg hT0 (by omega)
  have hq1 : T / U ≤ 1048576 := by
    have := HG.out.1
    have e : T / U = (((d2 * 1099511627776 + d1 * 1048576 + d0) / (b1 * 1048576 + b0) : Nat) : Int) := by rw [← hT, ← hU]; rfl
    rw [e]
    omega
  have wq : IntKind.i64.wrap (T.tdiv U) = T / U := by rw [Int.tdiv_eq_ediv_of_nonneg hT0]; exact IntWalk.i64_in _ (by omega)
  have HT := Lib.hid hT
  have HU := Lib.hid hU
  clear hT hU
  obtain ⟨q0, hq0n⟩ : ∃ q0 : Nat, (d2 * 1099511627776 + d1 * 1048576 + d0) / (b1 * 1048576 + b0) = q0 := ⟨_, rfl⟩
  have hTU : T / U = (q0 : Int) := by rw [← HT.out, ← HU.out, ← hq0n]; rfl
  have HG2 : Hid (dval D / dval b ≤ q0 ∧ q0 ≤ dval D / dval b + 1) := by rw [← hq0n]; exact HG.out.2
  have hqb : q0 ≤ 1048576 := by omega
  have HTU := Lib.hid hTU
  have hbp : 0 < dval b := by have := HLT.out; omega
  have HW : Hid ((dval D : Int) < 1048576 ^ (k + 2 + 1) ∧ (dval b : Int) < 1048576 ^ (k + 2 + 1)) := by
    have h1 := dval_lt HS.out
    have h2 := dval_lt HBS.out
    rw [HDL.out] at h1
    rw [HBL.out] at h2
    have h3 : 1048576 ^ (k + 2) ≤ 1048576 ^ (k + 2 + 1) := Nat.pow_le_pow_right (by decide) (by omega)
    have h4 := cast_pow (k + 2 + 1)
    refine ⟨by rw [← h4]; omega, by rw [← h4]; omega⟩
  clear hq0n hTU
  go_quiet (fail)
  go_wp2_with fail
  refine (addTo_any g off (k + 2 + 1) c L (some ad) (k + 2) c2 B2 b (-(T / U)) _ (H.out.drewN _) HO.out (by rw [HD.out]; exact HS.out) (HB.out.drewN _) HB2.out HBS.out (by omega) (by omega) (by omega) (by omega)).mono ?_
  rintro e w2 ⟨E, t, rfl, hE, sE, lE, vE, gE⟩
  rw [HD.out, HTU.out] at vE
  have hoL : off ≤ L.length := by have := HO.out; omega
  have hEl : (dval E : Int) < 1048576 ^ (k + 2 + 1) := by
    have h1 := dval_lt sE
    rw [lE] at h1
    rw [← cast_pow]
    omega
  have HEl := Lib.hid hEl
  have HE := Lib.hid hE
  have HSE := Lib.hid sE
  have HLE := Lib.hid lE
  have HVE := Lib.hid vE
  have HGE := Lib.hid gE
  clear hE sE lE vE gE hEl
  by_cases hneg : t < 0
  · go_wp2_with fail
    refine (addTo_any g off (k + 2 + 1) c (midL L off (k + 2 + 1) E) (some ad) (k + 2) c2 B2 b 1 w2 HE.out (by rw [midL_len HO.out HLE.out]; exact HO.out) (by rw [midL_win hoL HLE.out]; exact HSE.out) ((HB.out.drewN _).apart HGE.out HB2.out) HB2.out HBS.out (by omega) (by omega) (by omega) (by omega)).mono ?_
    rintro e w3 ⟨E2, t2, rfl, hE2, sE2, lE2, vE2, gE2⟩
    rw [midL_mid hoL HLE.out] at hE2
    rw [midL_win hoL HLE.out] at vE2
    have hEl2 : (dval E2 : Int) < 1048576 ^ (k + 2 + 1) := by
      have h1 := dval_lt sE2
      rw [lE2] at h1
      rw [← cast_pow]
      omega
    obtain ⟨r1, r2⟩ := red_neg hbp HG2.out.1 HG2.out.2 HVE.out HEl.out HW.out.2 hneg vE2 hEl2
    have hres : T / U - 1 = ((dval D / dval b : Nat) : Int) := by rw [HTU.out, r1]; omega
    have HR := Lib.hid hres
    have hfin : Dig w3 g (midL L off (k + 2 + 1) E2) ∧ Sml E2 ∧ E2.length = k + 2 + 1 ∧ dval E2 = dval D % dval b ∧ w.grownBy w3 (some g) := ⟨hE2, sE2, lE2, r2, grown_step (grown_step (only_drewN (grown_refl w (some g)) _) HGE.out) gE2⟩
    have HF := Lib.hid hfin
    clear hE2 sE2 lE2 vE2 gE2 hEl2 r1 r2 hres hfin
    go_wp2_with fail
    go_ret
    exact ⟨E2, by rw [← HR.out]; rfl, HF.out.1, HF.out.2.1, HF.out.2.2.1, HF.out.2.2.2.1, HF.out.2.2.2.2⟩
  · obtain ⟨r1, r2⟩ := red_pos hbp HG2.out.1 HVE.out HW.out.1 (by omega)
    have hres : T / U = ((dval D / dval b : Nat) : Int) := by rw [HTU.out, r1]
    have HR := Lib.hid hres
    have HR2 := Lib.hid r2
    clear r1 r2 hres
    go_wp2_with fail
    go_ret
    exact ⟨E, by rw [← HR.out]; rfl, HE.out, HSE.out, HLE.out, HR2.out, grown_step (only_drewN (grown_refl w (some g)) _) HGE.out⟩
end Go.Proofs.YtikfjmdeeknalaaGreatDoor
