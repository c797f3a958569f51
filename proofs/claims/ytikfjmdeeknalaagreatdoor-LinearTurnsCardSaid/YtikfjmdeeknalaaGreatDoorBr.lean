/- The walks of big's functions that make digits: split, join, sums, differences. Conditions: lengths. -/
import Derived.Test.YtikfjmdeeknalaaGreatDoorBq
import Derived.Lib.BufferMore
import Derived.Lib.ItoaNum
import Derived.Lib.AppendZerosOnto
import Derived.Laws.CopyOwn
import Derived.Laws.CopyRow
import Derived.Shelf.SlMaps.Clone
namespace Go.Proofs.YtikfjmdeeknalaaGreatDoor
set_option maxRecDepth 8000
open Go.RowKit

set_option maxRecDepth 100000 in
set_option maxHeartbeats 2000000 in
theorem join_any (A : Option Addr) (n c B : Nat) (l : List Nat) (w : World) (h : Reads w B 1 A n (dv l)) (hs : Sml l) (hn : n ≤ 3) :
    Calls Tryz.prog 145 #[.slice A n c] w fun e w' => e = .returned (.int .i64 (dval l : Nat)) ∧ w = w' := by
  have HR := Lib.hid h
  have HL := Lib.hid h.lenD
  have HS := Lib.hid hs
  clear h hs
  go_enter Tryz.func145, Tryz.ntmps145
  go_wp2_with fail
  go_loopw [3, 4] (fun q i wr => ∃ (k : Nat) (Q : Int), k ≤ n ∧ i = .int .i64 ((k : Int) - 1) ∧ q = .int .i64 Q ∧ Hid (Q = (dval (l.drop k) : Nat)) ∧ w = wr) (fun _ i _ => (RowKit.intOf i + 1).toNat)
  case atStart => exact ⟨n, 0, Nat.le_refl _, rfl, rfl, by show _ = _; rw [List.drop_of_length_le (by rw [HL.out]; exact Nat.le_refl _)]; rfl, rfl⟩
  case round =>
    obtain ⟨k, Q, hk, rfl, rfl, HQ, rfl⟩ := hrel
    have hlt := dval_lt (HS.out.drop k)
    have hlt2 : dval (l.drop k) < 1048576 ^ (n - k) := by rw [List.length_drop, HL.out] at hlt; exact hlt
    by_cases h0 : k = 0
    · subst h0
      clear hlt hlt2
      go_wp2_with fail
      go_ret
      exact ⟨by have := HQ.out; rw [this]; rfl, rfl⟩
    · obtain ⟨ad, d, rfl, hd, g1⟩ := HR.out.atD (i := k - 1) (by omega)
      have hi0 : (0 : Int) ≤ (k : Int) - 1 := by omega
      have hi1 : (k : Int) - 1 < (n : Int) := by omega
      have ht : ((k : Int) - 1).toNat = k - 1 := by omega
      have hdl := HS.out.at_ hd
      have hv : dval (l.drop (k - 1)) = d + 1048576 * dval (l.drop k) := by
        have := dval_drop_at hd
        rwa [show k - 1 + 1 = k by omega] at this
      have HV2 := Lib.hid hv
      have hb : dval (l.drop k) < 1099511627776 := by
        have h2 : 1048576 ^ (n - k) ≤ 1048576 ^ 2 := Nat.pow_le_pow_right (by decide) (by omega)
        omega
      have hb1 : (0 : Int) ≤ Q := by rw [HQ.out]; omega
      have hb2 : Q < 1099511627776 := by rw [HQ.out]; omega
      have hd0 : (0 : Int) ≤ (d : Int) := by omega
      have hor := or_digit (x := Q) (d := d) hb1 (by omega) hd0 (by omega)
      clear hd hlt hlt2 hv hb
      go_wp2_with fail
      go_roundw
      case rel => exact ⟨k - 1, _, by omega, by first | rfl | (congr 1; omega), rfl, by show _ = _; rw [HV2.out, HQ.out]; omega, trivial⟩
      case measure => simp [RowKit.intOf]; omega

/-- The digits of a number. -/
def digN (m : Nat) : Nat → List Nat
  | 0 => []
  | n + 1 => digN m n ++ [m / 1048576 ^ n % 1048576]
theorem digN_len (m n : Nat) : (digN m n).length = n := by
  induction n with
  | zero => rfl
  | succ n ih => simp [digN, ih]
theorem digN_sml (m n : Nat) : Sml (digN m n) := by
  induction n with
  | zero => exact Sml.nil
  | succ n ih =>
    show Sml (digN m n ++ [_])
    rw [Sml.app]
    exact ⟨ih, fun x hx => by
      have : x = m / 1048576 ^ n % 1048576 := by simpa using hx
      rw [this]; exact Nat.mod_lt _ (by decide)⟩
theorem digN_val (m n : Nat) : dval (digN m n) = m % 1048576 ^ n := by
  induction n with
  | zero => simp [digN, dval, Nat.mod_one]
  | succ n ih =>
    show dval (digN m n ++ [_]) = _
    rw [dval_snoc, ih, digN_len, Nat.pow_succ, Nat.mod_mul]
/-- So many digits a number has. -/
def digits (m : Nat) : Nat := (Lib.bitLen m + 19) / 20
theorem bitLen_zero : Lib.bitLen 0 = 0 := by decide
theorem digits_bd {m : Nat} (h0 : m ≠ 0) (h : m < 18446744073709551616) : 1 ≤ digits m ∧ digits m ≤ 4 ∧ 1048576 ^ (digits m - 1) ≤ m ∧ m < 1048576 ^ digits m := by
  obtain ⟨b1, b2, b3⟩ := Lib.bitLenAux_bounds 64 m h h0
  have b4 := Lib.bitLen_le m 64 (Nat.le_refl _) h
  have e : Lib.bitLenAux 64 m = Lib.bitLen m := rfl
  rw [e] at b1 b2 b3
  unfold digits
  generalize Lib.bitLen m = L at *
  have e1 : ∀ k, 1048576 ^ k = 2 ^ (20 * k) := fun k => by rw [Nat.pow_mul]
  rw [e1, e1]
  refine ⟨by omega, by omega, Nat.le_trans (Nat.pow_le_pow_right (by decide) (by omega)) b2, Nat.lt_of_lt_of_le b3 (Nat.pow_le_pow_right (by decide) (by omega))⟩
theorem digN_norm {m : Nat} (h : m < 18446744073709551616) : Norm (digN m (digits m)) ∧ dval (digN m (digits m)) = m := by
  by_cases h0 : m = 0
  · subst h0
    have : digits 0 = 0 := by unfold digits; rw [bitLen_zero]
    rw [this]
    exact ⟨Norm.nil, rfl⟩
  · obtain ⟨b1, b2, b3, b4⟩ := digits_bd h0 h
    refine ⟨⟨digN_sml _ _, ?_⟩, by rw [digN_val, Nat.mod_eq_of_lt b4]⟩
    obtain ⟨k, hk⟩ : ∃ k, digits m = k + 1 := ⟨digits m - 1, by omega⟩
    rw [hk] at b3 b4 ⊢
    have hp : 0 < 1048576 ^ k := Nat.pow_pos (by decide)
    have h1 : 1 ≤ m / 1048576 ^ k := (Nat.le_div_iff_mul_le hp).2 (by simpa using b3)
    have h2 : m / 1048576 ^ k < 1048576 := by rw [Nat.div_lt_iff_lt_mul hp]; rw [Nat.pow_succ, Nat.mul_comm] at b4; exact b4
    simp only [NoZ, digN, List.getLast?_append, List.getLast?_singleton, Option.some_or]
    rw [Nat.mod_eq_of_lt h2]
    intro e
    have := Option.some.inj e
    omega

/-- How a function ends that returns digits in memory of its own. -/
def Digits (w : World) (l : List Nat) (e : Ending) (w' : World) : Prop :=
  ∃ A c, e = .returned (.slice A l.length c) ∧ l.length ≤ c ∧ Reads w' w'.heap.size 1 A l.length (dv l) ∧ (0 < l.length → ∃ g, A = some ⟨g, 0, none⟩ ∧ w.heap.size ≤ g ∧ Dig w' g l) ∧ Below w.heap.size w w'
theorem Digits.of {w w' : World} {l : List Nat} {c : Nat} {A : Option Addr} (hc : l.length ≤ c) (h : 0 < l.length → ∃ g, A = some ⟨g, 0, none⟩ ∧ w.heap.size ≤ g ∧ Dig w' g l) (hb : Below w.heap.size w w') : Digits w l (.returned (.slice A l.length c)) w' := by
  refine ⟨A, c, rfl, hc, ?_, h, hb⟩
  rcases Nat.eq_zero_or_pos l.length with h0 | h0
  · obtain rfl : l = [] := List.eq_nil_of_length_eq_zero h0
    exact Reads.none_
  · obtain ⟨g, rfl, -, hd⟩ := h h0
    exact hd.reads rfl hd.lt

theorem set_step {m n k : Nat} (hk : k < n) : (digN m k ++ List.replicate (n - k) 0).set k (m / 1048576 ^ k % 1048576) = digN m (k + 1) ++ List.replicate (n - (k + 1)) 0 := by
  have e : n - k = (n - (k + 1)) + 1 := by omega
  rw [e, List.replicate_succ, List.set_append_right _ _ (by rw [digN_len]; exact Nat.le_refl _), digN_len, Nat.sub_self]
  simp [digN]
set_option maxHeartbeats 2000000 in
theorem split_any (m : Nat) (w : World) (hm : m < 18446744073709551616) :
    Calls Tryz.prog 148 #[.int .u64 m] w (Digits w (digN m (digits m))) := by
  have hbl : Lib.bitLen m ≤ 64 := Lib.bitLen_le m 64 (Nat.le_refl _) hm
  have HB := Lib.hid ((Tryz.bits_Len64 m · (by omega) (by omega)))
  obtain ⟨n, hn⟩ : ∃ n, digits m = n := ⟨_, rfl⟩
  have hq : ((Lib.bitLen m : Int) + 20 - 1) / 20 = (n : Int) := by rw [← hn]; unfold digits; omega
  have hn4 : n ≤ 4 := by rw [← hn]; unfold digits; omega
  have hmk := fun wx => run_make_row' (P := Tryz.prog) 22 3 (.int .i64 0) 8 Tryz.underlying22 (by kernel_rfl) (by simp [Value.cells]) .i64 .i64 n (by omega) (by omega) wx
  have hl : ((m : Int)).toNat = m := by omega
  have hand := and_mask_u
  have HN : Hid (digits m = n) := hn
  have HD := Lib.hid (Dig.made w n)
  clear hn
  go_enter Tryz.func148, Tryz.ntmps148
  go_wp2_with fail
  refine (HB.out _).mono ?_
  rintro e w' ⟨rfl, rfl⟩
  rw [hl]
  clear HB hl
  go_wp2_with fail
  have HMK := Lib.hid hmk
  clear hmk hq
  go_loopw [0, 13] (fun q i wr => ∃ k : Nat, k ≤ n ∧ i = .int .i64 k ∧ q = .int .u64 (m / 1048576 ^ k : Nat) ∧ Hid (Dig wr w'.heap.size (digN m k ++ List.replicate (n - k) 0)) ∧ Hid (Below w'.heap.size w' wr)) (fun _ i _ => n - (RowKit.intOf i).toNat)
  case atStart => exact ⟨0, Nat.zero_le _, rfl, by simp, HD, (Below.refl _ _).alloc (Nat.le_refl _) _⟩
  case round =>
    clear HD
    obtain ⟨k, hk, rfl, rfl, HD, HB⟩ := hrel
    by_cases hlt : k < n
    · have hkc : (k : Int) < (n : Int) := by omega
      have hcl : (digN m k ++ List.replicate (n - k) 0).length = n := by simp [digN_len]; omega
      have hc0 := HD.out.cell (i := k) (d := (digN m k ++ List.replicate (n - k) 0)[k]'(by omega)) (List.getElem?_eq_getElem (by omega))
      generalize (digN m k ++ List.replicate (n - k) 0)[k]'(by omega) = u at hc0
      have hfz := HD.out.frozen k
      have HV : Hid (m / 1048576 ^ (k + 1) = m / 1048576 ^ k / 1048576) := by show _ = _; rw [Nat.pow_succ, Nat.div_div_eq_div_mul]
      have HS := Lib.hid (set_step (m := m) hlt)
      generalize m / 1048576 ^ k = M at *
      have hMb : (0 : Int) ≤ (M : Int) := by omega
      clear hcl
      go_wp2_with fail
      go_roundw
      case rel => exact ⟨k + 1, by omega, by go_num, by rw [HV.out]; rfl, by
        have h := HD.out.setI k (v := (M : Int) % 1048576) (by omega)
        rw [show ((M : Int) % 1048576).toNat = M % 1048576 by omega, HS.out] at h
        exact h, HB.out.setCell (p := ⟨w'.heap.size, k, none⟩) (Nat.le_refl _) _⟩
      case measure => simp [RowKit.intOf]; omega
    · obtain rfl : k = n := by omega
      have HD2 := Lib.hid (show Dig wr w'.heap.size (digN m k) by have := HD.out; simpa using this)
      clear HD
      go_wp2_with fail
      go_ret
      rw [HN.out]
      have hl := digN_len m k
      refine ⟨some ⟨w'.heap.size, 0, none⟩, k, by rw [hl]; rfl, by rw [hl]; exact Nat.le_refl _, HD2.out.reads rfl HD2.out.lt, fun _ => ⟨_, rfl, Nat.le_refl _, HD2.out⟩, HB.out⟩

theorem infoD : (Tryz.prog.info? 3).map (fun i => (i.zero, i.size, i.bytes)) = some (some (.int .i64 0), 1, 8) := by kernel_rfl
theorem grownBelow {w w' : World} {b : Nat} (h : w.grownBy w' (some b)) {W : World} (hB : Below W.heap.size W w) (hb : W.heap.size ≤ b) : Below W.heap.size W w' :=
  hB.trans ⟨h.os, h.tape, h.output, h.size, fun k hk => h.block k (by have := hB.size; omega) (fun e => by cases e; omega)⟩
/-- append of a row to no elements: slices.Clone. -/
theorem run_cloneD {P : Program} {w : World} (t ty e : TypeId) (i : TypeInfo) (z : Value) (size bytes : Nat) (ht : P.underlying t = some (.slice e)) (hi : P.info? e = some i) (hz : i.zero = some z)
    (hsize : i.size = size) (hby : i.bytes = bytes) (hzs : z.cells.size = size) (hsz : 0 < size) (B : Nat) (A : Option Addr) (m c : Nat) (xs : List Value) (hr : Reads w B size A m xs) (h1 : ∀ u ∈ xs, u.oneCell' = true)
    (b : Nat) (hb : w.heap[b]? = some (.cells #[] e (0, 0))) (h63 : m ≤ maxLen) (hbytes : m * bytes ≤ 140737488355328) :
    ∃ v' w', (Builtin.append_ #[t, t] ty #[.slice (some ⟨b, 0, none⟩) 0 0, .slice A m c]).run P w = .ok v' w' ∧ w'.ownsRow 0 e size v' m xs ∧ w.grownBy w' (some b) ∧ (v'.ownBlock = some b ∨ v'.ownBlock = some w.heap.size) := by
  have hown : w.ownsRow 0 e size (.slice (some ⟨b, 0, none⟩) 0 0) 0 [] := ⟨by simp, .inr ⟨b, 0, #[], rfl, Nat.zero_le _, hb, Nat.le_refl _, by unfold maxLen; omega, by simp, by simp⟩⟩
  obtain ⟨v', w', hrun, h2, h3, h4⟩ := run_append_any w 0 t ty e i z size bytes ht hi hz hsize hby hzs hsz _ _ _ hown B A m c xs hr h1 (by omega) (by rw [Nat.zero_add]; exact hbytes) (Nat.zero_le _)
  refine ⟨v', w', hrun, by simpa using h2, h3, h4⟩
theorem Digits.of_own {w w' : World} {v : Value} {l : List Nat} {n : Nat} (hl : l.length = n) (h : w'.ownsRow 0 3 1 v n (dv l)) (hb : Below w.heap.size w w') (hg : ∀ g, v.ownBlock = some g → w.heap.size ≤ g) : Digits w l (.returned v) w' := by
  subst hl
  rcases h.2 with ⟨rfl, h0⟩ | ⟨g, cap, cur, rfl, -, -, hc, -, -⟩
  · obtain rfl : l = [] := List.eq_nil_of_length_eq_zero h0
    exact Digits.of (l := []) (c := 0) (Nat.le_refl _) (fun h => absurd h (by simp)) hb
  · exact Digits.of hc (fun hp => by
      obtain ⟨g', e, -, hd⟩ := Dig.of_row h hp
      cases e
      exact ⟨_, rfl, hg _ rfl, hd⟩) hb
set_option maxHeartbeats 400000 in
theorem cloneD_any (A : Option Addr) (n c B : Nat) (l : List Nat) (w : World) (hr : Reads w B 1 A n (dv l)) (hn : n ≤ 1073741824) :
    Calls Tryz.prog 142 #[.slice A n c] w (Digits w l) := by
  obtain ⟨i0, hi, hz0, hz1, hz2⟩ := info_parts infoD
  have hl := hr.lenD
  cases A with
  | none =>
    have hn0 : n = 0 := by
      rcases Nat.eq_zero_or_pos n with h0 | h0
      · exact h0
      · obtain ⟨ad, h, _⟩ := hr.2 h0
        cases h
    subst hn0
    obtain rfl : l = [] := List.eq_nil_of_length_eq_zero hl
    clear hr hn hl
    have HE := Lib.hid (show Digits w [] (.returned (.slice none 0 0)) w from Digits.of (l := []) (c := 0) (Nat.le_refl _) (fun h => absurd h (by simp)) (Below.refl _ _))
    have q := fun w => Lib.run_eql_slice_nil_nil (P := Tryz.prog) w (t := 22) 0 c Tryz.underlying22
    go_enter Tryz.func142, Tryz.ntmps142
    go_wp2
    go_ret
    exact HE.out
  | some ad =>
    have hr' := hr.here
    obtain ⟨v', w1, hrun, h2, h3, h4⟩ := run_cloneD (P := Tryz.prog) (w := w.alloc (.cells #[] 3)) 22 22 3 i0 _ 1 8 Tryz.underlying22 hi hz0 hz1 hz2 rfl (by decide) w.heap.size (some ad) n c (dv l) (hr'.alloc (Nat.le_refl _) _) (dv_one _) w.heap.size (heap_alloc_new w _) (by unfold maxLen; omega) (by omega)
    have HE := Lib.hid (show Digits w l (.returned v') w1 from Digits.of_own hl h2 (grownBelow h3 ((Below.refl _ _).alloc (Nat.le_refl _) _) (Nat.le_refl _)) (fun g e => by
      rcases h4 with h4 | h4
      · rw [h4] at e; cases e; exact Nat.le_refl _
      · rw [h4] at e; cases e; simp))
    have HR := Lib.hid hrun
    clear hr hr' h2 h3 h4 hrun hl
    have q := fun w => Lib.run_eql_slice_some_nil (P := Tryz.prog) w (t := 22) ad n c Tryz.underlying22
    go_enter Tryz.func142, Tryz.ntmps142
    go_wp2_with (at_builtin; refine Lib.wpList_append_run _ rfl _ _ _ _ rfl _ _ rfl rfl v' w1 HR.out ?_)
    go_ret
    exact HE.out

/-- How a function ends that returns normal digits with a value, in memory of its own. -/
def DigitsV (w : World) (v : Nat) (e : Ending) (w' : World) : Prop := ∃ l, Norm l ∧ dval l = v ∧ Digits w l e w'
theorem DigitsV.trimmed {w w' : World} {g m n c : Nat} {E : List Nat} {v : Nat} (hd : Dig w' g E) (hE : E.length = n) (hm : m ≤ n) (hc : n ≤ c) (hz : NoZ (E.take m)) (hs : Sml E) (hv : dval (E.take m) = dval E) (hev : dval E = v) (hg : w.heap.size ≤ g) (hb : Below w.heap.size w w') :
    DigitsV w v (.returned (.slice (some ⟨g, 0, none⟩) m c)) w' := by
  have hl : (E.take m).length = m := by rw [List.length_take]; omega
  refine ⟨E.take m, ⟨hs.take m, hz⟩, hv.trans hev, ?_⟩
  have := Digits.of (w := w) (w' := w') (l := E.take m) (c := c) (A := some ⟨g, 0, none⟩) (by omega) (fun _ => ⟨g, rfl, hg, hd.take m⟩) hb
  rw [hl] at this
  exact this
set_option maxHeartbeats 2000000 in
theorem subtract_any (A1 A2 : Option Addr) (n1 n2 c1 c2 B1 B2 : Nat) (a b : List Nat) (w : World) (h1 : Reads w B1 1 A1 n1 (dv a)) (h2 : Reads w B2 1 A2 n2 (dv b)) (k1 : Sml a) (k2 : Sml b) (hle : dval b ≤ dval a) (hn2 : n2 ≤ n1) (hp : 0 < n1) (hn : n1 ≤ 1073741824) :
    Calls Tryz.prog 130 #[.slice A1 n1 c1, .slice A2 n2 c2] w (DigitsV w (dval a - dval b)) := by
  have H1 := Lib.hid h1
  have H2 := Lib.hid h2
  have L1 := Lib.hid h1.lenD
  have K1 := Lib.hid k1
  have K2 := Lib.hid k2
  clear h1 h2 k1 k2
  go_enter Tryz.func130, Tryz.ntmps130
  go_wp2_with fail
  refine (cloneD_any _ _ _ _ _ _ H1.out hn).mono ?_
  rintro e w1 ⟨A, c, rfl, hc, -, hD, hb⟩
  rw [L1.out] at hc hD ⊢
  obtain ⟨g, rfl, hg, hdig⟩ := hD hp
  have HD := Lib.hid hdig
  have HB := Lib.hid hb
  have hne : 0 < n2 → ∀ ad, A2 = some ad → ad.block ≠ g := fun h0 ad e => by
    have := H2.out.lt h0 e
    omega
  have HNE := Lib.hid hne
  have H2b := Lib.hid (H2.out.past HB.out)
  have HDL : Hid ((a.drop 0).take n1 = a) := by show _ = _; rw [List.drop_zero, List.take_of_length_le (by rw [L1.out]; exact Nat.le_refl _)]
  clear hD hdig hb hne H1
  go_wp2_with fail
  refine (addTo_any g 0 n1 c a A2 n2 c2 B2 b (-1) w1 HD.out (by rw [L1.out]; omega) (by rw [HDL.out]; exact K1.out) H2b.out HNE.out K2.out hn2 (by decide) (by decide) hn).mono ?_
  rintro e w2 ⟨E, q, rfl, hd2, hs2, hl2, hv2, hg2⟩
  rw [HDL.out] at hv2
  rw [midL_all L1.out hl2] at hd2
  obtain ⟨-, hv3⟩ := room hs2 hl2 hv2 (by omega) (by
    have := dval_lt K1.out
    rw [L1.out] at this
    have h2 : ((1048576 ^ n1 : Nat) : Int) = 1048576 ^ n1 := cast_pow n1
    rw [← h2]
    omega)
  have HV : Hid (dval E = dval a - dval b) := by show _ = _; omega
  have HD2 := Lib.hid hd2
  have HS2 := Lib.hid hs2
  have HL2 := Lib.hid hl2
  have HB2 : Hid (Below w.heap.size w w2) := grownBelow hg2 HB.out hg
  clear hd2 hs2 hl2 hv2 hv3 hg2 HD HB H2b H2 HNE HDL
  go_wp2_with fail
  refine (trim_any _ n1 c (g + 1) E w2 (HD2.out.reads HL2.out (Nat.lt_succ_self _)) hc hn).mono ?_
  rintro e w' ⟨rfl, m, hm, rfl, hz, hv⟩
  have HE := Lib.hid (DigitsV.trimmed HD2.out HL2.out hm hc hz HS2.out hv HV.out hg HB2.out)
  clear hz hv
  go_wp2_with fail
  go_ret
  exact HE.out
end Go.Proofs.YtikfjmdeeknalaaGreatDoor
