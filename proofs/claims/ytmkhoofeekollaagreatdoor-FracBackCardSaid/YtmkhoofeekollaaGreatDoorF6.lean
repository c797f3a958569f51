/- Multiplying digits by an int of at most 40 bits, step by step, plainly. Conditions: none. -/
import Derived.Test.YtmkhoofeekollaaGreatDoorBm
import Derived.Lib.ItoaNum
import Derived.Lib.ItoaMem
import Derived.Test.YtmkhoofeekollaaGreatDoorD5
import Derived.Test.YtmkhoofeekollaaGreatDoorD8
import Derived.Lib.AtoiErrMem
namespace Go.Proofs.YtmkhoofeekollaaGreatDoor
set_option maxRecDepth 8000

/-- Digits times a number below 2^40, with another one added: i digits are done. -/
structure MbSt (D : List Nat) (y p i : Nat) (E : List Nat) (t : Nat) : Prop where
  len : E.length = D.length
  sml : Sml E
  low : E.drop i = D.drop i
  eq : dval (E.take i) + 1048576 ^ i * t = dval (D.take i) * y + p
  hi : t < 1099511627776
theorem MbSt.new {D : List Nat} {y p : Nat} (h : Sml D) (hp : p < 1099511627776) : MbSt D y p 0 D p := ⟨rfl, h, rfl, by simp [dval], hp⟩
theorem MbSt.step {D : List Nat} {y p i : Nat} {E : List Nat} {t d : Nat} (h : MbSt D y p i E t) (hd : D[i]? = some d) (hy : y ≤ 1099511627776) :
    d < 1048576 ∧ t + d * y < 1152921504606846976 ∧ MbSt D y p (i + 1) (E.set i ((t + d * y) % 1048576)) ((t + d * y) / 1048576) := by
  have hi := (List.getElem?_eq_some_iff.1 hd).1
  have hiE : i < E.length := by rw [h.len]; exact hi
  have hdl : d < 1048576 := h.sml.at_ ((at_low h.low).trans hd)
  have hdy : d * y ≤ 1048575 * 1099511627776 := Nat.mul_le_mul (by omega) hy
  have hh := h.hi
  have hb : t + d * y < 1152921504606846976 := by omega
  refine ⟨hdl, hb, by rw [List.length_set]; exact h.len, h.sml.set (by omega) _, by rw [drop_set_lt _ (by omega)]; exact drop_succ_of h.low, ?_, by omega⟩
  rw [dval_set_take hiE, dval_take_succ hd, Nat.pow_succ]
  have k := h.eq
  have e4 : t + d * y = (t + d * y) % 1048576 + 1048576 * ((t + d * y) / 1048576) := (Nat.mod_add_div _ _).symm
  generalize hr : (t + d * y) % 1048576 = r at *
  generalize hQ : (t + d * y) / 1048576 = Q at *
  generalize 1048576 ^ i = P at *
  generalize dval (E.take i) = X at *
  generalize dval (D.take i) = Y at *
  have e5 : (Y + P * d) * y + p = X + P * (t + d * y) := by
    rw [Nat.add_mul, Nat.mul_add]
    have : P * d * y = P * (d * y) := Nat.mul_assoc _ _ _
    omega
  rw [e5, e4, Nat.mul_add]
  have : P * 1048576 * Q = P * (1048576 * Q) := Nat.mul_assoc _ _ _
  omega
/-- Behind all digits: what is left is written behind. -/
structure MtSt (v : Nat) (m : Nat) (F : List Nat) (t : Nat) : Prop where
  sml : Sml F
  eq : dval F + 1048576 ^ F.length * t = v
  top : 0 < t ∨ NoZ F
  len : F.length ≤ m
  hi : t < 1048576 ^ (m - F.length)
theorem MbSt.over {D : List Nat} {y p : Nat} {E : List Nat} {t : Nat} (h : MbSt D y p D.length E t) (hn : Norm D) (hy : 1048576 ≤ y) : MtSt (dval D * y + p) (D.length + 2) E t := by
  have k := h.eq
  rw [List.take_length, List.take_of_length_le (by rw [h.len]; exact Nat.le_refl _)] at k
  refine ⟨h.sml, by rw [h.len]; exact k, ?_, by rw [h.len]; omega, ?_⟩
  · by_cases hD : D = []
    · subst hD
      have : E = [] := List.eq_nil_of_length_eq_zero h.len
      subst this
      exact .inr hn.2
    · refine .inl ?_
      rcases Nat.eq_zero_or_pos t with h0 | h0
      · exfalso
        rw [h0, Nat.mul_zero, Nat.add_zero] at k
        have h1 := dval_lt h.sml
        rw [h.len] at h1
        have h2 := norm_pos hn hD
        obtain ⟨q, hq⟩ : ∃ q, D.length = q + 1 := ⟨D.length - 1, by have := List.length_pos_iff.2 hD; omega⟩
        rw [hq, Nat.add_sub_cancel] at h2
        rw [hq, Nat.pow_succ] at h1
        have h3 : 1048576 ^ q * 1048576 ≤ dval D * y := Nat.mul_le_mul h2 hy
        omega
      · exact h0
  · rw [h.len, show D.length + 2 - D.length = 2 by omega]
    exact h.hi
theorem MtSt.step {v m : Nat} {F : List Nat} {t : Nat} (h : MtSt v m F t) (ht : 0 < t) : MtSt v m (F ++ [t % 1048576]) (t / 1048576) := by
  have hlen : F.length < m := by
    have h1 := h.len
    have h2 := h.hi
    rcases Nat.lt_or_ge F.length m with h3 | h3
    · exact h3
    · rw [show m - F.length = 0 by omega] at h2
      omega
  refine ⟨Sml.app.2 ⟨h.sml, fun x hx => by simp at hx; omega⟩, ?_, ?_, by simp; omega, ?_⟩
  · rw [dval_snoc, List.length_append, List.length_singleton, Nat.pow_succ]
    have k := h.eq
    have e4 : t = t % 1048576 + 1048576 * (t / 1048576) := (Nat.mod_add_div _ _).symm
    generalize hr : t % 1048576 = r at *
    generalize hQ : t / 1048576 = Q at *
    generalize 1048576 ^ F.length = P at *
    rw [e4, Nat.mul_add] at k
    have : P * 1048576 * Q = P * (1048576 * Q) := Nat.mul_assoc _ _ _
    omega
  · rcases Nat.eq_zero_or_pos (t / 1048576) with h0 | h0
    · refine .inr ?_
      unfold NoZ
      simp
      omega
    · exact .inl h0
  · rw [List.length_append, List.length_singleton]
    have h2 := h.hi
    obtain ⟨q, hq⟩ : ∃ q, m - F.length = q + 1 := ⟨m - F.length - 1, by omega⟩
    rw [hq, Nat.pow_succ] at h2
    rw [show m - (F.length + 1) = q by omega]
    omega
theorem MtSt.done {v m : Nat} {F : List Nat} (h : MtSt v m F 0) : Norm F ∧ dval F = v ∧ F.length ≤ m := by
  refine ⟨⟨h.sml, ?_⟩, ?_, h.len⟩
  · rcases h.top with h0 | h0
    · omega
    · exact h0
  · have := h.eq
    rw [Nat.mul_zero, Nat.add_zero] at this
    exact this
end Go.Proofs.YtmkhoofeekollaaGreatDoor

/- Which texts are a big integer's, and which one, plainly. No condition. -/
namespace Go.Proofs.YtmkhoofeekollaaGreatDoor
set_option maxRecDepth 8000
open Go.Lib

/-- The value of a list of digits. -/
def vl (l : List UInt8) : Nat := l.foldl (fun a c => 10 * a + (c.toNat - 48)) 0
def dgB (c : UInt8) : Bool := decide (48 ≤ c.toNat ∧ c.toNat ≤ 57)

theorem vl_snoc (l : List UInt8) (c : UInt8) : vl (l ++ [c]) = 10 * vl l + (c.toNat - 48) := by unfold vl; simp
theorem dg_byte {d : Nat} (h : d < 10) : (UInt8.ofNat (48 + d)).toNat = 48 + d := by
  rw [UInt8.toNat_ofNat']
  omega
theorem byte_of_dg {c : UInt8} (h : dgB c = true) : ∃ d, d < 10 ∧ c = UInt8.ofNat (48 + d) ∧ c.toNat = 48 + d := by
  unfold dgB at h
  have h' := of_decide_eq_true h
  refine ⟨c.toNat - 48, by omega, ?_, by omega⟩
  apply UInt8.toNat_inj.1
  rw [dg_byte (by omega)]
  omega

theorem dc_small {n : Nat} (h : n < 10) : decDigits n = [UInt8.ofNat (48 + n)] := decDigits_one h
theorem dc_big {n : Nat} (h : ¬ n < 10) : decDigits n = decDigits (n / 10) ++ [UInt8.ofNat (48 + n % 10)] := by
  rw [decDigits, dif_neg h]

theorem dc_of_snoc (k : Nat) : ∀ l : List UInt8, l.length = k + 1 → l.all dgB = true → (1 < l.length → l.head? ≠ some 48) → decDigits (vl l) = l ∧ (l.head? ≠ some 48 → 0 < vl l) := by
  induction k with
  | zero =>
    intro l hl ha _
    match l, hl with
    | [c], _ =>
      obtain ⟨d, hd, rfl, hc⟩ := byte_of_dg (c := c) (by simpa using ha)
      have hv : vl [UInt8.ofNat (48 + d)] = d := by
        unfold vl
        simp only [List.foldl_cons, List.foldl_nil]
        rw [dg_byte hd]
        omega
      rw [hv]
      refine ⟨dc_small hd, fun hne => ?_⟩
      rcases Nat.eq_zero_or_pos d with h0 | h0
      · subst h0
        exact absurd rfl hne
      · exact h0
  | succ k ih =>
    intro l hl ha hlead
    obtain ⟨l', c, rfl⟩ : ∃ l' c, l = l' ++ [c] := by
      rcases List.eq_nil_or_concat l with h | ⟨l', c, h⟩
      · subst h; simp at hl
      · exact ⟨l', c, by simpa using h⟩
    have hl' : l'.length = k + 1 := by simp at hl; omega
    rw [List.all_append, Bool.and_eq_true] at ha
    obtain ⟨d, hd, hcd, hc⟩ := byte_of_dg (c := c) (by simpa using ha.2)
    have hhead : l'.head? ≠ some 48 := by
      have := hlead (by simp; omega)
      cases hx : l' with
      | nil => rw [hx] at hl'; simp at hl'
      | cons a t => rw [hx] at this; simpa using this
    obtain ⟨h1, h2⟩ := ih l' hl' ha.1 (fun _ => hhead)
    have h0 := h2 hhead
    rw [vl_snoc, hc]
    have e : 10 * vl l' + (48 + d - 48) = 10 * vl l' + d := by omega
    rw [e, dc_big (by omega), show (10 * vl l' + d) / 10 = vl l' by omega, show (10 * vl l' + d) % 10 = d by omega, h1, hcd]
    exact ⟨rfl, fun _ => by omega⟩
theorem snoc_ind {p : List UInt8 → Prop} (h0 : p []) (h1 : ∀ l c, p l → p (l ++ [c])) : ∀ l, p l := by
  have key : ∀ l : List UInt8, p l.reverse := by
    intro l
    induction l with
    | nil => exact h0
    | cons c l ih => rw [List.reverse_cons]; exact h1 _ c ih
  intro l
  have := key l.reverse
  rwa [List.reverse_reverse] at this
theorem vl_app (a : List UInt8) : ∀ b : List UInt8, vl (a ++ b) = vl a * 10 ^ b.length + vl b := by
  refine snoc_ind (by simp [vl]) (fun b c ih => ?_)
  · rw [← List.append_assoc, vl_snoc, vl_snoc, ih, List.length_append, List.length_singleton, Nat.pow_succ]
    generalize vl a = A
    generalize 10 ^ b.length = P
    generalize vl b = B
    have : A * (P * 10) = A * P * 10 := (Nat.mul_assoc _ _ _).symm
    rw [Nat.mul_add, this]
    omega
theorem vl_lt : ∀ l : List UInt8, l.all dgB = true → vl l < 10 ^ l.length := by
  refine snoc_ind (fun _ => by simp [vl]) (fun b c ih h => ?_)
  · rw [List.all_append, Bool.and_eq_true] at h
    have hc := h.2
    obtain ⟨d, hd, _, e⟩ := byte_of_dg (c := c) (by simpa using hc)
    have := ih h.1
    rw [vl_snoc, List.length_append, List.length_singleton, Nat.pow_succ, e]
    omega
/-- A text of decimal digits, as Read asks. -/
def digOk (l : List UInt8) : Bool := decide (l ≠ []) && l.all dgB && (decide (l.head? ≠ some 48) || decide (l = [48]))
/-- What Read reads. -/
def txtOk : List UInt8 → Option Int
  | [] => none
  | c :: r => if c.toNat = 45 then (if digOk r && decide (r ≠ [48]) then some (-(vl r : Int)) else none) else if digOk (c :: r) then some (vl (c :: r) : Int) else none
theorem digOk_dec {l : List UInt8} (h : digOk l = true) : decDigits (vl l) = l ∧ (l ≠ [48] → 0 < vl l) := by
  unfold digOk at h
  simp only [Bool.and_eq_true, Bool.or_eq_true, decide_eq_true_eq] at h
  obtain ⟨⟨h0, h1⟩, h2⟩ := h
  obtain ⟨k, hk⟩ : ∃ k, l.length = k + 1 := ⟨l.length - 1, by have := List.length_pos_iff.2 h0; omega⟩
  have h3 := dc_of_snoc k l hk h1 (fun hl => by
    rcases h2 with h2 | h2
    · exact h2
    · rw [h2] at hl; simp at hl)
  refine ⟨h3.1, fun hne => h3.2 ?_⟩
  rcases h2 with h2 | h2
  · exact h2
  · exact absurd h2 hne
theorem txtOk_itoa {l : List UInt8} {z : Int} (h : txtOk l = some z) : itoa z = l ∧ z.natAbs < 10 ^ l.length := by
  cases l with
  | nil => cases h
  | cons c r =>
    rw [txtOk] at h
    split at h
    · rename_i hc
      split at h
      · rename_i hd
        injection h with h
        subst h
        rw [Bool.and_eq_true, decide_eq_true_eq] at hd
        obtain ⟨e1, e2⟩ := digOk_dec hd.1
        have hp := e2 hd.2
        have hc2 : c = 45 := UInt8.toNat_inj.1 hc
        have ha : r.all dgB = true := by
          have := hd.1
          unfold digOk at this
          simp only [Bool.and_eq_true] at this
          exact this.1.2
        have hl := vl_lt r ha
        refine ⟨by rw [itoa_neg _ hp, e1, hc2], ?_⟩
        rw [List.length_cons, Nat.pow_succ]
        omega
      · cases h
    · split at h
      · rename_i hd
        injection h with h
        subst h
        have ha : (c :: r).all dgB = true := by
          have := hd
          unfold digOk at this
          simp only [Bool.and_eq_true] at this
          exact this.1.2
        have hl := vl_lt (c :: r) ha
        refine ⟨by rw [itoa_nonneg]; exact (digOk_dec hd).1, by omega⟩
      · cases h
end Go.Proofs.YtmkhoofeekollaaGreatDoor

/- The walk of big's multiplyBy. Conditions: lengths; the factor has at most 40 bits, and more than 20. -/
namespace Go.Proofs.YtmkhoofeekollaaGreatDoor
set_option maxRecDepth 8000
open Go.RowKit

/-- How multiplyBy ends: the digits are the call's own, or a new block's. -/
def MbEnd (w : World) (base : Nat) (D : List Nat) (y p : Nat) (e : Ending) (w' : World) : Prop :=
  ∃ A c E, e = .returned (.slice A E.length c) ∧ w'.ownsRow base 3 1 (.slice A E.length c) E.length (dv E) ∧ Norm E ∧ dval E = dval D * y + p ∧ E.length ≤ D.length + 2 ∧ Below base w w' ∧ base ≤ w'.heap.size
theorem dv_set (l : List Nat) (i v : Nat) : (dv l).set i (.int .i64 (v : Int)) = dv (l.set i v) := by simp [dv, List.map_set]
set_option maxHeartbeats 4000000 in
theorem multiplyBy_any (base n c : Nat) (A : Option Addr) (D : List Nat) (y p : Nat) (w : World) (h : w.ownsRow base 3 1 (.slice A n c) n (dv D)) (hs : Norm D) (hy1 : 1048576 ≤ y) (hy : y ≤ 1099511627776) (hp : p < 1099511627776) (hn : n ≤ 1048576) (hb : base ≤ w.heap.size) :
    Calls Tryz.prog 99 #[.slice A n c, .int .i64 y, .int .i64 p] w (MbEnd w base D y p) := by
  have hl : D.length = n := by have := h.1; rw [dv_len] at this; omega
  subst hl
  have H := Lib.hid h
  have HS := Lib.hid hs
  have HB := Lib.hid hb
  have HY0 := Lib.hid hy1
  have HY1 := Lib.hid hy
  have HP := Lib.hid hp
  obtain ⟨Y, hY⟩ : ∃ Y : Int, (y : Int) = Y := ⟨_, rfl⟩
  obtain ⟨p', hp'⟩ : ∃ X : Int, (p : Int) = X := ⟨_, rfl⟩
  have hy0 : 0 ≤ Y := by omega
  have hy2 : Y ≤ 1099511627776 := by omega
  have hp0 : 0 ≤ p' := by omega
  have hp2 : p' < 1099511627776 := by omega
  rw [hY, hp']
  have HYY := Lib.hid hY
  have HPP := Lib.hid hp'
  have hand := and_mask
  clear h hs hb hy1 hy hp hY hp'
  go_enter Tryz.func99, Tryz.ntmps99
  go_wp2_with fail
  go_loopw [2, 11] (fun q i wr => ∃ (k : Nat) (E : List Nat) (t : Nat), k ≤ D.length ∧ i = .int .i64 k ∧ q = .int .i64 t ∧ Hid (MbSt D y p k E t) ∧ Hid (wr.ownsRow base 3 1 (.slice A D.length c) D.length (dv E)) ∧ Hid (Below base w wr) ∧ Hid (base ≤ wr.heap.size)) (fun _ i _ => D.length - (RowKit.intOf i).toNat)
  case atStart => exact ⟨0, D, p, Nat.zero_le _, rfl, by rw [HPP.out], MbSt.new HS.out.1 HP.out, H, Below.refl _ _, HB⟩
  case round =>
    clear H
    obtain ⟨k, E, t, hk, rfl, rfl, HM, HO, HBW, HZ⟩ := hrel
    by_cases hlt : k < D.length
    · obtain ⟨g, rfl, hg, hdg⟩ := Dig.of_row HO.out (by omega)
      obtain ⟨d, hd⟩ : ∃ d, D[k]? = some d := ⟨_, List.getElem?_eq_getElem hlt⟩
      have g2 := hdg.cell ((at_low HM.out.low).trans hd)
      have gf := hdg.frozen k
      obtain ⟨hdl, hov, hst⟩ := HM.out.step hd HY1.out
      have HST := Lib.hid hst
      have hkc : (k : Int) < (D.length : Int) := by omega
      obtain ⟨T, hT⟩ : ∃ X : Int, (t : Int) = X := ⟨_, rfl⟩
      obtain ⟨X, hX⟩ : ∃ X : Int, (d : Int) = X := ⟨_, rfl⟩
      have hxy0 : 0 ≤ X * Y := Int.mul_nonneg (by omega) (by omega)
      have ht0 : 0 ≤ T := by omega
      have hxy1 : T + X * Y < 1152921504606846976 := by
        have h2 := Int.ofNat_lt.2 hov
        rw [Int.natCast_add, Int.natCast_mul] at h2
        rw [← hT, ← hX, ← HYY.out]
        exact h2
      rw [hX] at g2
      rw [hT]
      have HTT := Lib.hid hT
      have HXX := Lib.hid hX
      have HG := Lib.hid hg
      have hlen : E.length = D.length := HM.out.len
      clear hd hdg hov hst hT hX hg HM
      go_wp2_with fail
      go_roundw
      case rel =>
        have e1 : ((t + d * y : Nat) : Int) = T + X * Y := by rw [← HTT.out, ← HXX.out, ← HYY.out]; simp
        exact ⟨k + 1, _, _, by omega, by go_num, by rw [← e1]; rfl, HST, by
          have h := (HO.out.stored k (.int .i64 (((t + d * y) % 1048576 : Nat) : Int))).1
          rw [dv_set, show (((t + d * y) % 1048576 : Nat) : Int) = (T + X * Y) % 1048576 by rw [← e1]; rfl] at h
          exact h, HBW.out.setCell (p := ⟨g, k, none⟩) HG.out _, by have hz := HZ.out; show _ ≤ _; simpa [World.setCell] using hz⟩
      case measure => simp [RowKit.intOf]; omega
    · obtain rfl : k = D.length := by omega
      have HT := Lib.hid (HM.out.over HS.out HY0.out)
      have hlE : E.length = D.length := HM.out.len
      have HO2 : Hid (wr.ownsRow base 3 1 (.slice A E.length c) E.length (dv E)) := by show World.ownsRow _ _ _ _ _ _ _; rw [hlE]; exact HO.out
      have hti : t < 1152921504606846976 := by have := HM.out.hi; omega
      have hvs : Value.slice A D.length c = .slice A E.length c := by rw [hlE]
      clear HM HO
      go_wp2_with fail
      go_loopw [0, 2] (fun v q wr => ∃ (F : List Nat) (t : Nat) (A' : Option Addr) (c' : Nat), v = .slice A' F.length c' ∧ q = .int .i64 t ∧ t < 1152921504606846976 ∧ Hid (MtSt (dval D * y + p) (D.length + 2) F t) ∧ Hid (wr.ownsRow base 3 1 (.slice A' F.length c') F.length (dv F)) ∧ Hid (Below base w wr) ∧ Hid (base ≤ wr.heap.size)) (fun _ q _ => (RowKit.intOf q).toNat)
      case atStart => exact ⟨E, t, A, c, hvs, rfl, hti, HT, HO2, HBW, HZ⟩
      case round =>
        clear HT HO2 HBW HZ hlE hvs hti
        obtain ⟨F, q, A2, c2, rfl, rfl, hqi, HT, HO, HBW, HZ⟩ := hrel
        by_cases h0 : 0 < q
        · have h0' : (0 : Int) < (q : Int) := by omega
          have hFl := HT.out.len
          have HQ := Lib.hid (HT.out.step h0)
          have HON := Lib.hid (one_digit wr ((q : Int) % 1048576))
          have HOW : Hid ((wr.alloc (.cells #[.int .i64 ((q : Int) % 1048576)] 3)).ownsRow base 3 1 (.slice A2 F.length c2) F.length (dv F)) := own_grown HO.out (World.grownBy_alloc wr _ none) (fun g e e2 => by cases e2)
          have HBA : Hid (Below base w (wr.alloc (.cells #[.int .i64 ((q : Int) % 1048576)] 3))) := HBW.out.alloc HZ.out _
          have HZA : Hid (base ≤ (wr.alloc (.cells #[.int .i64 ((q : Int) % 1048576)] 3)).heap.size) := Nat.le_trans HZ.out ((Below.refl wr.heap.size wr).alloc (Nat.le_refl _) _).size
          have HRD : Hid (Reads (wr.alloc (.cells #[.int .i64 ((q : Int) % 1048576)] 3)) (wr.heap.size + 1) 1 (some ⟨wr.heap.size, 0, none⟩) 1 [.int .i64 ((q : Int) % 1048576)]) := by
            refine ⟨rfl, fun _ => ⟨_, rfl, Nat.lt_succ_self _, fun j u hj => ?_⟩⟩
            have hj0 : j = 0 := by have := (List.getElem?_eq_some_iff.1 hj).1; simpa using this
            subst hj0
            cases hj
            exact HON.out
          obtain ⟨i0, hi, hz0, hz1, hz2⟩ := info_parts infoD
          clear HT HO HBW HZ HON
          go_wp2_with (at_builtin; refine wpList_append_any _ rfl (.tmp 31) (.tmp 34) 22 rfl base 3 i0 _ 1 8 Tryz.underlying22 hi hz0 hz1 hz2 rfl (by decide) (.slice A2 F.length c2) F.length (dv F) rfl HOW.out (wr.heap.size + 1) (some ⟨wr.heap.size, 0, none⟩) 1 1 [.int .i64 ((q : Int) % 1048576)] rfl HRD.out (by intro u hu; simp at hu; subst hu; rfl) (by unfold maxLen; omega) (by omega) HZA.out ?_; intro v' w' p1 p2 p3; obtain ⟨A3, c3, rfl⟩ := own_parts p1; have HP1 := Lib.hid p1; have HP2 := Lib.hid p2; clear p1 p2 p3)
          go_roundw
          case rel =>
            have hdv : dv F ++ [Value.int .i64 ((q : Int) % 1048576)] = dv (F ++ [q % 1048576]) := by simp [dv]
            have hlF : F.length + 1 = (F ++ [q % 1048576]).length := by simp
            have h1 := HP1.out
            rw [hdv, hlF] at h1
            exact ⟨F ++ [q % 1048576], q / 1048576, A3, c3, by rw [← hlF], rfl, by omega, HQ, h1, HBA.out.grown HP2.out HZA.out (fun g e => (HOW.out.lt g e).1), Nat.le_trans HZA.out HP2.out.size⟩
          case measure => simp [RowKit.intOf]; omega
        · have h0' : ¬ (0 : Int) < (q : Int) := by omega
          have hq0 : q = 0 := by omega
          have hd := (hq0 ▸ HT.out : MtSt (dval D * y + p) (D.length + 2) F 0).done
          have HF : Hid (MbEnd w base D y p (.returned (.slice A2 F.length c2)) wr) := ⟨A2, c2, F, rfl, HO.out, hd.1, hd.2.1, hd.2.2, HBW.out, HZ.out⟩
          clear hd HT HO HBW HZ
          go_wp2_with fail
          go_ret
          exact HF.out
end Go.Proofs.YtmkhoofeekollaaGreatDoor

/- The walk of big's Read at texts that a big integer has. Conditions: lengths. -/
namespace Go.Proofs.YtmkhoofeekollaaGreatDoor
set_option maxRecDepth 8000
open Go.RowKit

theorem decFrom_vl : ∀ (l : List UInt8) (acc : Nat), l.all dgB = true → Lib.decFrom acc l = some (l.foldl (fun a c => 10 * a + (c.toNat - 48)) acc) := by
  intro l
  induction l with
  | nil => intro acc _; rfl
  | cons b r ih =>
    intro acc h
    rw [List.all_cons, Bool.and_eq_true] at h
    have hb := of_decide_eq_true h.1
    rw [Lib.decFrom, Lib.digitVal, if_pos hb]
    show Lib.decFrom (acc * 10 + (b.toNat - 48)) r = _
    rw [ih _ h.2, List.foldl_cons, Nat.mul_comm acc 10]
theorem atoi_vl {l : List UInt8} (h : l.all dgB = true) (h0 : l ≠ []) : Lib.atoi l = some (vl l : Int) := by
  cases l with
  | nil => exact absurd rfl h0
  | cons b r =>
    have hb := h
    rw [List.all_cons, Bool.and_eq_true] at hb
    have hb1 := of_decide_eq_true hb.1
    have e1 : (b == 45) = false := by
      rw [beq_eq_false_iff_ne]
      intro e
      rw [e] at hb1
      exact absurd hb1.1 (by decide)
    have e2 : (b == 43) = false := by
      rw [beq_eq_false_iff_ne]
      intro e
      rw [e] at hb1
      exact absurd hb1.1 (by decide)
    rw [Lib.atoi, e1, e2]
    simp only [Bool.false_eq_true, if_false]
    have e3 : Lib.decNat (b :: r) = some (vl (b :: r)) := decFrom_vl (b :: r) 0 h
    rw [e3]
    rfl
theorem atoi_at (s : ByteArray) (n : Nat) (w : World) (hs : s.size ≤ 18) (h : s.data.toList.all dgB = true) (h0 : s.data.toList ≠ []) (hn : vl s.data.toList = n) :
    Calls Tryz.prog 98 #[.string s] w fun e w' => e = .returned (.tuple #[.int .i64 (n : Int), .nilIface]) ∧ Below w.heap.size w w' :=
  (Tryz.strconv_Atoi s n hs (by rw [← hn]; exact atoi_vl h h0) w).mono fun e w' ⟨he, t, hw⟩ => ⟨he, by
    subst hw
    exact Lib.bytesWorld_below w _ t⟩
theorem ext_list (s : ByteArray) (a b : Nat) : (s.extract a b).data.toList = (s.data.toList.drop a).take (b - a) := by
  simp [ByteArray.data_extract, List.extract_eq_take_drop]
theorem size_list (s : ByteArray) : s.data.toList.length = s.size := by simp
theorem own_len {w : World} {base : Nat} {e : TypeId} {size n c : Nat} {A : Option Addr} {xs : List Value} (h : w.ownsRow base e size (.slice A n c) n xs) : n ≤ c := by
  rcases h.2 with ⟨h1, h2⟩ | ⟨g, cap, cur, h1, -, -, h2, -⟩
  · omega
  · cases h1
    exact h2
/-- What is read so far, and what is not yet. -/
structure RdSt (v : Nat) (R : List UInt8) (D : List Nat) : Prop where
  dig : R.all dgB = true
  norm : Norm D
  eq : dval D * 10 ^ R.length + vl R = v
  by12 : D = [] ∨ R.length % 12 = 0
theorem RdSt.step {v : Nat} {R : List UInt8} {D E : List Nat} (h : RdSt v R D) {k : Nat} (hk : k = (R.length - 1) % 12 + 1) (h0 : 0 < R.length) (hE : Norm E) (he : dval E = dval D * 1000000000000 + vl (R.take k)) : RdSt v (R.drop k) E := by
  have hkl : k ≤ R.length := by omega
  have hl : (R.drop k).length = R.length - k := List.length_drop
  refine ⟨?_, hE, ?_, .inr (by rw [hl]; omega)⟩
  · rw [List.all_eq_true]
    intro x hx
    exact (List.all_eq_true.1 h.dig) x (List.mem_of_mem_drop hx)
  · have h1 := vl_app (R.take k) (R.drop k)
    rw [List.take_append_drop] at h1
    have h2 := h.eq
    rw [h1] at h2
    rw [he, Nat.add_mul]
    rcases h.by12 with h3 | h3
    · subst h3
      have : dval [] = 0 := rfl
      rw [this] at h2 ⊢
      omega
    · have hk12 : k = 12 := by omega
      have h4 : R.length = 12 + (R.drop k).length := by omega
      have h5 : dval D * 10 ^ R.length = dval D * 1000000000000 * 10 ^ (R.drop k).length := by
        rw [h4, Nat.pow_add, ← Nat.mul_assoc]
      omega
theorem take_lt {R : List UInt8} {k : Nat} (h : R.all dgB = true) (hk : k ≤ 12) : vl (R.take k) < 1000000000000 := by
  have h1 := vl_lt (R.take k) (by
    rw [List.all_eq_true]
    intro x hx
    exact (List.all_eq_true.1 h) x (List.mem_of_mem_take hx))
  have h2 : 10 ^ (R.take k).length ≤ 10 ^ 12 := Nat.pow_le_pow_right (by decide) (by rw [List.length_take]; omega)
  have h3 : (10 : Nat) ^ 12 = 1000000000000 := by rfl
  omega
set_option maxHeartbeats 4000000 in
theorem read_core (s T : ByteArray) (neg : Bool) (w : World) (hP : ∀ wx, Calls Tryz.prog 96 #[.string s, .string ⟨#[45]⟩] wx fun e w' => e = .returned (.tuple #[.string T, .bool neg]) ∧ w' = wx)
    (hdec : decB T.data.toList = true) (c0 : UInt8) (hc0 : T.data.toList[0]? = some c0) (hne : ¬ (c0.toNat : Int) = 48) (hs : T.size ≤ 402) :
    Calls Tryz.prog 64 #[.string s] w (BigOk w ((if neg then -1 else 1) * (vl T.data.toList : Int))) := by
  obtain ⟨z, hz⟩ : ∃ z : Int, (if neg then -1 else 1) * (vl T.data.toList : Int) = z := ⟨_, rfl⟩
  rw [hz]
  have HZ := Lib.hid hz
  have HP := Lib.hid hP
  have HD : Hid (∀ wx, Calls Tryz.prog 97 #[.string T] wx fun e w' => e = .returned (.bool true) ∧ wx = w') := fun wx => by rw [← hdec]; exact isDecimal_any T wx (by omega)
  have hall : T.data.toList.all dgB = true := by
    unfold decB at hdec
    rw [Bool.and_eq_true] at hdec
    exact hdec.2
  have HA := Lib.hid hall
  have hT0 : 0 < T.size := by
    have := (List.getElem?_eq_some_iff.1 hc0).1
    simpa using this
  have hat := str_at hT0
  have hcc : T[0] = c0 := by
    rw [hat] at hc0
    exact Option.some.inj hc0
  have HS := Lib.hid hs
  have hT1 : (0 : Int) < (T.size : Int) := by omega
  rw [← hcc] at hne
  clear hP hdec hc0 hat hall hcc hz
  have hmk : ∀ wx : World, (Instr.makeSlice 22 (.int .i64 0) (.int .i64 ((T.size : Int) / 6 + 1))).run Tryz.prog wx = .ok (.slice (some ⟨wx.heap.size, 0, none⟩) 0 (T.size / 6 + 1)) (wx.alloc (.cells (madeCells #[Value.int .i64 0] (T.size / 6 + 1)) 3)) := by
    intro wx
    obtain ⟨i0, hi, hz0, hz1, hz2⟩ := info_parts infoD
    have hr := run_make (P := Tryz.prog) wx 22 3 i0 _ Tryz.underlying22 hi hz0 .i64 .i64 0 ((T.size / 6 + 1 : Nat) : Int) (by omega) (by omega) (by rw [hz2]; omega) (by omega)
    rw [Int.toNat_natCast, hz1, Nat.mul_one] at hr
    exact hr
  have hsz1 : (w.alloc (.cells #[.int .i64 0, .slice none 0 0] 24)).heap.size = w.heap.size + 1 := by simp
  have HOW : Hid (((w.alloc (.cells #[.int .i64 0, .slice none 0 0] 24)).alloc (.cells (madeCells #[Value.int .i64 0] (T.size / 6 + 1)) 3)).ownsRow (w.heap.size + 1) 3 1 (.slice (some ⟨w.heap.size + 1, 0, none⟩) 0 (T.size / 6 + 1)) 0 (dv [])) := by
    have h := World.ownsRow_made (base := w.heap.size + 1) (e := 3) (size := 1) (w.alloc (.cells #[.int .i64 0, .slice none 0 0] 24)) (madeCells #[Value.int .i64 0] (T.size / 6 + 1)) (T.size / 6 + 1) (by rw [hsz1]; exact Nat.le_refl _) (by unfold maxLen; omega) (by simp [size_madeCells])
    rw [hsz1] at h
    exact h
  have HBW : Hid (Below (w.heap.size + 1) (w.alloc (.cells #[.int .i64 0, .slice none 0 0] 24)) ((w.alloc (.cells #[.int .i64 0, .slice none 0 0] 24)).alloc (.cells (madeCells #[Value.int .i64 0] (T.size / 6 + 1)) 3))) := (Below.refl _ _).alloc (by rw [hsz1]; exact Nat.le_refl _) _
  have HSZ : Hid (w.heap.size + 1 ≤ ((w.alloc (.cells #[.int .i64 0, .slice none 0 0] 24)).alloc (.cells (madeCells #[Value.int .i64 0] (T.size / 6 + 1)) 3)).heap.size) := by show _ ≤ _; simp
  clear hsz1
  go_enter Tryz.func64, Tryz.ntmps64
  go_wp2_with fail
  refine (HP.out _).mono ?_
  rintro e w' ⟨rfl, rfl⟩
  go_wp2_with fail
  refine (HD.out _).mono ?_
  rintro e w' ⟨rfl, rfl⟩
  go_wp2_with fail
  go_loopw [4, 6] (fun v4 v6 wr => ∃ (Tr : ByteArray) (D : List Nat) (A : Option Addr) (c : Nat), v4 = .string Tr ∧ v6 = .slice A D.length c ∧ Tr.size ≤ T.size ∧ D.length ≤ 2 * (T.size - Tr.size) ∧ Hid (RdSt (vl T.data.toList) Tr.data.toList D) ∧ Hid (wr.ownsRow (w.heap.size + 1) 3 1 (.slice A D.length c) D.length (dv D)) ∧ Hid (Below (w.heap.size + 1) (w.alloc (.cells #[.int .i64 0, .slice none 0 0] 24)) wr) ∧ Hid (w.heap.size + 1 ≤ wr.heap.size)) (fun v4 _ _ => match v4 with | .string s => s.size | _ => 0)
  case atStart => exact ⟨T, [], _, _, rfl, rfl, Nat.le_refl _, Nat.zero_le _, ⟨HA.out, ⟨fun _ h => (by cases h), (by simp [NoZ])⟩, by show 0 * _ + _ = _; omega, .inl rfl⟩, HOW, HBW, HSZ⟩
  case round =>
    clear HP HD HOW HBW HSZ hmk hne hT1
    obtain ⟨Tr, D, A, c, rfl, rfl, hTs, hDl, HR, HO, HB, HSZ⟩ := hrel
    by_cases h0 : 0 < Tr.size
    · have h0' : (0 : Int) < (Tr.size : Int) := by omega
      obtain ⟨k, hk⟩ : ∃ k, k = (Tr.size - 1) % 12 + 1 := ⟨_, rfl⟩
      have hkI : (((Tr.size : Int) - 1) % 12 + 1) = (k : Int) := by omega
      have hk0 : (0 : Int) ≤ (k : Int) := by omega
      have hk1 : (k : Int) ≤ (Tr.size : Int) := by omega
      obtain ⟨gv, hgv⟩ : ∃ gv, vl (Tr.data.toList.take ((Tr.size - 1) % 12 + 1)) = gv := ⟨_, rfl⟩
      have hkl : (Tr.size - 1) % 12 + 1 ≤ Tr.size := by omega
      have hk12 : (Tr.size - 1) % 12 + 1 ≤ 12 := by omega
      have hg12 : gv < 1000000000000 := by rw [← hgv]; exact take_lt HR.out.dig hk12
      have hxl : (Tr.extract 0 ((Tr.size - 1) % 12 + 1)).data.toList = Tr.data.toList.take ((Tr.size - 1) % 12 + 1) := by rw [ext_list, List.drop_zero, Nat.sub_zero]
      have HAT : Hid (∀ wx, Calls Tryz.prog 98 #[.string (Tr.extract 0 ((Tr.size - 1) % 12 + 1))] wx fun e w' => e = .returned (.tuple #[.int .i64 (gv : Int), .nilIface]) ∧ Below wx.heap.size wx w') := fun wx => atoi_at _ gv wx (by rw [ByteArray.size_extract]; omega) (by
        rw [hxl, List.all_eq_true]
        intro x hx
        exact (List.all_eq_true.1 HR.out.dig) x (List.mem_of_mem_take hx)) (by
        rw [hxl]
        intro e
        have := congrArg List.length e
        rw [List.length_take, size_list, List.length_nil] at this
        omega) (by rw [hxl]; exact hgv)
      have hrl : (Tr.extract ((Tr.size - 1) % 12 + 1) Tr.size).data.toList = Tr.data.toList.drop ((Tr.size - 1) % 12 + 1) := by
        rw [ext_list]
        exact List.take_of_length_le (by rw [List.length_drop, size_list]; exact Nat.le_refl _)
      have hrs : (Tr.extract ((Tr.size - 1) % 12 + 1) Tr.size).size = Tr.size - ((Tr.size - 1) % 12 + 1) := by rw [ByteArray.size_extract]; omega
      have HST : Hid (∀ E, Norm E → dval E = dval D * 1000000000000 + gv → RdSt (vl T.data.toList) (Tr.extract ((Tr.size - 1) % 12 + 1) Tr.size).data.toList E) := fun E hE he => by
        rw [hrl]
        exact HR.out.step (by rw [size_list]) (by rw [size_list]; exact h0) hE (by rw [hgv]; exact he)
      have HRS := Lib.hid hrs
      have HNM := Lib.hid HR.out.norm
      clear hxl hgv hrl hrs HR
      go_wp2_with fail
      refine (HAT.out _).mono ?_
      rintro e w2 ⟨rfl, hb⟩
      have HO2 := Lib.hid (own_grown HO.out (only_of_below hb none) (fun q e e2 => by cases e2))
      have HB2 := Lib.hid (HB.out.trans (hb.mono HSZ.out))
      have HS2 := Lib.hid (Nat.le_trans HSZ.out hb.size)
      have HMB : Hid (Calls Tryz.prog 99 #[.slice A D.length c, .int .i64 1000000000000, .int .i64 (gv : Int)] w2 (MbEnd w2 (w.heap.size + 1) D 1000000000000 gv)) := multiplyBy_any (w.heap.size + 1) D.length c A D 1000000000000 gv w2 HO2.out HNM.out (by decide) (by decide) (by omega) (by omega) HS2.out
      clear hb HO HB HSZ HAT HO2
      go_wp2_with fail
      refine HMB.out.mono ?_
      rintro e w3 ⟨A3, c3, E, rfl, ho, hn, hv, hlen, hb3, hs3⟩
      have HO3 := Lib.hid ho
      have HB3 := Lib.hid (HB2.out.trans hb3)
      have HS3 := Lib.hid hs3
      have HR3 := Lib.hid (HST.out E hn hv)
      clear ho hn hv hb3 hs3 HMB HB2 HS2 HST
      go_wp2_with fail
      go_roundw
      case rel => exact ⟨Tr.extract ((Tr.size - 1) % 12 + 1) Tr.size, E, A3, c3, rfl, rfl, by have := HRS.out; omega, by have := HRS.out; omega, HR3, HO3, HB3, HS3⟩
      case measure =>
        have := HRS.out
        show (Tr.extract ((Tr.size - 1) % 12 + 1) Tr.size).size < Tr.size
        omega
    · have h0' : ¬ (0 : Int) < (Tr.size : Int) := by omega
      have hR0 : Tr.data.toList = [] := List.eq_nil_of_length_eq_zero (by rw [size_list]; omega)
      have hv : dval D = vl T.data.toList := by
        have h := HR.out.eq
        rw [hR0] at h
        have e1 : vl [] = 0 := rfl
        rw [e1, List.length_nil, Nat.pow_zero] at h
        omega
      have HV := Lib.hid hv
      have HNM := Lib.hid HR.out.norm
      have hcl := own_len HO.out
      have HRD := Lib.hid (Reads.of_own HO.out)
      have K := Lib.hid ((Blk.new w 24 #[.int .i64 0, .slice none 0 0]).below HB.out (Nat.lt_succ_self _))
      have BW : Hid (Below w.heap.size w wr) := ((Below.refl _ _).alloc (Nat.le_refl _) _).trans (HB.out.mono (Nat.le_succ _))
      have HNE : Hid (0 < D.length → ∀ ad, A = some ad → w.heap.size < ad.block) := fun hp ad e => by
        obtain ⟨g, e2, hg, -⟩ := Dig.of_row HO.out hp
        rw [e2] at e
        cases e
        exact hg
      clear hR0 hv HR HO HB HSZ
      cases neg with
      | true =>
        have HZ2 : Hid (-1 * (dval D : Int) = z) := by show _ = _; rw [HV.out]; exact HZ.out
        have HSG := Lib.hid (fun wx hx => signed_any (-1) A D.length c wx.heap.size D wx hx HNM.out (.inr (.inl rfl)) hcl)
        go_wp2_with fail
        refine (HSG.out _ HRD.out).mono ?_
        rintro e w7 ⟨s', A', c', rfl, hc', hrep, hA, hB⟩
        have HB7 := Lib.hid (BW.out.trans (hB.mono BW.out.size))
        have K7 := Lib.hid (K.out.below hB K.out.lt)
        have hrd : Reads w7 w7.heap.size 1 A' D.length (dv D) := ⟨HRD.out.1, fun hp => by rw [hA hp]; exact ((HRD.out.past hB).here).2 hp⟩
        have hE : BigOk w z _ _ := (BigEnd.stored (v0 := .int .i64 s') (Nat.le_refl _) (fun hp ad e => HNE.out hp ad ((hA hp).symm.trans e)) hrd HB7.out (HZ2.out ▸ hrep) hc' (.slice A' D.length c')).ok
        have HE := Lib.hid hE
        obtain ⟨e0, e1⟩ := two_cells K7.out (.int .i64 s') (.slice A' D.length c')
        have y0 := K7.out.frozen 0
        have y2 := K7.out.c0
        have y1 := K7.out.frozen 1
        have y3 := K7.out.c1
        clear hc' hrep hA hB hrd hE HSG
        go_wp2_with fail
        (try simp only [Exit.inBlock, Exit.then])
        refine bodyPost_ret (v := .tuple #[.agg #[.int .i64 s', .slice A' D.length c'], .int .i64 0]) (by simp [results, Tryz.results64, go_sem, e0, e1]) rfl ?_
        exact HE.out
      | false =>
        have HZ2 : Hid (1 * (dval D : Int) = z) := by show _ = _; rw [HV.out]; exact HZ.out
        have HSG := Lib.hid (fun wx hx => signed_any 1 A D.length c wx.heap.size D wx hx HNM.out (.inl rfl) hcl)
        go_wp2_with fail
        refine (HSG.out _ HRD.out).mono ?_
        rintro e w7 ⟨s', A', c', rfl, hc', hrep, hA, hB⟩
        have HB7 := Lib.hid (BW.out.trans (hB.mono BW.out.size))
        have K7 := Lib.hid (K.out.below hB K.out.lt)
        have hrd : Reads w7 w7.heap.size 1 A' D.length (dv D) := ⟨HRD.out.1, fun hp => by rw [hA hp]; exact ((HRD.out.past hB).here).2 hp⟩
        have hE : BigOk w z _ _ := (BigEnd.stored (v0 := .int .i64 s') (Nat.le_refl _) (fun hp ad e => HNE.out hp ad ((hA hp).symm.trans e)) hrd HB7.out (HZ2.out ▸ hrep) hc' (.slice A' D.length c')).ok
        have HE := Lib.hid hE
        obtain ⟨e0, e1⟩ := two_cells K7.out (.int .i64 s') (.slice A' D.length c')
        have y0 := K7.out.frozen 0
        have y2 := K7.out.c0
        have y1 := K7.out.frozen 1
        have y3 := K7.out.c1
        clear hc' hrep hA hB hrd hE HSG
        go_wp2_with fail
        (try simp only [Exit.inBlock, Exit.then])
        refine bodyPost_ret (v := .tuple #[.agg #[.int .i64 s', .slice A' D.length c'], .int .i64 0]) (by simp [results, Tryz.results64, go_sem, e0, e1]) rfl ?_
        exact HE.out
end Go.Proofs.YtmkhoofeekollaaGreatDoor

/- The walk of big's Read at the text 0, and at texts that no big integer has. Conditions: lengths. -/
namespace Go.Proofs.YtmkhoofeekollaaGreatDoor
set_option maxRecDepth 8000
open Go.RowKit

set_option maxHeartbeats 4000000 in
theorem read_zero (s T : ByteArray) (neg : Bool) (w : World) (hP : ∀ wx, Calls Tryz.prog 96 #[.string s, .string ⟨#[45]⟩] wx fun e w' => e = .returned (.tuple #[.string T, .bool neg]) ∧ w' = wx)
    (hdec : decB T.data.toList = true) (c0 : UInt8) (hc0 : T.data.toList[0]? = some c0) (hne : (c0.toNat : Int) = 48) (hq : (!s.toList == [48]) = false) (hs : T.size ≤ 402) :
    Calls Tryz.prog 64 #[.string s] w (BigOk w ((if neg then -1 else 1) * (vl T.data.toList : Int))) := by
  obtain ⟨z, hz⟩ : ∃ z : Int, (if neg then -1 else 1) * (vl T.data.toList : Int) = z := ⟨_, rfl⟩
  rw [hz]
  have HZ := Lib.hid hz
  have HP := Lib.hid hP
  have HD : Hid (∀ wx, Calls Tryz.prog 97 #[.string T] wx fun e w' => e = .returned (.bool true) ∧ wx = w') := fun wx => by rw [← hdec]; exact isDecimal_any T wx (by omega)
  have hall : T.data.toList.all dgB = true := by
    unfold decB at hdec
    rw [Bool.and_eq_true] at hdec
    exact hdec.2
  have HA := Lib.hid hall
  have hT0 : 0 < T.size := by
    have := (List.getElem?_eq_some_iff.1 hc0).1
    simpa using this
  have hat := str_at hT0
  have hcc : T[0] = c0 := by
    rw [hat] at hc0
    exact Option.some.inj hc0
  have HS := Lib.hid hs
  have hT1 : (0 : Int) < (T.size : Int) := by omega
  rw [← hcc] at hne
  clear hP hdec hc0 hat hall hcc hz
  have hmk : ∀ wx : World, (Instr.makeSlice 22 (.int .i64 0) (.int .i64 ((T.size : Int) / 6 + 1))).run Tryz.prog wx = .ok (.slice (some ⟨wx.heap.size, 0, none⟩) 0 (T.size / 6 + 1)) (wx.alloc (.cells (madeCells #[Value.int .i64 0] (T.size / 6 + 1)) 3)) := by
    intro wx
    obtain ⟨i0, hi, hz0, hz1, hz2⟩ := info_parts infoD
    have hr := run_make (P := Tryz.prog) wx 22 3 i0 _ Tryz.underlying22 hi hz0 .i64 .i64 0 ((T.size / 6 + 1 : Nat) : Int) (by omega) (by omega) (by rw [hz2]; omega) (by omega)
    rw [Int.toNat_natCast, hz1, Nat.mul_one] at hr
    exact hr
  have hsz1 : (w.alloc (.cells #[.int .i64 0, .slice none 0 0] 24)).heap.size = w.heap.size + 1 := by simp
  have HOW : Hid (((w.alloc (.cells #[.int .i64 0, .slice none 0 0] 24)).alloc (.cells (madeCells #[Value.int .i64 0] (T.size / 6 + 1)) 3)).ownsRow (w.heap.size + 1) 3 1 (.slice (some ⟨w.heap.size + 1, 0, none⟩) 0 (T.size / 6 + 1)) 0 (dv [])) := by
    have h := World.ownsRow_made (base := w.heap.size + 1) (e := 3) (size := 1) (w.alloc (.cells #[.int .i64 0, .slice none 0 0] 24)) (madeCells #[Value.int .i64 0] (T.size / 6 + 1)) (T.size / 6 + 1) (by rw [hsz1]; exact Nat.le_refl _) (by unfold maxLen; omega) (by simp [size_madeCells])
    rw [hsz1] at h
    exact h
  have HBW : Hid (Below (w.heap.size + 1) (w.alloc (.cells #[.int .i64 0, .slice none 0 0] 24)) ((w.alloc (.cells #[.int .i64 0, .slice none 0 0] 24)).alloc (.cells (madeCells #[Value.int .i64 0] (T.size / 6 + 1)) 3))) := (Below.refl _ _).alloc (by rw [hsz1]; exact Nat.le_refl _) _
  have HSZ : Hid (w.heap.size + 1 ≤ ((w.alloc (.cells #[.int .i64 0, .slice none 0 0] 24)).alloc (.cells (madeCells #[Value.int .i64 0] (T.size / 6 + 1)) 3)).heap.size) := by show _ ≤ _; simp
  clear hsz1
  go_enter Tryz.func64, Tryz.ntmps64
  go_wp2_with fail
  refine (HP.out _).mono ?_
  rintro e w' ⟨rfl, rfl⟩
  go_wp2_with fail
  refine (HD.out _).mono ?_
  rintro e w' ⟨rfl, rfl⟩
  go_wp2_with fail
  go_loopw [4, 6] (fun v4 v6 wr => ∃ (Tr : ByteArray) (D : List Nat) (A : Option Addr) (c : Nat), v4 = .string Tr ∧ v6 = .slice A D.length c ∧ Tr.size ≤ T.size ∧ D.length ≤ 2 * (T.size - Tr.size) ∧ Hid (RdSt (vl T.data.toList) Tr.data.toList D) ∧ Hid (wr.ownsRow (w.heap.size + 1) 3 1 (.slice A D.length c) D.length (dv D)) ∧ Hid (Below (w.heap.size + 1) (w.alloc (.cells #[.int .i64 0, .slice none 0 0] 24)) wr) ∧ Hid (w.heap.size + 1 ≤ wr.heap.size)) (fun v4 _ _ => match v4 with | .string s => s.size | _ => 0)
  case atStart => exact ⟨T, [], _, _, rfl, rfl, Nat.le_refl _, Nat.zero_le _, ⟨HA.out, ⟨fun _ h => (by cases h), (by simp [NoZ])⟩, by show 0 * _ + _ = _; omega, .inl rfl⟩, HOW, HBW, HSZ⟩
  case round =>
    clear HP HD HOW HBW HSZ hmk hne hT1 hq
    obtain ⟨Tr, D, A, c, rfl, rfl, hTs, hDl, HR, HO, HB, HSZ⟩ := hrel
    by_cases h0 : 0 < Tr.size
    · have h0' : (0 : Int) < (Tr.size : Int) := by omega
      obtain ⟨k, hk⟩ : ∃ k, k = (Tr.size - 1) % 12 + 1 := ⟨_, rfl⟩
      have hkI : (((Tr.size : Int) - 1) % 12 + 1) = (k : Int) := by omega
      have hk0 : (0 : Int) ≤ (k : Int) := by omega
      have hk1 : (k : Int) ≤ (Tr.size : Int) := by omega
      obtain ⟨gv, hgv⟩ : ∃ gv, vl (Tr.data.toList.take ((Tr.size - 1) % 12 + 1)) = gv := ⟨_, rfl⟩
      have hkl : (Tr.size - 1) % 12 + 1 ≤ Tr.size := by omega
      have hk12 : (Tr.size - 1) % 12 + 1 ≤ 12 := by omega
      have hg12 : gv < 1000000000000 := by rw [← hgv]; exact take_lt HR.out.dig hk12
      have hxl : (Tr.extract 0 ((Tr.size - 1) % 12 + 1)).data.toList = Tr.data.toList.take ((Tr.size - 1) % 12 + 1) := by rw [ext_list, List.drop_zero, Nat.sub_zero]
      have HAT : Hid (∀ wx, Calls Tryz.prog 98 #[.string (Tr.extract 0 ((Tr.size - 1) % 12 + 1))] wx fun e w' => e = .returned (.tuple #[.int .i64 (gv : Int), .nilIface]) ∧ Below wx.heap.size wx w') := fun wx => atoi_at _ gv wx (by rw [ByteArray.size_extract]; omega) (by
        rw [hxl, List.all_eq_true]
        intro x hx
        exact (List.all_eq_true.1 HR.out.dig) x (List.mem_of_mem_take hx)) (by
        rw [hxl]
        intro e
        have := congrArg List.length e
        rw [List.length_take, size_list, List.length_nil] at this
        omega) (by rw [hxl]; exact hgv)
      have hrl : (Tr.extract ((Tr.size - 1) % 12 + 1) Tr.size).data.toList = Tr.data.toList.drop ((Tr.size - 1) % 12 + 1) := by
        rw [ext_list]
        exact List.take_of_length_le (by rw [List.length_drop, size_list]; exact Nat.le_refl _)
      have hrs : (Tr.extract ((Tr.size - 1) % 12 + 1) Tr.size).size = Tr.size - ((Tr.size - 1) % 12 + 1) := by rw [ByteArray.size_extract]; omega
      have HST : Hid (∀ E, Norm E → dval E = dval D * 1000000000000 + gv → RdSt (vl T.data.toList) (Tr.extract ((Tr.size - 1) % 12 + 1) Tr.size).data.toList E) := fun E hE he => by
        rw [hrl]
        exact HR.out.step (by rw [size_list]) (by rw [size_list]; exact h0) hE (by rw [hgv]; exact he)
      have HRS := Lib.hid hrs
      have HNM := Lib.hid HR.out.norm
      clear hxl hgv hrl hrs HR
      go_wp2_with fail
      refine (HAT.out _).mono ?_
      rintro e w2 ⟨rfl, hb⟩
      have HO2 := Lib.hid (own_grown HO.out (only_of_below hb none) (fun q e e2 => by cases e2))
      have HB2 := Lib.hid (HB.out.trans (hb.mono HSZ.out))
      have HS2 := Lib.hid (Nat.le_trans HSZ.out hb.size)
      have HMB : Hid (Calls Tryz.prog 99 #[.slice A D.length c, .int .i64 1000000000000, .int .i64 (gv : Int)] w2 (MbEnd w2 (w.heap.size + 1) D 1000000000000 gv)) := multiplyBy_any (w.heap.size + 1) D.length c A D 1000000000000 gv w2 HO2.out HNM.out (by decide) (by decide) (by omega) (by omega) HS2.out
      clear hb HO HB HSZ HAT HO2
      go_wp2_with fail
      refine HMB.out.mono ?_
      rintro e w3 ⟨A3, c3, E, rfl, ho, hn, hv, hlen, hb3, hs3⟩
      have HO3 := Lib.hid ho
      have HB3 := Lib.hid (HB2.out.trans hb3)
      have HS3 := Lib.hid hs3
      have HR3 := Lib.hid (HST.out E hn hv)
      clear ho hn hv hb3 hs3 HMB HB2 HS2 HST
      go_wp2_with fail
      go_roundw
      case rel => exact ⟨Tr.extract ((Tr.size - 1) % 12 + 1) Tr.size, E, A3, c3, rfl, rfl, by have := HRS.out; omega, by have := HRS.out; omega, HR3, HO3, HB3, HS3⟩
      case measure =>
        have := HRS.out
        show (Tr.extract ((Tr.size - 1) % 12 + 1) Tr.size).size < Tr.size
        omega
    · have h0' : ¬ (0 : Int) < (Tr.size : Int) := by omega
      have hR0 : Tr.data.toList = [] := List.eq_nil_of_length_eq_zero (by rw [size_list]; omega)
      have hv : dval D = vl T.data.toList := by
        have h := HR.out.eq
        rw [hR0] at h
        have e1 : vl [] = 0 := rfl
        rw [e1, List.length_nil, Nat.pow_zero] at h
        omega
      have HV := Lib.hid hv
      have HNM := Lib.hid HR.out.norm
      have hcl := own_len HO.out
      have HRD := Lib.hid (Reads.of_own HO.out)
      have K := Lib.hid ((Blk.new w 24 #[.int .i64 0, .slice none 0 0]).below HB.out (Nat.lt_succ_self _))
      have BW : Hid (Below w.heap.size w wr) := ((Below.refl _ _).alloc (Nat.le_refl _) _).trans (HB.out.mono (Nat.le_succ _))
      have HNE : Hid (0 < D.length → ∀ ad, A = some ad → w.heap.size < ad.block) := fun hp ad e => by
        obtain ⟨g, e2, hg, -⟩ := Dig.of_row HO.out hp
        rw [e2] at e
        cases e
        exact hg
      clear hR0 hv HR HO HB HSZ
      cases neg with
      | true =>
        have HZ2 : Hid (-1 * (dval D : Int) = z) := by show _ = _; rw [HV.out]; exact HZ.out
        have HSG := Lib.hid (fun wx hx => signed_any (-1) A D.length c wx.heap.size D wx hx HNM.out (.inr (.inl rfl)) hcl)
        go_wp2_with fail
        refine (HSG.out _ HRD.out).mono ?_
        rintro e w7 ⟨s', A', c', rfl, hc', hrep, hA, hB⟩
        have HB7 := Lib.hid (BW.out.trans (hB.mono BW.out.size))
        have K7 := Lib.hid (K.out.below hB K.out.lt)
        have hrd : Reads w7 w7.heap.size 1 A' D.length (dv D) := ⟨HRD.out.1, fun hp => by rw [hA hp]; exact ((HRD.out.past hB).here).2 hp⟩
        have hE : BigOk w z _ _ := (BigEnd.stored (v0 := .int .i64 s') (Nat.le_refl _) (fun hp ad e => HNE.out hp ad ((hA hp).symm.trans e)) hrd HB7.out (HZ2.out ▸ hrep) hc' (.slice A' D.length c')).ok
        have HE := Lib.hid hE
        obtain ⟨e0, e1⟩ := two_cells K7.out (.int .i64 s') (.slice A' D.length c')
        have y0 := K7.out.frozen 0
        have y2 := K7.out.c0
        have y1 := K7.out.frozen 1
        have y3 := K7.out.c1
        clear hc' hrep hA hB hrd hE HSG
        go_wp2_with fail
        (try simp only [Exit.inBlock, Exit.then])
        refine bodyPost_ret (v := .tuple #[.agg #[.int .i64 s', .slice A' D.length c'], .int .i64 0]) (by simp [results, Tryz.results64, go_sem, e0, e1]) rfl ?_
        exact HE.out
      | false =>
        have HZ2 : Hid (1 * (dval D : Int) = z) := by show _ = _; rw [HV.out]; exact HZ.out
        have HSG := Lib.hid (fun wx hx => signed_any 1 A D.length c wx.heap.size D wx hx HNM.out (.inl rfl) hcl)
        go_wp2_with fail
        refine (HSG.out _ HRD.out).mono ?_
        rintro e w7 ⟨s', A', c', rfl, hc', hrep, hA, hB⟩
        have HB7 := Lib.hid (BW.out.trans (hB.mono BW.out.size))
        have K7 := Lib.hid (K.out.below hB K.out.lt)
        have hrd : Reads w7 w7.heap.size 1 A' D.length (dv D) := ⟨HRD.out.1, fun hp => by rw [hA hp]; exact ((HRD.out.past hB).here).2 hp⟩
        have hE : BigOk w z _ _ := (BigEnd.stored (v0 := .int .i64 s') (Nat.le_refl _) (fun hp ad e => HNE.out hp ad ((hA hp).symm.trans e)) hrd HB7.out (HZ2.out ▸ hrep) hc' (.slice A' D.length c')).ok
        have HE := Lib.hid hE
        obtain ⟨e0, e1⟩ := two_cells K7.out (.int .i64 s') (.slice A' D.length c')
        have y0 := K7.out.frozen 0
        have y2 := K7.out.c0
        have y1 := K7.out.frozen 1
        have y3 := K7.out.c1
        clear hc' hrep hA hB hrd hE HSG
        go_wp2_with fail
        (try simp only [Exit.inBlock, Exit.then])
        refine bodyPost_ret (v := .tuple #[.agg #[.int .i64 s', .slice A' D.length c'], .int .i64 0]) (by simp [results, Tryz.results64, go_sem, e0, e1]) rfl ?_
        exact HE.out
set_option maxHeartbeats 2000000 in
theorem read_nodec (s T : ByteArray) (neg : Bool) (w : World) (hP : ∀ wx, Calls Tryz.prog 96 #[.string s, .string ⟨#[45]⟩] wx fun e w' => e = .returned (.tuple #[.string T, .bool neg]) ∧ w' = wx)
    (hdec : decB T.data.toList = false) (hs : T.size ≤ 402) : Calls Tryz.prog 64 #[.string s] w (BadEnd w) := by
  have HP := Lib.hid hP
  have HD : Hid (∀ wx, Calls Tryz.prog 97 #[.string T] wx fun e w' => e = .returned (.bool false) ∧ wx = w') := fun wx => by rw [← hdec]; exact isDecimal_any T wx (by omega)
  have HB : Hid (Below w.heap.size w (w.alloc (.cells #[.int .i64 0, .slice none 0 0] 24))) := (Below.refl _ _).alloc (Nat.le_refl _) _
  clear hP hdec
  go_enter Tryz.func64, Tryz.ntmps64
  go_wp2_with fail
  refine (HP.out _).mono ?_
  rintro e w' ⟨rfl, rfl⟩
  go_wp2_with fail
  refine (HD.out _).mono ?_
  rintro e w' ⟨rfl, rfl⟩
  go_wp2_with fail
  exact bodyPost_ret (v := .tuple #[.agg #[.int .i64 0, .slice none 0 0], .int .i64 2]) (by simp [results, Tryz.results64, go_sem]) rfl ⟨rfl, HB.out⟩
set_option maxHeartbeats 2000000 in
theorem read_lead (s T : ByteArray) (neg : Bool) (w : World) (hP : ∀ wx, Calls Tryz.prog 96 #[.string s, .string ⟨#[45]⟩] wx fun e w' => e = .returned (.tuple #[.string T, .bool neg]) ∧ w' = wx)
    (hdec : decB T.data.toList = true) (c0 : UInt8) (hc0 : T.data.toList[0]? = some c0) (hne : (c0.toNat : Int) = 48) (hq : (!s.toList == [48]) = true) (hs : T.size ≤ 402) : Calls Tryz.prog 64 #[.string s] w (BadEnd w) := by
  have HP := Lib.hid hP
  have HD : Hid (∀ wx, Calls Tryz.prog 97 #[.string T] wx fun e w' => e = .returned (.bool true) ∧ wx = w') := fun wx => by rw [← hdec]; exact isDecimal_any T wx (by omega)
  have HB : Hid (Below w.heap.size w (w.alloc (.cells #[.int .i64 0, .slice none 0 0] 24))) := (Below.refl _ _).alloc (Nat.le_refl _) _
  have hT0 : 0 < T.size := by
    have := (List.getElem?_eq_some_iff.1 hc0).1
    simpa using this
  have hat := str_at hT0
  have hcc : T[0] = c0 := by
    rw [hat] at hc0
    exact Option.some.inj hc0
  have hT1 : (0 : Int) < (T.size : Int) := by omega
  rw [← hcc] at hne
  clear hP hdec hc0 hat hcc
  go_enter Tryz.func64, Tryz.ntmps64
  go_wp2_with fail
  refine (HP.out _).mono ?_
  rintro e w' ⟨rfl, rfl⟩
  go_wp2_with fail
  refine (HD.out _).mono ?_
  rintro e w' ⟨rfl, rfl⟩
  go_wp2_with fail
  exact bodyPost_ret (v := .tuple #[.agg #[.int .i64 0, .slice none 0 0], .int .i64 2]) (by simp [results, Tryz.results64, go_sem]) rfl ⟨rfl, HB.out⟩
end Go.Proofs.YtmkhoofeekollaaGreatDoor

/- The walk of big's Read at all texts. Conditions: lengths. -/
namespace Go.Proofs.YtmkhoofeekollaaGreatDoor
set_option maxRecDepth 8000
open Go.RowKit

/-- How Read ends. -/
def RdEnd (w : World) (o : Option Int) (e : Ending) (w' : World) : Prop := match o with
  | some z => BigOk w z e w'
  | none => BadEnd w e w'
theorem ok_dec (l : List UInt8) : digOk l = (decB l && (decide (l.head? ≠ some 48) || decide (l = [48]))) := rfl
theorem byte48 {c : UInt8} (h : (c.toNat : Int) = 48) : c = 48 := UInt8.toNat_inj.1 (by show c.toNat = 48; omega)
theorem not48 {c : UInt8} (h : ¬ (c.toNat : Int) = 48) : c ≠ 48 := fun e => h (by rw [e]; rfl)
theorem read_any (s : ByteArray) (w : World) (hs : s.size ≤ 402) :
    Calls Tryz.prog 64 #[.string s] w (RdEnd w (txtOk s.data.toList)) := by
  obtain ⟨l, hl⟩ : ∃ l, s.data.toList = l := ⟨_, rfl⟩
  have hsl : s.toList = l := (toList_data s).trans hl
  have hlen : l.length ≤ 402 := by rw [← hl, size_list]; exact hs
  have hP := fun wx => Tryz.strings_CutPrefix s ⟨#[45]⟩ wx
  rw [hl] at hP ⊢
  cases l with
  | nil => exact read_nodec s ⟨#[]⟩ false w (fun wx => hP wx) rfl (by decide)
  | cons c r =>
    by_cases hc : c.toNat = 45
    · have hc2 : c = 45 := UInt8.toNat_inj.1 hc
      subst hc2
      have h1 : Lib.trimPrefix (45 :: r) [45] = r := by simp [Lib.trimPrefix, Lib.hasPrefix]
      have h2 : Lib.hasPrefix (45 :: r) [45] = true := by simp [Lib.hasPrefix]
      have hP2 : ∀ wx, Calls Tryz.prog 96 #[.string s, .string ⟨#[45]⟩] wx fun e w' => e = .returned (.tuple #[.string ⟨r.toArray⟩, .bool true]) ∧ w' = wx := fun wx => by
        have h := hP wx
        rw [show (ByteArray.mk #[45]).data.toList = [45] from rfl, h1, h2] at h
        exact h
      have hT : (ByteArray.mk r.toArray).data.toList = r := by simp
      have hTs : (ByteArray.mk r.toArray).size ≤ 402 := by rw [← size_list, hT]; simp at hlen; omega
      have ht : txtOk (45 :: r) = if digOk r && decide (r ≠ [48]) then some (-(vl r : Int)) else none := by rw [txtOk, if_pos (by rfl)]
      rw [ht]
      cases hd : decB r with
      | false =>
        rw [ok_dec, hd]
        exact read_nodec s ⟨r.toArray⟩ true w hP2 (by rw [hT]; exact hd) hTs
      | true =>
        cases r with
        | nil => cases hd
        | cons c0 r' =>
          by_cases h48 : (c0.toNat : Int) = 48
          · have e := byte48 h48
            have e2 : (digOk (c0 :: r') && decide (c0 :: r' ≠ [48])) = false := by
              rw [ok_dec, hd, e]
              by_cases hr : r' = []
              · subst hr; rfl
              · simp [hr]
            rw [e2]
            exact read_lead s ⟨(c0 :: r').toArray⟩ true w hP2 (by rw [hT]; exact hd) c0 (by rw [hT]; rfl) h48 (by rw [hsl]; simp) hTs
          · have e := not48 h48
            have e2 : (digOk (c0 :: r') && decide (c0 :: r' ≠ [48])) = true := by
              rw [ok_dec, hd]
              simp [e]
            rw [e2]
            have h := read_core s ⟨(c0 :: r').toArray⟩ true w hP2 (by rw [hT]; exact hd) c0 (by rw [hT]; rfl) h48 hTs
            rw [hT, if_pos rfl, Int.neg_mul, Int.one_mul] at h
            exact h
    · have hne : (c == 45) = false := by
        rw [beq_eq_false_iff_ne]
        intro e
        rw [e] at hc
        exact hc rfl
      have h2 : Lib.hasPrefix (c :: r) [45] = false := by
        simp [Lib.hasPrefix, List.isPrefixOf]
        intro e
        rw [← e] at hc
        exact hc rfl
      have h1 : Lib.trimPrefix (c :: r) [45] = c :: r := by rw [Lib.trimPrefix, h2]; rfl
      have hP2 : ∀ wx, Calls Tryz.prog 96 #[.string s, .string ⟨#[45]⟩] wx fun e w' => e = .returned (.tuple #[.string ⟨(c :: r).toArray⟩, .bool false]) ∧ w' = wx := fun wx => by
        have h := hP wx
        rw [show (ByteArray.mk #[45]).data.toList = [45] from rfl, h1, h2] at h
        exact h
      have hT : (ByteArray.mk (c :: r).toArray).data.toList = c :: r := by simp
      have hTs : (ByteArray.mk (c :: r).toArray).size ≤ 402 := by rw [← size_list, hT]; exact hlen
      have ht : txtOk (c :: r) = if digOk (c :: r) then some (vl (c :: r) : Int) else none := by rw [txtOk, if_neg hc]
      rw [ht]
      cases hd : decB (c :: r) with
      | false =>
        rw [ok_dec, hd]
        exact read_nodec s ⟨(c :: r).toArray⟩ false w hP2 (by rw [hT]; exact hd) hTs
      | true =>
        by_cases h48 : (c.toNat : Int) = 48
        · have e := byte48 h48
          by_cases hr : r = []
          · have e2 : digOk (c :: r) = true := by rw [ok_dec, hd, e, hr]; rfl
            rw [e2]
            have h := read_zero s ⟨(c :: r).toArray⟩ false w hP2 (by rw [hT]; exact hd) c (by rw [hT]; rfl) h48 (by rw [hsl, e, hr]; rfl) hTs
            rw [hT, if_neg (by decide), Int.one_mul] at h
            exact h
          · have e2 : digOk (c :: r) = false := by
              rw [ok_dec, hd, e]
              simp [hr]
            rw [e2]
            exact read_lead s ⟨(c :: r).toArray⟩ false w hP2 (by rw [hT]; exact hd) c (by rw [hT]; rfl) h48 (by rw [hsl]; simp [hr]) hTs
        · have e := not48 h48
          have e2 : digOk (c :: r) = true := by
            rw [ok_dec, hd]
            simp [e]
          rw [e2]
          have h := read_core s ⟨(c :: r).toArray⟩ false w hP2 (by rw [hT]; exact hd) c (by rw [hT]; rfl) h48 hTs
          rw [hT, if_neg (by decide), Int.one_mul] at h
          exact h
set_option exponentiation.threshold 500 in
theorem pow_sz : (10 : Nat) ^ 402 < 1048576 ^ 67 := by decide
set_option exponentiation.threshold 500 in
/-- Read where the text is a big integer's, in the law's words. -/
theorem read_F (s : ByteArray) (z : Int) (w : World) (hs : s.size ≤ 402) (h : txtOk s.data.toList = some z) :
    Calls Tryz.prog 64 #[.string s] w (OkF w 67 z) := by
  have h1 := read_any s w hs
  rw [h] at h1
  refine h1.mono fun e w' he => BigOk.f he ?_
  have h2 := (txtOk_itoa h).2
  have h3 : (10 : Nat) ^ s.data.toList.length ≤ 10 ^ 402 := Nat.pow_le_pow_right (by decide) (by rw [size_list]; exact hs)
  exact Nat.lt_of_lt_of_le h2 (Nat.le_trans h3 (Nat.le_of_lt pow_sz))
end Go.Proofs.YtmkhoofeekollaaGreatDoor
