/- The law's function small: it returns true. Conditions: the tables of math/bits and strconv. -/
import Derived.Test.YtoocdokhljpokaaDoorD6
namespace Go.Proofs.YtoocdokhljpokaaDoor
set_option maxRecDepth 8000
open Go.RowKit

/-- A box of a big integer. -/
structure BoxR where
  b : Nat
  k : Nat
  x : Int
  s : Int
  A : Option Addr
  n : Nat
  c : Nat
/-- What a law's walk has made so far. -/
structure StB (w0 w : World) (L : List BoxR) : Prop where
  bl : Below w0.heap.size w0 w
  bx : ∀ r ∈ L, Blk w r.b 24 #[.int .i64 r.s, .slice r.A r.n r.c] ∧ Bg w r.k r.x r.s r.A r.n
section
variable {w0 w w' : World} {L : List BoxR}
theorem StB.new (w : World) : StB w w [] := ⟨Below.refl _ _, fun _ h => by cases h⟩
theorem StB.call (h : StB w0 w L) (hb : Below w.heap.size w w') : StB w0 w' L := ⟨h.bl.trans (hb.mono h.bl.size), fun r hr => ⟨(h.bx r hr).1.below hb (h.bx r hr).1.lt, (h.bx r hr).2.past hb⟩⟩
theorem StB.box (h : StB w0 w L) {k : Nat} {x s : Int} {A : Option Addr} {n : Nat} (c : Nat) (hg : Bg w k x s A n) : StB w0 (w.alloc (.cells #[.int .i64 s, .slice A n c] 24)) (⟨w.heap.size, k, x, s, A, n, c⟩ :: L) := by
  have hb : Below w.heap.size w (w.alloc (.cells #[.int .i64 s, .slice A n c] 24)) := (Below.refl _ _).alloc (Nat.le_refl _) _
  have h2 := h.call hb
  refine ⟨h2.bl, fun r hr => ?_⟩
  rcases List.mem_cons.1 hr with rfl | hr
  · exact ⟨Blk.new w _ _, hg.past hb⟩
  · exact h2.bx r hr
end
theorem StB.box2 {w0 w : World} {L : List BoxR} (h : StB w0 w L) {k k' : Nat} {x s x' s' : Int} {A A' : Option Addr} {n n' : Nat} (c c' : Nat) (hg : Bg w k x s A n) (hg' : Bg w k' x' s' A' n') :
    StB w0 ((w.alloc (.cells #[.int .i64 s, .slice A n c] 24)).alloc (.cells #[.int .i64 s', .slice A' n' c'] 24)) (⟨w.heap.size + 1, k', x', s', A', n', c'⟩ :: ⟨w.heap.size, k, x, s, A, n, c⟩ :: L) := by
  have hb : Below w.heap.size w (w.alloc (.cells #[.int .i64 s, .slice A n c] 24)) := (Below.refl _ _).alloc (Nat.le_refl _) _
  have := (h.box c hg).box c' (hg'.past hb)
  simpa using this
/-- Digits that are written out. -/
theorem ints_B (W : World) (l : List Nat) (hn : Norm l) (hl : l ≠ []) {x : Int} {b n : Nat} {cs : Array Value} (hx : (dval l : Int) = x) (hb : W.heap.size = b) (hc : (dv l).toArray = cs) (hnl : l.length = n) : Bg (W.alloc (.cells cs 3)) n x 1 (some ⟨b, 0, none⟩) n := by
  have r := Rep.of hn (.inl rfl) hl
  rw [Int.one_mul, hx] at r
  subst hb hc hnl
  refine ⟨r.sz, l, rfl, r, by rw [dv_len]; omega, fun hp => ⟨_, rfl, by simp, fun j u hj => ?_⟩⟩
  have hk : Blk (W.alloc (.cells (dv l).toArray 3)) W.heap.size 3 (dv l).toArray := Blk.new W _ _
  have e : (Addr.add ⟨W.heap.size, 0, none⟩ j) = ⟨W.heap.size, j, none⟩ := by
    unfold Addr.add
    split
    · simp_all
    · simp
  rw [e, hk.cell j]
  simpa using hj
theorem int_BI {w : World} {x s1 : Int} {A1 : Option Addr} {n1 k : Nat} (h1 : Bg w k x s1 A1 n1) (hk : k ≤ 1048576) (c1 : Nat) {r : Int} {b : Bool} (hr : intP x = (r, b)) :
    Calls Tryd.prog 14 #[.agg #[.int .i64 s1, .slice A1 n1 c1]] w fun e w' => e = .returned (.tuple #[.int .i64 r, .bool b]) ∧ Below w.heap.size w w' := by
  have := int_B h1 hk c1
  rw [hr] at this
  exact this
theorem of_same {w : World} {x s : Int} {A : Option Addr} {n k : Nat} (hg : Bg w k x s A n) (hk : k ≤ 1048576) (c : Nat) (h0 : -9223372036854775808 ≤ x) (h1 : x ≤ 9223372036854775807) (w1 : World) (hb : Below w.heap.size w w1) :
    Calls Tryd.prog 12 #[.int .i64 x] w1 fun e w2 => ∃ va, e = .returned va ∧ Below w.heap.size w w2 ∧ Calls Tryd.prog 9 #[.agg #[.int .i64 s, .slice A n c], va] w2 (fun e w' => e = .returned (.bool true) ∧ Below w2.heap.size w2 w') := by
  refine (of_B x w1 h0 h1).mono ?_
  rintro e w2 ⟨sa, Aa, na, ca, rfl, -, ha, hba⟩
  have hb2 := hb.trans (hba.mono hb.size)
  exact ⟨_, rfl, hb2, same_B (hg.past hb2) ha hk (by decide) c ca (by simp)⟩
theorem floor_lit {x y q r q' r' : Int} (h : FloorP x y q r) (h1 : q' * y + r' = x) (h2 : 0 < y → 0 ≤ r' ∧ r' < y) (h3 : y < 0 → y < r' ∧ r' ≤ 0) (hy : y ≠ 0) : q = q' ∧ r = r' := by
  obtain ⟨a, b, c⟩ := h
  have hq : q = q' := by
    have e : (q - q') * y = r' - r := by rw [Int.sub_mul]; omega
    rcases Int.lt_trichotomy q q' with hq | hq | hq
    · exfalso
      rcases Int.lt_or_gt_of_ne hy with hy | hy
      · have h1 : 1 * (-y) ≤ (q' - q) * (-y) := Int.mul_le_mul_of_nonneg_right (by omega) (by omega)
        have e2 : (q' - q) * (-y) = (q - q') * y := by rw [Int.mul_neg, ← Int.neg_mul]; congr 1; omega
        have := b; have := c hy; have := h3 hy; omega
      · have h1 : 1 * y ≤ (q' - q) * y := Int.mul_le_mul_of_nonneg_right (by omega) (by omega)
        have e2 : (q' - q) * y = -((q - q') * y) := by rw [← Int.neg_mul]; congr 1; omega
        have := b hy; have := h2 hy; omega
    · exact hq
    · exfalso
      rcases Int.lt_or_gt_of_ne hy with hy | hy
      · have h1 : 1 * (-y) ≤ (q - q') * (-y) := Int.mul_le_mul_of_nonneg_right (by omega) (by omega)
        have e2 : (q - q') * (-y) = -((q - q') * y) := Int.mul_neg _ _
        have := c hy; have := h3 hy; omega
      · have h1 : 1 * y ≤ (q - q') * y := Int.mul_le_mul_of_nonneg_right (by omega) (by omega)
        have := b hy; have := h2 hy; omega
  subst hq
  exact ⟨rfl, by omega⟩
/-- How a division ends whose results are known. -/
def DivB (w : World) (k : Nat) (q r : Int) (e : Ending) (w' : World) : Prop := ∃ s A n c s' A' n' c', e = .returned (.tuple #[.agg #[.int .i64 s, .slice A n c], .agg #[.int .i64 s', .slice A' n' c'], .int .i64 0]) ∧ Bg w' k q s A n ∧ Bg w' k r s' A' n' ∧ Below w.heap.size w w'
theorem div_few_B {w : World} {x y s1 s2 : Int} {A1 A2 : Option Addr} {n1 n2 : Nat} {j k : Nat} (h1 : Bg w j x s1 A1 n1) (h2 : Bg w k y s2 A2 n2) (z1 : Sz 3 x) (z2 : Sz 3 y) (hy : y ≠ 0) (c1 c2 : Nat) (q r : Int) (e1 : q * y + r = x) (e2 : 0 < y → 0 ≤ r ∧ r < y) (e3 : y < 0 → y < r ∧ r ≤ 0) (zq : Sz 4 q) (zr : Sz 4 r) :
    Calls Tryd.prog 10 #[.agg #[.int .i64 s1, .slice A1 n1 c1], .agg #[.int .i64 s2, .slice A2 n2 c2]] w (DivB w 4 q r) := by
  have f1 := (h1.as z1).len
  have f2 := (h2.as z2).len
  obtain ⟨-, l1, g1, r1, m1⟩ := h1
  obtain ⟨-, l2, g2, r2, m2⟩ := h2
  refine (Div_by s1 s2 A1 A2 n1 n2 c1 c2 _ _ l1 l2 x y w m1 m2 r1 r2 hy (by omega) (by omega) (fun wx k1 k2 => ?_)).mono ?_
  · rcases Nat.lt_or_ge (dval l1) (dval l2) with hlt | hge
    · exact divide_less A1 A2 n1 n2 c1 c2 _ _ l1 l2 wx k1 k2 r1.norm r2.norm hlt (by omega) (by omega)
    · refine divide_few A1 A2 n1 n2 c1 c2 _ _ l1 l2 wx k1 k2 r1.norm r2.norm hge ?_ f1
      rcases r2.cases with ⟨-, -, a, b⟩ | ⟨-, -, a, b⟩ | ⟨-, -, a⟩ <;> omega
  · rintro e w' ⟨q', r', s, l, A, c, s', l', A', c', rfl, hv, hr, hr', hc, hc', hR, hR', hb⟩
    obtain ⟨rfl, rfl⟩ := floor_lit hv e1 e2 e3 hy
    exact ⟨s, A, l.length, c, s', A', l'.length, c', rfl, ⟨zq, l, rfl, hr, hR⟩, ⟨zr, l', rfl, hr', hR'⟩, hb⟩
theorem gcd_few_B {w : World} {x y s1 s2 : Int} {A1 A2 : Option Addr} {n1 n2 : Nat} {j k : Nat} (h1 : Bg w j x s1 A1 n1) (h2 : Bg w k y s2 A2 n2) (z1 : Sz 3 x) (z2 : Sz 3 y) (hT : TabZ w) (c1 c2 : Nat) (g : Int) (e1 : ((Int.gcd x y : Nat) : Int) = g) (zg : Sz 4 g) :
    Calls Tryd.prog 7 #[.agg #[.int .i64 s1, .slice A1 n1 c1], .agg #[.int .i64 s2, .slice A2 n2 c2]] w (OkB w 4 g) := by
  have f1 := (h1.as z1).len
  have f2 := (h2.as z2).len
  obtain ⟨-, l1, g1, r1, m1⟩ := h1
  obtain ⟨-, l2, g2, r2, m2⟩ := h2
  subst e1
  exact (Gcd_by s1 s2 A1 A2 n1 n2 c1 c2 _ _ l1 l2 x y w m1 m2 r1 r2 (by omega) (by omega) hT (fun wx k1 k2 hTx => divisor_few A1 A2 n1 n2 c1 c2 _ _ l1 l2 wx k1 k2 r1.norm r2.norm f1 f2 hTx)).mono fun _ _ h => h.b zg
theorem sz3 {x : Int} (h0 : -1000000 ≤ x) (h1 : x ≤ 1000000) : Sz 3 x := by
  show x.natAbs < 1152921504606846976
  omega
set_option maxRecDepth 100000 in
set_option maxHeartbeats 4000000 in
theorem small_any (w : World) (hT : Tab w) (hZ : TabZ w) : Calls Tryd.prog 4 #[] w fun e w' => e = .returned (.bool true) ∧ Below w.heap.size w w' := by
  have HT := Lib.hid hT
  have HZ := Lib.hid hZ
  have S0 := Lib.hid (StB.new w)
  clear hT hZ
  go_enter Tryd.func4, Tryd.ntmps4
  go_wp2_with fail
  refine (of_B 1048577 _ (by decide) (by decide)).mono ?_
  rintro e w1 ⟨s1, A1, n1, c1, rfl, hc1, hb1, hB1⟩
  have S1 := Lib.hid ((S0.out.call hB1).box c1 hb1)
  clear hb1 hB1 S0
  go_wp2_with fail
  refine (of_B (-99999999999) _ (by decide) (by decide)).mono ?_
  rintro e w2 ⟨s2, A2, n2, c2, rfl, hc2, hb2, hB2⟩
  have S2 := Lib.hid (S1.out.call hB2)
  have G2 := Lib.hid hb2
  clear hb2 hB2 S1
  go_wp2_with fail
  refine (of_B 99999999999 _ (by decide) (by decide)).mono ?_
  rintro e w3 ⟨s3, A3, n3, c3, rfl, hc3, hb3, hB3⟩
  have S3 := Lib.hid (S2.out.call hB3)
  have M := Lib.hid (mul_B (G2.out.past hB3) hb3 (by decide) (by decide) c2 c3)
  clear hb3 hB3 S2 G2
  go_wp2_with fail
  refine M.out.mono ?_
  rintro e w4 ⟨s4, A4, n4, c4, rfl, hc4, hb4, hB4⟩
  have S4 := Lib.hid ((S3.out.call hB4).box c4 hb4)
  clear hb4 hB4 S3 M
  go_wp2_with fail
  refine (of_B (-7) _ (by decide) (by decide)).mono ?_
  rintro e w5 ⟨s5, A5, n5, c5, rfl, -, hb5, hB5⟩
  have S5 := Lib.hid (S4.out.call hB5)
  have G5 := Lib.hid hb5
  clear hb5 hB5 S4
  go_wp2_with fail
  refine (of_B 2 _ (by decide) (by decide)).mono ?_
  rintro e w6 ⟨s6, A6, n6, c6, rfl, -, hb6, hB6⟩
  have S6 := Lib.hid (S5.out.call hB6)
  have M := Lib.hid (div_few_B (G5.out.past hB6) hb6 (sz3 (by decide) (by decide)) (sz3 (by decide) (by decide)) (by decide) c5 c6 (-4) 1 (by decide) (by decide) (by decide) (Sz.int (by decide) (by decide)) (Sz.int (by decide) (by decide)))
  clear hb6 hB6 S5 G5
  go_wp2_with fail
  refine M.out.mono ?_
  rintro e w7 ⟨s7, A7, n7, c7, s8, A8, n8, c8, rfl, hb7, hb8, hB7⟩
  have S7 := Lib.hid ((S6.out.call hB7).box2 c7 c8 hb7 hb8)
  clear hb7 hb8 hB7 S6 M
  go_wp2_with fail
  refine (of_B 7 _ (by decide) (by decide)).mono ?_
  rintro e w11 ⟨s11, A11, n11, c11, rfl, -, hb11, hB11⟩
  have S11 := Lib.hid (S7.out.call hB11)
  have G11 := Lib.hid hb11
  clear hb11 hB11 S7
  go_wp2_with fail
  refine (of_B (-2) _ (by decide) (by decide)).mono ?_
  rintro e w12 ⟨s12, A12, n12, c12, rfl, -, hb12, hB12⟩
  have S12 := Lib.hid (S11.out.call hB12)
  have M := Lib.hid (div_few_B (G11.out.past hB12) hb12 (sz3 (by decide) (by decide)) (sz3 (by decide) (by decide)) (by decide) c11 c12 (-4) (-1) (by decide) (by decide) (by decide) (Sz.int (by decide) (by decide)) (Sz.int (by decide) (by decide)))
  clear hb12 hB12 S11 G11
  go_wp2_with fail
  refine M.out.mono ?_
  rintro e w13 ⟨s13, A13, n13, c13, s14, A14, n14, c14, rfl, hb13, hb14, hB13⟩
  have S13 := Lib.hid ((S12.out.call hB13).box2 c13 c14 hb13 hb14)
  clear hb13 hb14 hB13 S12 M
  go_wp2_with fail
  refine (of_B (-7) _ (by decide) (by decide)).mono ?_
  rintro e w15 ⟨s15, A15, n15, c15, rfl, -, hb15, hB15⟩
  have S15 := Lib.hid (S13.out.call hB15)
  have G15 := Lib.hid hb15
  clear hb15 hB15 S13
  go_wp2_with fail
  refine (of_B (-2) _ (by decide) (by decide)).mono ?_
  rintro e w16 ⟨s16, A16, n16, c16, rfl, -, hb16, hB16⟩
  have S16 := Lib.hid (S15.out.call hB16)
  have M := Lib.hid (div_few_B (G15.out.past hB16) hb16 (sz3 (by decide) (by decide)) (sz3 (by decide) (by decide)) (by decide) c15 c16 3 (-1) (by decide) (by decide) (by decide) (Sz.int (by decide) (by decide)) (Sz.int (by decide) (by decide)))
  clear hb16 hB16 S15 G15
  go_wp2_with fail
  refine M.out.mono ?_
  rintro e w17 ⟨s17, A17, n17, c17, s18, A18, n18, c18, rfl, hb17, hb18, hB17⟩
  have S17 := Lib.hid ((S16.out.call hB17).box2 c17 c18 hb17 hb18)
  clear hb17 hb18 hB17 S16 M
  go_wp2_with fail
  refine (of_B (-12) _ (by decide) (by decide)).mono ?_
  rintro e w21 ⟨s21, A21, n21, c21, rfl, -, hb21, hB21⟩
  have S21 := Lib.hid (S17.out.call hB21)
  have G21 := Lib.hid hb21
  clear hb21 hB21 S17
  go_wp2_with fail
  refine (of_B 18 _ (by decide) (by decide)).mono ?_
  rintro e w22 ⟨s22, A22, n22, c22, rfl, -, hb22, hB22⟩
  have S22 := Lib.hid (S21.out.call hB22)
  have M := Lib.hid (gcd_few_B (G21.out.past hB22) hb22 (sz3 (by decide) (by decide)) (sz3 (by decide) (by decide)) (HZ.out.on S22.out.bl) c21 c22 6 (by decide) (Sz.int (by decide) (by decide)))
  clear hb22 hB22 S21 G21
  go_wp2_with fail
  refine M.out.mono ?_
  rintro e w23 ⟨s23, A23, n23, c23, rfl, -, hb23, hB23⟩
  have S23 := Lib.hid ((S22.out.call hB23).box c23 hb23)
  clear hb23 hB23 S22 M
  go_wp2_with fail
  refine (of_B 0 _ (by decide) (by decide)).mono ?_
  rintro e w25 ⟨s25, A25, n25, c25, rfl, -, hb25, hB25⟩
  have S25 := Lib.hid (S23.out.call hB25)
  have G25 := Lib.hid hb25
  clear hb25 hB25 S23
  go_wp2_with fail
  refine (of_B (-5) _ (by decide) (by decide)).mono ?_
  rintro e w26 ⟨s26, A26, n26, c26, rfl, -, hb26, hB26⟩
  have S26 := Lib.hid (S25.out.call hB26)
  have M := Lib.hid (gcd_few_B (G25.out.past hB26) hb26 (sz3 (by decide) (by decide)) (sz3 (by decide) (by decide)) (HZ.out.on S26.out.bl) c25 c26 5 (by decide) (Sz.int (by decide) (by decide)))
  clear hb26 hB26 S25 G25
  go_wp2_with fail
  refine M.out.mono ?_
  rintro e w27 ⟨s27, A27, n27, c27, rfl, -, hb27, hB27⟩
  have S27 := Lib.hid ((S26.out.call hB27).box c27 hb27)
  clear hb27 hB27 S26 M
  go_wp2_with fail
  refine (read_double _).mono ?_
  rintro e w31 ⟨rfl, hB31⟩
  have S31 := Lib.hid ((S27.out.call hB31).box 0 (Bg.nil _ 4))
  clear hB31 S27
  go_wp2_with fail
  refine (read_minus _).mono ?_
  rintro e w32 ⟨rfl, hB32⟩
  have S32 := Lib.hid ((S31.out.call hB32).box 0 (Bg.nil _ 4))
  clear hB32 S31
  go_wp2_with fail
  refine (read_empty _).mono ?_
  rintro e w33 ⟨rfl, hB33⟩
  have S33 := Lib.hid ((S32.out.call hB33).box 0 (Bg.nil _ 4))
  clear hB33 S32
  go_wp2_with fail
  have S34 := Lib.hid (show StB w ((w33.alloc (.cells #[.int .i64 0, .slice none 0 0] 24)).alloc (.cells #[.int .i64 0, .int .i64 0, .int .i64 0, .int .i64 8] 3)) _ from S33.out.call ((Below.refl _ _).alloc (Nat.le_refl _) _))
  have GT : Hid (Bg ((w33.alloc (.cells #[.int .i64 0, .slice none 0 0] 24)).alloc (.cells #[.int .i64 0, .int .i64 0, .int .i64 0, .int .i64 8] 3)) 4 9223372036854775808 1 (some ⟨w33.heap.size + 1, 0, none⟩) 4) := by
    exact ints_B (w33.alloc (.cells #[.int .i64 0, .slice none 0 0] 24)) [0, 0, 0, 8] ⟨by unfold Sml; decide, by unfold NoZ; decide⟩ (by decide) (by decide) (by simp) rfl rfl
  have S35 := Lib.hid (S34.out.box 4 GT.out)
  have hsz35 : ((w33.alloc (.cells #[.int .i64 0, .slice none 0 0] 24)).alloc (.cells #[.int .i64 0, .int .i64 0, .int .i64 0, .int .i64 8] 3)).heap.size = w33.heap.size + 1 + 1 := by simp
  have HS35 := Lib.hid hsz35
  clear hsz35 S34
  refine (int_BI (GT.out.past ((Below.refl _ _).alloc (Nat.le_refl _) _)) (by decide) 4 (r := 0) (b := false) (by decide)).mono ?_
  rintro e w36 ⟨rfl, hB36⟩
  have S36 := Lib.hid (S35.out.call hB36)
  rw [HS35.out] at S36
  have BT := S36.out.bx _ List.mem_cons_self
  have z0 := (BT.1.cell 0).trans rfl
  have z1 := (BT.1.cell 1).trans rfl
  have GT2 := Lib.hid BT.2
  clear BT hB36 S35 GT HS35
  go_wp2_with fail
  refine (neg_B GT2.out (by decide) 4).mono ?_
  rintro e w37 ⟨s37, A37, n37, c37, rfl, -, hb37, hB37⟩
  have S37 := Lib.hid (S36.out.call hB37)
  have M := Lib.hid (int_BI hb37 (by decide) c37 (r := -9223372036854775808) (b := true) (by decide))
  clear hb37 hB37 S36 z0 z1 GT2
  go_wp2_with fail
  refine M.out.mono ?_
  rintro e w38 ⟨rfl, hB38⟩
  have S38 := Lib.hid (S37.out.call hB38)
  clear hB38 S37 M
  have Fx := S38.out.bx _ (List.mem_of_getElem? (i := 13) rfl)
  dsimp only at Fx
  have zx0 := (Fx.1.cell 0).trans rfl
  have zx1 := (Fx.1.cell 1).trans rfl
  have Gx := Lib.hid Fx.2
  clear Fx
  go_wp2_with fail
  have S39 := Lib.hid (show StB w (w38.alloc (.cells #[.int .i64 1, .int .i64 1] 3)) _ from S38.out.call ((Below.refl _ _).alloc (Nat.le_refl _) _))
  refine (refSame_B (Gx.out.past ((Below.refl _ _).alloc (Nat.le_refl _) _)) (ints_B w38 [1, 1] (n := 2) ⟨by unfold Sml; decide, by unfold NoZ; decide⟩ (by decide) (x := 1048577) (by decide) rfl rfl rfl) (by decide) (by decide) _ _ (r := true) (by decide)).mono ?_
  rintro e w40 ⟨rfl, hB40⟩
  have S40 := Lib.hid (S39.out.call hB40)
  clear hB40 S39 S38 zx0 zx1 Gx
  have Fp := S40.out.bx _ (List.mem_of_getElem? (i := 12) rfl)
  dsimp only at Fp
  have zp0 := (Fp.1.cell 0).trans rfl
  have zp1 := (Fp.1.cell 1).trans rfl
  have Gp := Lib.hid Fp.2
  clear Fp
  have hM := text_B Gp.out (by decide) (HT.out.on S40.out.bl) c4
  rw [show Lib.itoa (-99999999999 * 99999999999) = [45, 57, 57, 57, 57, 57, 57, 57, 57, 57, 57, 56, 48, 48, 48, 48, 48, 48, 48, 48, 48, 48, 49] by decide +kernel] at hM
  have M := Lib.hid hM
  clear hM
  go_wp2_with fail
  refine M.out.mono ?_
  rintro e w41 ⟨rfl, hB41⟩
  have S41 := Lib.hid (S40.out.call hB41)
  clear hB41 S40 zp0 zp1 Gp M
  have Fa := S41.out.bx _ (List.mem_of_getElem? (i := 11) rfl)
  dsimp only at Fa
  have za0 := (Fa.1.cell 0).trans rfl
  have za1 := (Fa.1.cell 1).trans rfl
  have Ga := Lib.hid Fa.2
  have Fb := S41.out.bx _ (List.mem_of_getElem? (i := 10) rfl)
  dsimp only at Fb
  have zb0 := (Fb.1.cell 0).trans rfl
  have zb1 := (Fb.1.cell 1).trans rfl
  have Gb := Lib.hid Fb.2
  clear Fa Fb
  have M := Lib.hid (pair_B Ga.out Gb.out (by decide) (by decide) c7 c8 (by decide) (by decide) (by decide) (by decide))
  go_wp2_with fail
  refine M.out.mono ?_
  rintro e w42 ⟨rfl, hB42⟩
  have S42 := Lib.hid (S41.out.call hB42)
  clear hB42 S41 za0 za1 zb0 zb1 Ga Gb M
  have Fc := S42.out.bx _ (List.mem_of_getElem? (i := 9) rfl)
  dsimp only at Fc
  have zc0 := (Fc.1.cell 0).trans rfl
  have zc1 := (Fc.1.cell 1).trans rfl
  have Gc := Lib.hid Fc.2
  have Fd := S42.out.bx _ (List.mem_of_getElem? (i := 8) rfl)
  dsimp only at Fd
  have zd0 := (Fd.1.cell 0).trans rfl
  have zd1 := (Fd.1.cell 1).trans rfl
  have Gd := Lib.hid Fd.2
  clear Fc Fd
  have M := Lib.hid (pair_B Gc.out Gd.out (by decide) (by decide) c13 c14 (by decide) (by decide) (by decide) (by decide))
  go_wp2_with fail
  refine M.out.mono ?_
  rintro e w43 ⟨rfl, hB43⟩
  have S43 := Lib.hid (S42.out.call hB43)
  clear hB43 S42 zc0 zc1 zd0 zd1 Gc Gd M
  have Fi := S43.out.bx _ (List.mem_of_getElem? (i := 7) rfl)
  dsimp only at Fi
  have zi0 := (Fi.1.cell 0).trans rfl
  have zi1 := (Fi.1.cell 1).trans rfl
  have Gi := Lib.hid Fi.2
  have Fj := S43.out.bx _ (List.mem_of_getElem? (i := 6) rfl)
  dsimp only at Fj
  have zj0 := (Fj.1.cell 0).trans rfl
  have zj1 := (Fj.1.cell 1).trans rfl
  have Gj := Lib.hid Fj.2
  clear Fi Fj
  have M := Lib.hid (pair_B Gi.out Gj.out (by decide) (by decide) c17 c18 (by decide) (by decide) (by decide) (by decide))
  go_wp2_with fail
  refine M.out.mono ?_
  rintro e wb ⟨rfl, hB44⟩
  have S44 := Lib.hid (S43.out.call hB44)
  clear hB44 S43 zi0 zi1 zj0 zj1 Gi Gj M
  go_upto_region 15 with (fail)
  have Fk := S44.out.bx _ (List.mem_of_getElem? (i := 5) rfl)
  dsimp only at Fk
  have zk0 := (Fk.1.cell 0).trans rfl
  have zk1 := (Fk.1.cell 1).trans rfl
  have Gk := Lib.hid Fk.2
  have Fm := S44.out.bx _ (List.mem_of_getElem? (i := 4) rfl)
  dsimp only at Fm
  have zm0 := (Fm.1.cell 0).trans rfl
  have zm1 := (Fm.1.cell 1).trans rfl
  have Gm := Lib.hid Fm.2
  have HK : Hid (∀ wx, Below wb.heap.size wb wx → wx.cell? ⟨w23.heap.size, 0, none⟩ = some (.int .i64 s23) ∧ wx.cell? ⟨w23.heap.size, 1, none⟩ = some (.slice A23 n23 c23) ∧ wx.cell? ⟨w27.heap.size, 0, none⟩ = some (.int .i64 s27) ∧ wx.cell? ⟨w27.heap.size, 1, none⟩ = some (.slice A27 n27 c27)) := fun wx hb =>
    ⟨(hb.cell (p := ⟨w23.heap.size, 0, none⟩) Fk.1.lt).trans zk0, (hb.cell (p := ⟨w23.heap.size, 1, none⟩) Fk.1.lt).trans zk1, (hb.cell (p := ⟨w27.heap.size, 0, none⟩) Fm.1.lt).trans zm0, (hb.cell (p := ⟨w27.heap.size, 1, none⟩) Fm.1.lt).trans zm1⟩
  have HBL := Lib.hid S44.out.bl
  clear Fk Fm S44
  have HA1 := Lib.hid (of_same Gk.out (by decide) c23 (by decide) (by decide) wb.drew (Below.refl _ _).drew)
  have HA2 := Lib.hid (of_same Gm.out (by decide) c27 (by decide) (by decide))
  clear Gk Gm
  go_region_held3 (fun w' => w'.cell? ⟨w23.heap.size, 0, none⟩ = some (.int .i64 s23) ∧ w'.cell? ⟨w23.heap.size, 1, none⟩ = some (.slice A23 n23 c23) ∧ w'.cell? ⟨w27.heap.size, 0, none⟩ = some (.int .i64 s27) ∧ w'.cell? ⟨w27.heap.size, 1, none⟩ = some (.slice A27 n27 c27))
    (first | exact ⟨y0, y1, y2, y3⟩ | exact ⟨x0, x1, x2, x3⟩ | exact ⟨v0, v1, v2, v3⟩ | exact ⟨u0, u1, u2, u3⟩ | exact ⟨zk0, zk1, zm0, zm1⟩)
    (first | (go_at_call 12; with_reducible refine HA1.out.mono ?_; rintro e w1 ⟨va, rfl, hb1, hs1⟩; have B1 := Lib.hid hb1; have HS1 := Lib.hid hs1; obtain ⟨u0, u1, u2, u3⟩ := HK.out _ hb1; clear hb1 hs1) | (go_at_call 9; with_reducible refine HS1.out.mono ?_; rintro e w2 ⟨rfl, hb2⟩; have B2 := Lib.hid (B1.out.trans (hb2.mono B1.out.size)); obtain ⟨v0, v1, v2, v3⟩ := HK.out _ B2.out; clear hb2) | (go_at_call 12; with_reducible refine (HA2.out _ B2.out).mono ?_; rintro e w3 ⟨vb, rfl, hb3, hs3⟩; have B3 := Lib.hid hb3; have HS2 := Lib.hid hs3; obtain ⟨x0, x1, x2, x3⟩ := HK.out _ hb3; clear hb3 hs3) | (go_at_call 12; with_reducible refine (HA2.out _ B2.out.drew).mono ?_; rintro e w3 ⟨vb, rfl, hb3, hs3⟩; have B3 := Lib.hid hb3; have HS2 := Lib.hid hs3; obtain ⟨x0, x1, x2, x3⟩ := HK.out _ hb3; clear hb3 hs3) | (go_at_call 9; with_reducible refine HS2.out.mono ?_; rintro e w4 ⟨rfl, hb4⟩; have B4 := Lib.hid (B3.out.trans (hb4.mono B3.out.size)); obtain ⟨y0, y1, y2, y3⟩ := HK.out _ B4.out; clear hb4))
  all_goals
    go_wp2_with fail
    go_ret
    exact ⟨rfl, HBL.out.trans (B4.out.mono HBL.out.size)⟩
end Go.Proofs.YtoocdokhljpokaaDoor
