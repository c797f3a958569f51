/- The walk of the law BigInts. Conditions: the arguments' memory, the tables of math/bits and strconv. -/
import Derived.Test.YtnadnobpejccpaaDoorE6
import Derived.Deep.DeepCutAuto
namespace Go.Proofs.YtnadnobpejccpaaDoor
set_option maxRecDepth 8000
open Go.RowKit
theorem wp_calm {P : Program} {c : Code} {K : Act → World → Prop} {Q' : Exit → Act → World → Prop} {a : Act} {w : World} (h : c.wp P (Exit.then K (fun _ _ _ => False)) a w) : c.wp P (Exit.then K Q') a w := by
  refine wp_mono h ?_
  intro e a w hq
  cases e with
  | normal => exact hq
  | _ => exact hq.elim
theorem prod_in {a b : Int} (g1 : -1073741824 < a) (g2 : a < 1073741824) (g3 : -1073741824 < b) (g4 : b < 1073741824) : -1152921504606846976 < a * b ∧ a * b < 1152921504606846976 := by
  have h1 : a.natAbs < 1073741824 := by omega
  have h2 : b.natAbs < 1073741824 := by omega
  have h3 := Nat.mul_le_mul (Nat.le_of_lt_succ h1) (Nat.le_of_lt_succ h2)
  rw [← Int.natAbs_mul] at h3
  omega
theorem toList_inj {a b : ByteArray} (h : a.toList = b.toList) : a = b := by
  rw [toList_data, toList_data] at h
  exact ByteArray.ext (Array.toList_inj.1 h)
theorem toArray_inj {l m : List UInt8} (h : (⟨l.toArray⟩ : ByteArray) = ⟨m.toArray⟩) : l = m := by
  have := congrArg (fun b : ByteArray => b.data.toList) h
  simpa using this
-- operations 21 to 24 of region 6 (unwanted where a = -2^63), hidden behind names: else the walk warns
def o21 : Oper := { dst := some 63, op := Op.move (Operand.tmp 10), type := 3, pos := "law.go:193", after := #[{ on := 20, ground := Ground.guard }], guard := some (20, true) }
@[go_sem] theorem o21_is : o21 = { dst := some 63, op := Op.move (Operand.tmp 10), type := 3, pos := "law.go:193", after := #[{ on := 20, ground := Ground.guard }], guard := some (20, true) } := rfl
def o22 : Oper := { dst := some 64, op := Op.move (Operand.tmp 0), type := 3, pos := "law.go:193", after := #[{ on := 20, ground := Ground.guard }], guard := some (20, true) }
@[go_sem] theorem o22_is : o22 = { dst := some 64, op := Op.move (Operand.tmp 0), type := 3, pos := "law.go:193", after := #[{ on := 20, ground := Ground.guard }], guard := some (20, true) } := rfl
def o23 : Oper := { dst := some 65, op := Op.unOp UnOp.neg 3 (Operand.tmp 64), type := 3, pos := "law.go:193", after := #[{ on := 22, ground := Ground.data }, { on := 20, ground := Ground.guard }], guard := some (20, true) }
@[go_sem] theorem o23_is : o23 = { dst := some 65, op := Op.unOp UnOp.neg 3 (Operand.tmp 64), type := 3, pos := "law.go:193", after := #[{ on := 22, ground := Ground.data }, { on := 20, ground := Ground.guard }], guard := some (20, true) } := rfl
def o24 : Oper := { dst := some 66, op := Op.binOp BinOp.neq 3 (Operand.tmp 63) (Operand.tmp 65) 3, type := 4, pos := "law.go:193", after := #[{ on := 21, ground := Ground.data }, { on := 23, ground := Ground.data }, { on := 20, ground := Ground.guard }], guard := some (20, true) }
@[go_sem] theorem o24_is : o24 = { dst := some 66, op := Op.binOp BinOp.neq 3 (Operand.tmp 63) (Operand.tmp 65) 3, type := 4, pos := "law.go:193", after := #[{ on := 21, ground := Ground.data }, { on := 23, ground := Ground.data }, { on := 20, ground := Ground.guard }], guard := some (20, true) } := rfl
def dval10 (l : List UInt8) : Nat := l.foldl (fun a c => a * 10 + (c.toNat - 48)) 0
theorem dval10_snoc (l : List UInt8) (c : UInt8) : dval10 (l ++ [c]) = dval10 l * 10 + (c.toNat - 48) := by simp [dval10]
theorem digit_nat {d : Nat} (h : d < 10) : (UInt8.ofNat (48 + d)).toNat = 48 + d := by
  rw [UInt8.toNat_ofNat']
  omega
theorem dval10_dec (u : Nat) : dval10 (Lib.decDigits u) = u := by
  induction u using Nat.strongRecOn with
  | _ u ih =>
    by_cases h : u < 10
    · rw [dec_small h]
      show 0 * 10 + ((UInt8.ofNat (48 + u)).toNat - 48) = u
      rw [digit_nat h]
      omega
    · rw [dec_big h, dval10_snoc, ih (u / 10) (by omega), digit_nat (by omega)]
      omega
theorem dec_no45 (u : Nat) : (45 : UInt8) ∉ Lib.decDigits u := by
  induction u using Nat.strongRecOn with
  | _ u ih =>
    have key : ∀ d, d < 10 → (45 : UInt8) ≠ UInt8.ofNat (48 + d) := fun d hd e => by
      have := congrArg UInt8.toNat e
      rw [digit_nat hd] at this
      have h45 : (45 : UInt8).toNat = 45 := rfl
      omega
    by_cases h : u < 10
    · rw [dec_small h]
      simpa using key u h
    · rw [dec_big h]
      intro hm
      rcases List.mem_append.1 hm with h1 | h1
      · exact ih (u / 10) (by omega) h1
      · exact key (u % 10) (by omega) (by simpa using h1)
theorem itoa_form (x : Int) : (∃ m : Nat, x = m ∧ Lib.itoa x = Lib.decDigits m) ∨ (∃ m : Nat, x = -(m : Int) ∧ Lib.itoa x = 45 :: Lib.decDigits m) := by
  by_cases h : x < 0
  · refine .inr ⟨x.natAbs, by omega, ?_⟩
    have := Lib.itoa_neg x.natAbs (by omega)
    rwa [show -((x.natAbs : Nat) : Int) = x by omega] at this
  · refine .inl ⟨x.toNat, by omega, ?_⟩
    have := Lib.itoa_nonneg x.toNat
    rwa [show ((x.toNat : Nat) : Int) = x by omega] at this
theorem itoa_inj {a b : Int} (h : Lib.itoa a = Lib.itoa b) : a = b := by
  rcases itoa_form a with ⟨m, rfl, e1⟩ | ⟨m, rfl, e1⟩ <;> rcases itoa_form b with ⟨k, rfl, e2⟩ | ⟨k, rfl, e2⟩
  · have := congrArg dval10 (e1.symm.trans (h.trans e2))
    rw [dval10_dec, dval10_dec] at this
    omega
  · exact absurd (show (45 : UInt8) ∈ Lib.decDigits m by rw [e1.symm.trans (h.trans e2)]; exact List.mem_cons_self) (dec_no45 m)
  · exact absurd (show (45 : UInt8) ∈ Lib.decDigits k by rw [e2.symm.trans (h.symm.trans e1)]; exact List.mem_cons_self) (dec_no45 k)
  · have h3 := e1.symm.trans (h.trans e2)
    injection h3 with _ h4
    have := congrArg dval10 h4
    rw [dval10_dec, dval10_dec] at this
    omega
theorem texts_eq (a b : Int) : ((⟨(Lib.itoa a).toArray⟩ : ByteArray).toList == (⟨(Lib.itoa b).toArray⟩ : ByteArray).toList) = (a == b) := by
  rw [toList_data, toList_data]
  by_cases h : a = b
  · subst h; simp
  · rw [beq_eq_false_iff_ne.2 h, beq_eq_false_iff_ne]
    exact fun e => h (itoa_inj (by simpa using e))
theorem intP_in {x : Int} (h0 : -9223372036854775808 ≤ x) (h1 : x ≤ 9223372036854775807) : intP x = (x, true) := by unfold intP; rw [if_pos ⟨h0, h1⟩]
theorem intP_least : intP (-(-9223372036854775808)) = (0, false) := by decide
set_option maxRecDepth 100000 in
set_option maxHeartbeats 2000000 in
theorem ints_walk (a b : Int) (w : World) (ha : -9223372036854775808 ≤ a ∧ a ≤ 9223372036854775807) (hb : -9223372036854775808 ≤ b ∧ b ≤ 9223372036854775807) (hT : Tab w) (hZ : TabZ w) :
    Calls Tryd.prog 7 #[.int .i64 a, .int .i64 b] w fun e w' => e = .returned (.bool true) ∧ Below w.heap.size w w' := by
  obtain ⟨ha0, ha1⟩ := ha
  obtain ⟨hb0, hb1⟩ := hb
  have HT := Lib.hid hT
  have HZ := Lib.hid hZ
  clear hT hZ
  go_enter Tryd.func7, Tryd.ntmps7
  go_wp2_with fail
  refine (small_any _ HT.out HZ.out).mono ?_
  rintro e w0 ⟨rfl, hb⟩
  have S0 := Lib.hid ((StR.new w).call hb)
  clear hb HZ
  go_wp2_with fail
  refine (of_F a _ ha0 ha1).mono ?_
  rintro e w1 ⟨s1, A1, n1, c1, rfl, -, hg, hf, hb⟩
  have S1 := Lib.hid (S0.out.made hb hg hf c1)
  clear hg hf hb S0
  go_wp2_with fail
  refine (of_F b _ hb0 hb1).mono ?_
  rintro e w2 ⟨s2, A2, n2, c2, rfl, -, hg, hf, hb⟩
  have S2 := Lib.hid (S1.out.made hb hg hf c2)
  clear hg hf hb S1
  have Fx := S2.out.bx _ (List.mem_of_getElem? (i := 1) rfl)
  dsimp only at Fx
  have zx0 := Fx.1.c0
  have zx1 := Fx.1.c1
  have Gx := Lib.hid Fx.2
  clear Fx
  have M := Lib.hid (int_BI Gx.out (by decide) c1 (intP_in ha0 ha1))
  go_wp2_with fail
  refine M.out.mono ?_
  rintro e w3 ⟨rfl, hb⟩
  have S3 := Lib.hid (S2.out.call hb)
  clear hb M S2 zx0 zx1 Gx
  have Fx := S3.out.bx _ (List.mem_of_getElem? (i := 1) rfl)
  dsimp only at Fx
  have zx0 := Fx.1.c0
  have zx1 := Fx.1.c1
  have Gx := Lib.hid Fx.2
  clear Fx
  have M := Lib.hid (neg_F Gx.out (by decide) c1)
  go_wp2_with fail
  refine M.out.mono ?_
  rintro e w4 ⟨s4, A4, n4, c4, rfl, -, hg, hf, hb⟩
  have S4 := Lib.hid (S3.out.call hb)
  obtain ⟨m, wa, hmw⟩ : ∃ m wa, Hid (intP (-a) = (m, wa)) := ⟨_, _, rfl⟩
  have M := Lib.hid (int_BI hg (by decide) c4 hmw.out)
  clear hg hf hb S3 zx0 zx1 Gx
  go_wp2_with fail
  refine M.out.mono ?_
  rintro e w5 ⟨rfl, hb⟩
  have S5 := Lib.hid (S4.out.call hb)
  clear hb M S4
  go_upto_region 6 with (fail)
  have Fx := S5.out.bx _ (List.mem_of_getElem? (i := 1) rfl)
  dsimp only at Fx
  have zx0 := Fx.1.c0
  have zx1 := Fx.1.c1
  have Gx := Lib.hid Fx.2
  clear Fx
  have Fy := S5.out.bx _ (List.mem_of_getElem? (i := 0) rfl)
  dsimp only at Fy
  have zy0 := Fy.1.c0
  have zy1 := Fy.1.c1
  have Gy := Lib.hid Fy.2
  clear Fy
  have hszx : w1.heap.size < w5.heap.size := World.block_lt_of_cell? _ _ zx0
  have hszy : w2.heap.size < w5.heap.size := World.block_lt_of_cell? _ _ zy0
  go_cut [79] from 42 (fun sp wc => sp = .bool false ∧ Hid (StR w wc [⟨w2.heap.size, 4, b, s2, A2, n2, c2⟩, ⟨w1.heap.size, 4, a, s1, A1, n1, c1⟩]))
  case first =>
    have HK : Hid (∀ wx, Below w5.heap.size w5 wx → wx.cell? ⟨w1.heap.size, 0, none⟩ = some (.int .i64 s1) ∧ wx.cell? ⟨w1.heap.size, 1, none⟩ = some (.slice A1 n1 c1) ∧ wx.cell? ⟨w2.heap.size, 0, none⟩ = some (.int .i64 s2) ∧ wx.cell? ⟨w2.heap.size, 1, none⟩ = some (.slice A2 n2 c2)) := fun wx hb =>
      ⟨(hb.cell (p := ⟨w1.heap.size, 0, none⟩) hszx).trans zx0, (hb.cell (p := ⟨w1.heap.size, 1, none⟩) hszx).trans zx1, (hb.cell (p := ⟨w2.heap.size, 0, none⟩) hszy).trans zy0, (hb.cell (p := ⟨w2.heap.size, 1, none⟩) hszy).trans zy1⟩
    have HR : Hid (∀ wx, Below w5.heap.size w5 wx → Calls Tryd.prog 11 #[.agg #[.int .i64 s1, .slice A1 n1 c1]] wx fun e w' => e = .returned (.bool true) ∧ Below w5.heap.size w5 w') := fun wx hb => (right_B (Gx.out.past hb) (by decide) c1).mono fun _ _ h => ⟨h.1, hb.trans (h.2.mono hb.size)⟩
    obtain ⟨TX, hTX⟩ : ∃ TX : ByteArray, ⟨(Lib.itoa a).toArray⟩ = TX := ⟨_, rfl⟩
    obtain ⟨TY, hTY⟩ : ∃ TY : ByteArray, ⟨(Lib.itoa b).toArray⟩ = TY := ⟨_, rfl⟩
    have hTT := texts_eq a b
    have HX : Hid (∀ wx, Below w5.heap.size w5 wx → Calls Tryd.prog 23 #[.agg #[.int .i64 s1, .slice A1 n1 c1]] wx fun e w' => e = .returned (.string ⟨(Lib.itoa a).toArray⟩) ∧ Below w5.heap.size w5 w') := fun wx hb => (text_B (Gx.out.past hb) (by decide) (HT.out.on (S5.out.bl.trans (hb.mono S5.out.bl.size))) c1).mono fun _ _ h => ⟨h.1, hb.trans (h.2.mono hb.size)⟩
    have HY : Hid (∀ wx, Below w5.heap.size w5 wx → Calls Tryd.prog 23 #[.agg #[.int .i64 s2, .slice A2 n2 c2]] wx fun e w' => e = .returned (.string ⟨(Lib.itoa b).toArray⟩) ∧ Below w5.heap.size w5 w') := fun wx hb => (text_B (Gy.out.past hb) (by decide) (HT.out.on (S5.out.bl.trans (hb.mono S5.out.bl.size))) c2).mono fun _ _ h => ⟨h.1, hb.trans (h.2.mono hb.size)⟩
    rw [hTX] at HX hTT
    rw [hTY] at HY hTT
    clear hTX hTY Gx Gy hszx hszy
    have BD : Hid (Below w5.heap.size w5 w5.drew) := (Below.refl _ _).drew
    have fin : ∀ wx, Below w5.heap.size w5 wx → Hid (StR w wx [⟨w2.heap.size, 4, b, s2, A2, n2, c2⟩, ⟨w1.heap.size, 4, a, s1, A1, n1, c1⟩]) := fun wx hb => S5.out.call hb
    have HF := Lib.hid fin
    clear fin S5
    by_cases hm : a = -9223372036854775808
    · subst hm
      have e1 := hmw.out.symm.trans intP_least
      simp only [Prod.mk.injEq] at e1
      obtain ⟨rfl, rfl⟩ := e1
      clear hmw
      by_cases hab : -9223372036854775808 = b
      · have hab1 : ((-9223372036854775808 : Int) == b) = true := by rw [beq_iff_eq]; exact hab
        rw [hab1] at hTT
        have Hab := Lib.hid hab
        clear hab
        rw [← o21_is, ← o22_is, ← o23_is, ← o24_is]
        (first | go_region_held3 (fun w' => w'.cell? ⟨w1.heap.size, 0, none⟩ = some (.int .i64 s1) ∧ w'.cell? ⟨w1.heap.size, 1, none⟩ = some (.slice A1 n1 c1) ∧ w'.cell? ⟨w2.heap.size, 0, none⟩ = some (.int .i64 s2) ∧ w'.cell? ⟨w2.heap.size, 1, none⟩ = some (.slice A2 n2 c2))
          (first | exact ⟨g0, g1, g2, g3⟩ | exact ⟨f0, f1, f2, f3⟩ | exact ⟨e0, e1, e2, e3⟩ | exact ⟨zx0, zx1, zy0, zy1⟩)
          (first | (go_at_call 11; with_reducible refine (HR.out _ BD.out).mono ?_; rintro e w2 ⟨rfl, hb2⟩; have B1 := Lib.hid hb2; obtain ⟨e0, e1, e2, e3⟩ := HK.out _ hb2; clear hb2) | (go_at_call 23; with_reducible refine (HX.out _ B1.out).mono ?_; rintro e w2 ⟨rfl, hb2⟩; have B2 := Lib.hid hb2; obtain ⟨f0, f1, f2, f3⟩ := HK.out _ hb2; clear hb2) | (go_at_call 23; with_reducible refine (HX.out _ B1.out.drew).mono ?_; rintro e w2 ⟨rfl, hb2⟩; have B2 := Lib.hid hb2; obtain ⟨f0, f1, f2, f3⟩ := HK.out _ hb2; clear hb2) | (go_at_call 23; with_reducible refine (HY.out _ B2.out).mono ?_; rintro e w2 ⟨rfl, hb2⟩; have B3 := Lib.hid hb2; obtain ⟨g0, g1, g2, g3⟩ := HK.out _ hb2; clear hb2) | (go_at_call 23; with_reducible refine (HY.out _ B2.out.drew).mono ?_; rintro e w2 ⟨rfl, hb2⟩; have B3 := Lib.hid hb2; obtain ⟨g0, g1, g2, g3⟩ := HK.out _ hb2; clear hb2) | (go_at_call 23; with_reducible refine (HY.out _ B1.out).mono ?_; rintro e w2 ⟨rfl, hb2⟩; have B2y := Lib.hid hb2; obtain ⟨f0, f1, f2, f3⟩ := HK.out _ hb2; clear hb2) | (go_at_call 23; with_reducible refine (HX.out _ B2y.out).mono ?_; rintro e w2 ⟨rfl, hb2⟩; have B3 := Lib.hid hb2; obtain ⟨g0, g1, g2, g3⟩ := HK.out _ hb2; clear hb2)) | fail "no")
        all_goals
          go_wp2_with fail
          go_meet
          exact ⟨rfl, HF.out _ B3.out⟩
      · have hab1 : ((-9223372036854775808 : Int) == b) = false := by rw [beq_eq_false_iff_ne]; exact hab
        rw [hab1] at hTT
        have Hab := Lib.hid hab
        clear hab
        rw [← o21_is, ← o22_is, ← o23_is, ← o24_is]
        (first | go_region_held3 (fun w' => w'.cell? ⟨w1.heap.size, 0, none⟩ = some (.int .i64 s1) ∧ w'.cell? ⟨w1.heap.size, 1, none⟩ = some (.slice A1 n1 c1) ∧ w'.cell? ⟨w2.heap.size, 0, none⟩ = some (.int .i64 s2) ∧ w'.cell? ⟨w2.heap.size, 1, none⟩ = some (.slice A2 n2 c2))
          (first | exact ⟨g0, g1, g2, g3⟩ | exact ⟨f0, f1, f2, f3⟩ | exact ⟨e0, e1, e2, e3⟩ | exact ⟨zx0, zx1, zy0, zy1⟩)
          (first | (go_at_call 11; with_reducible refine (HR.out _ BD.out).mono ?_; rintro e w2 ⟨rfl, hb2⟩; have B1 := Lib.hid hb2; obtain ⟨e0, e1, e2, e3⟩ := HK.out _ hb2; clear hb2) | (go_at_call 23; with_reducible refine (HX.out _ B1.out).mono ?_; rintro e w2 ⟨rfl, hb2⟩; have B2 := Lib.hid hb2; obtain ⟨f0, f1, f2, f3⟩ := HK.out _ hb2; clear hb2) | (go_at_call 23; with_reducible refine (HX.out _ B1.out.drew).mono ?_; rintro e w2 ⟨rfl, hb2⟩; have B2 := Lib.hid hb2; obtain ⟨f0, f1, f2, f3⟩ := HK.out _ hb2; clear hb2) | (go_at_call 23; with_reducible refine (HY.out _ B2.out).mono ?_; rintro e w2 ⟨rfl, hb2⟩; have B3 := Lib.hid hb2; obtain ⟨g0, g1, g2, g3⟩ := HK.out _ hb2; clear hb2) | (go_at_call 23; with_reducible refine (HY.out _ B2.out.drew).mono ?_; rintro e w2 ⟨rfl, hb2⟩; have B3 := Lib.hid hb2; obtain ⟨g0, g1, g2, g3⟩ := HK.out _ hb2; clear hb2) | (go_at_call 23; with_reducible refine (HY.out _ B1.out).mono ?_; rintro e w2 ⟨rfl, hb2⟩; have B2y := Lib.hid hb2; obtain ⟨f0, f1, f2, f3⟩ := HK.out _ hb2; clear hb2) | (go_at_call 23; with_reducible refine (HX.out _ B2y.out).mono ?_; rintro e w2 ⟨rfl, hb2⟩; have B3 := Lib.hid hb2; obtain ⟨g0, g1, g2, g3⟩ := HK.out _ hb2; clear hb2)) | fail "no")
        all_goals
          go_wp2_with fail
          go_meet
          exact ⟨rfl, HF.out _ B3.out⟩
    · have e1 := hmw.out.symm.trans (intP_in (x := -a) (by omega) (by omega))
      simp only [Prod.mk.injEq] at e1
      obtain ⟨rfl, rfl⟩ := e1
      clear hmw
      have hm1 : (a != -9223372036854775808) = true := by rw [bne_iff_ne]; exact hm
      have hw1 : IntKind.i64.wrap (-a) = -a := IntWalk.i64_in _ (by omega)
      by_cases hab : a = b
      · have hab1 : ((a : Int) == b) = true := by rw [beq_iff_eq]; exact hab
        rw [hab1] at hTT
        have Hab := Lib.hid hab
        clear hab
        go_region_held3 (fun w' => w'.cell? ⟨w1.heap.size, 0, none⟩ = some (.int .i64 s1) ∧ w'.cell? ⟨w1.heap.size, 1, none⟩ = some (.slice A1 n1 c1) ∧ w'.cell? ⟨w2.heap.size, 0, none⟩ = some (.int .i64 s2) ∧ w'.cell? ⟨w2.heap.size, 1, none⟩ = some (.slice A2 n2 c2))
          (first | exact ⟨g0, g1, g2, g3⟩ | exact ⟨f0, f1, f2, f3⟩ | exact ⟨e0, e1, e2, e3⟩ | exact ⟨zx0, zx1, zy0, zy1⟩)
          (first | (go_at_call 11; with_reducible refine (HR.out _ BD.out).mono ?_; rintro e w2 ⟨rfl, hb2⟩; have B1 := Lib.hid hb2; obtain ⟨e0, e1, e2, e3⟩ := HK.out _ hb2; clear hb2) | (go_at_call 23; with_reducible refine (HX.out _ B1.out).mono ?_; rintro e w2 ⟨rfl, hb2⟩; have B2 := Lib.hid hb2; obtain ⟨f0, f1, f2, f3⟩ := HK.out _ hb2; clear hb2) | (go_at_call 23; with_reducible refine (HX.out _ B1.out.drew).mono ?_; rintro e w2 ⟨rfl, hb2⟩; have B2 := Lib.hid hb2; obtain ⟨f0, f1, f2, f3⟩ := HK.out _ hb2; clear hb2) | (go_at_call 23; with_reducible refine (HY.out _ B2.out).mono ?_; rintro e w2 ⟨rfl, hb2⟩; have B3 := Lib.hid hb2; obtain ⟨g0, g1, g2, g3⟩ := HK.out _ hb2; clear hb2) | (go_at_call 23; with_reducible refine (HY.out _ B2.out.drew).mono ?_; rintro e w2 ⟨rfl, hb2⟩; have B3 := Lib.hid hb2; obtain ⟨g0, g1, g2, g3⟩ := HK.out _ hb2; clear hb2) | (go_at_call 23; with_reducible refine (HY.out _ B1.out).mono ?_; rintro e w2 ⟨rfl, hb2⟩; have B2y := Lib.hid hb2; obtain ⟨f0, f1, f2, f3⟩ := HK.out _ hb2; clear hb2) | (go_at_call 23; with_reducible refine (HX.out _ B2y.out).mono ?_; rintro e w2 ⟨rfl, hb2⟩; have B3 := Lib.hid hb2; obtain ⟨g0, g1, g2, g3⟩ := HK.out _ hb2; clear hb2))
        all_goals
          go_wp2_with fail
          go_meet
          exact ⟨rfl, HF.out _ B3.out⟩
      · have hab1 : ((a : Int) == b) = false := by rw [beq_eq_false_iff_ne]; exact hab
        rw [hab1] at hTT
        have Hab := Lib.hid hab
        clear hab
        go_region_held3 (fun w' => w'.cell? ⟨w1.heap.size, 0, none⟩ = some (.int .i64 s1) ∧ w'.cell? ⟨w1.heap.size, 1, none⟩ = some (.slice A1 n1 c1) ∧ w'.cell? ⟨w2.heap.size, 0, none⟩ = some (.int .i64 s2) ∧ w'.cell? ⟨w2.heap.size, 1, none⟩ = some (.slice A2 n2 c2))
          (first | exact ⟨g0, g1, g2, g3⟩ | exact ⟨f0, f1, f2, f3⟩ | exact ⟨e0, e1, e2, e3⟩ | exact ⟨zx0, zx1, zy0, zy1⟩)
          (first | (go_at_call 11; with_reducible refine (HR.out _ BD.out).mono ?_; rintro e w2 ⟨rfl, hb2⟩; have B1 := Lib.hid hb2; obtain ⟨e0, e1, e2, e3⟩ := HK.out _ hb2; clear hb2) | (go_at_call 23; with_reducible refine (HX.out _ B1.out).mono ?_; rintro e w2 ⟨rfl, hb2⟩; have B2 := Lib.hid hb2; obtain ⟨f0, f1, f2, f3⟩ := HK.out _ hb2; clear hb2) | (go_at_call 23; with_reducible refine (HX.out _ B1.out.drew).mono ?_; rintro e w2 ⟨rfl, hb2⟩; have B2 := Lib.hid hb2; obtain ⟨f0, f1, f2, f3⟩ := HK.out _ hb2; clear hb2) | (go_at_call 23; with_reducible refine (HY.out _ B2.out).mono ?_; rintro e w2 ⟨rfl, hb2⟩; have B3 := Lib.hid hb2; obtain ⟨g0, g1, g2, g3⟩ := HK.out _ hb2; clear hb2) | (go_at_call 23; with_reducible refine (HY.out _ B2.out.drew).mono ?_; rintro e w2 ⟨rfl, hb2⟩; have B3 := Lib.hid hb2; obtain ⟨g0, g1, g2, g3⟩ := HK.out _ hb2; clear hb2) | (go_at_call 23; with_reducible refine (HY.out _ B1.out).mono ?_; rintro e w2 ⟨rfl, hb2⟩; have B2y := Lib.hid hb2; obtain ⟨f0, f1, f2, f3⟩ := HK.out _ hb2; clear hb2) | (go_at_call 23; with_reducible refine (HX.out _ B2y.out).mono ?_; rintro e w2 ⟨rfl, hb2⟩; have B3 := Lib.hid hb2; obtain ⟨g0, g1, g2, g3⟩ := HK.out _ hb2; clear hb2))
        all_goals
          go_wp2_with fail
          go_meet
          exact ⟨rfl, HF.out _ B3.out⟩
  obtain ⟨rfl, S6⟩ := hcut
  clear S5 zx0 zx1 zy0 zy1 Gx Gy hszx hszy hmw
  have hord : (a < b ∧ ordZ a b = -1) ∨ (a = b ∧ ordZ a b = 0) ∨ (b < a ∧ ordZ a b = 1) := by have := ordZ_is (rfl : ordZ a b = ordZ a b); omega
  obtain ⟨o1, ho1⟩ : ∃ o1 : Int, Hid ((a < b → o1 = -1) ∧ (b ≤ a → o1 = 0)) := ⟨if a < b then -1 else 0, fun h => if_pos h, fun h => if_neg (by omega)⟩
  go_upto_if 82 with (fail)
  go_cut [12] from 80 (fun sp wc2 => sp = .int .i64 o1 ∧ wc2 = wc)
  case first =>
    by_cases h : a < b
    · have h1 := ho1.out.1 h
      go_wp2_with fail
      go_meet
      refine ⟨?_, rfl⟩
      first | rfl | (congr 1; omega)
    · have h1 := ho1.out.2 (by omega)
      go_wp2_with fail
      go_meet
      refine ⟨?_, rfl⟩
      first | rfl | (congr 1; omega)
  obtain ⟨rfl, rfl⟩ := hcut
  go_upto_if 85 with (fail)
  go_cut [12] from 83 (fun sp wc2 => sp = .int .i64 (ordZ a b) ∧ wc2 = wc)
  case first =>
    by_cases h : b < a
    · go_wp2_with fail
      go_meet
      refine ⟨?_, rfl⟩
      first | rfl | (congr 1; omega)
    · go_wp2_with fail
      go_meet
      refine ⟨?_, rfl⟩
      have h1 := ho1.out.1
      have h2 := ho1.out.2
      congr 1
      rcases Int.lt_or_le a b with h3 | h3
      · have := h1 h3
        omega
      · have := h2 h3
        omega
  obtain ⟨rfl, rfl⟩ := hcut
  clear ho1
  clear hord
  have Fx := S6.out.bx _ (List.mem_of_getElem? (i := 1) rfl)
  dsimp only at Fx
  have zx0 := Fx.1.c0
  have zx1 := Fx.1.c1
  have Gx := Lib.hid Fx.2
  clear Fx
  have Fy := S6.out.bx _ (List.mem_of_getElem? (i := 0) rfl)
  dsimp only at Fy
  have zy0 := Fy.1.c0
  have zy1 := Fy.1.c1
  have Gy := Lib.hid Fy.2
  clear Fy
  have M := Lib.hid (add_F Gx.out Gy.out (by decide) (by decide) c1 c2)
  go_wp2_with fail
  refine M.out.mono ?_
  rintro e w7 ⟨s7, A7, n7, c7, rfl, -, hg7, hf7, hb7⟩
  have S7 := Lib.hid (S6.out.made hb7 hg7 hf7 c7)
  clear hg7 hf7 hb7 M S6
  clear zx0 zx1 Gx zy0 zy1 Gy
  have Fx := S7.out.bx _ (List.mem_of_getElem? (i := 2) rfl)
  dsimp only at Fx
  have zx0 := Fx.1.c0
  have zx1 := Fx.1.c1
  have Gx := Lib.hid Fx.2
  clear Fx
  have Fy := S7.out.bx _ (List.mem_of_getElem? (i := 1) rfl)
  dsimp only at Fy
  have zy0 := Fy.1.c0
  have zy1 := Fy.1.c1
  have Gy := Lib.hid Fy.2
  clear Fy
  have M := Lib.hid (sub_F Gx.out Gy.out (by decide) (by decide) c1 c2)
  go_wp2_with fail
  refine M.out.mono ?_
  rintro e w8 ⟨s8, A8, n8, c8, rfl, -, hg8, hf8, hb8⟩
  have S8 := Lib.hid (S7.out.made hb8 hg8 hf8 c8)
  clear hg8 hf8 hb8 M S7
  clear zx0 zx1 Gx zy0 zy1 Gy
  have Fx := S8.out.bx _ (List.mem_of_getElem? (i := 3) rfl)
  dsimp only at Fx
  have zx0 := Fx.1.c0
  have zx1 := Fx.1.c1
  have Gx := Lib.hid Fx.2
  clear Fx
  have Fy := S8.out.bx _ (List.mem_of_getElem? (i := 2) rfl)
  dsimp only at Fy
  have zy0 := Fy.1.c0
  have zy1 := Fy.1.c1
  have Gy := Lib.hid Fy.2
  clear Fy
  have M := Lib.hid (mul_F Gx.out Gy.out (by decide) (by decide) c1 c2)
  go_wp2_with fail
  refine M.out.mono ?_
  rintro e w9 ⟨s9, A9, n9, c9, rfl, -, hg9, hf9, hb9⟩
  have S9 := Lib.hid (S8.out.made hb9 hg9 hf9 c9)
  clear hg9 hf9 hb9 M S8
  clear zx0 zx1 Gx zy0 zy1 Gy
  have Fx := S9.out.bx _ (List.mem_of_getElem? (i := 4) rfl)
  dsimp only at Fx
  have zx0 := Fx.1.c0
  have zx1 := Fx.1.c1
  have Gx := Lib.hid Fx.2
  clear Fx
  have Fy := S9.out.bx _ (List.mem_of_getElem? (i := 3) rfl)
  dsimp only at Fy
  have zy0 := Fy.1.c0
  have zy1 := Fy.1.c1
  have Gy := Lib.hid Fy.2
  clear Fy
  have M := Lib.hid (compare_B Gx.out Gy.out (by decide) (by decide) c1 c2 (rfl : ordZ a b = ordZ a b))
  go_wp2_with fail
  refine M.out.mono ?_
  rintro e w20 ⟨rfl, hb⟩
  have S20 := Lib.hid (S9.out.call hb)
  clear hb M S9
  clear zx0 zx1 Gx zy0 zy1 Gy
  have Fs := S20.out.bx _ (List.mem_of_getElem? (i := 2) rfl)
  dsimp only at Fs
  have zs0 := Fs.1.c0
  have zs1 := Fs.1.c1
  have Gs := Lib.hid Fs.2
  clear Fs
  by_cases g1 : -1073741824 < a
  case neg =>
    go_wp2_with fail
    go_ret
    exact ⟨rfl, S20.out.bl⟩
  by_cases g2 : a < 1073741824
  case neg =>
    go_wp2_with fail
    go_ret
    exact ⟨rfl, S20.out.bl⟩
  by_cases g3 : -1073741824 < b
  case neg =>
    go_wp2_with fail
    go_ret
    exact ⟨rfl, S20.out.bl⟩
  by_cases g4 : b < 1073741824
  case neg =>
    go_wp2_with fail
    go_ret
    exact ⟨rfl, S20.out.bl⟩
  have hab := prod_in g1 g2 g3 g4
  obtain ⟨hp0, hp1⟩ := hab
  have M := Lib.hid (int_BI Gs.out (by decide) c7 (intP_in (x := (a + b)) (by omega) (by omega)))
  go_wp2_with fail
  refine M.out.mono ?_
  rintro e w21 ⟨rfl, hb⟩
  have S21 := Lib.hid (S20.out.call hb)
  clear hb M S20 zs0 zs1 Gs
  have Fd := S21.out.bx _ (List.mem_of_getElem? (i := 1) rfl)
  dsimp only at Fd
  have zd0 := Fd.1.c0
  have zd1 := Fd.1.c1
  have Gd := Lib.hid Fd.2
  clear Fd
  have M := Lib.hid (int_BI Gd.out (by decide) c8 (intP_in (x := (a - b)) (by omega) (by omega)))
  go_wp2_with fail
  refine M.out.mono ?_
  rintro e w22 ⟨rfl, hb⟩
  have S22 := Lib.hid (S21.out.call hb)
  clear hb M S21 zd0 zd1 Gd
  have Fp := S22.out.bx _ (List.mem_of_getElem? (i := 0) rfl)
  dsimp only at Fp
  have zp0 := Fp.1.c0
  have zp1 := Fp.1.c1
  have Gp := Lib.hid Fp.2
  clear Fp
  have M := Lib.hid (int_BI Gp.out (by decide) c9 (intP_in (x := (a * b)) (by omega) (by omega)))
  go_wp2_with fail
  refine M.out.mono ?_
  rintro e w23 ⟨rfl, hb⟩
  have S23 := Lib.hid (S22.out.call hb)
  clear hb M S22 zp0 zp1 Gp
  have hwp : IntKind.i64.wrap (a * b) = a * b := IntWalk.i64_in _ (by omega)
  go_wp2_with fail
  go_ret
  exact ⟨by first | rfl | simp, S23.out.bl⟩
end Go.Proofs.YtnadnobpejccpaaDoor
