/- The walk of big's apply. Conditions: lengths; the leap's numbers are below 2^30; the results are not negative and have room. -/
import Derived.Test.YtikfjmdeeknalaaGreatDoorG5
import Derived.Test.YtikfjmdeeknalaaGreatDoorG6
namespace Go.Proofs.YtikfjmdeeknalaaGreatDoor
set_option maxRecDepth 20000
open Go.RowKit

/-- A row that is written from its beginning. -/
def memL (out l : List Nat) (m i : Nat) : List Nat := out.take m ++ l.drop i
theorem memL_len {out l : List Nat} {m i : Nat} (ho : out.length = i) (hl : l.length = m) : (memL out l m i).length = m := by
  unfold memL
  rw [List.length_append, List.length_take, List.length_drop]
  omega
theorem memL_nil {l : List Nat} {m : Nat} : memL [] l m 0 = l := by simp [memL]
theorem memL_at {out l : List Nat} {m i : Nat} (ho : out.length = i) (hi : i < m) : (memL out l m i)[i]? = l[i]? := by
  unfold memL
  rw [List.take_of_length_le (by omega), List.getElem?_append_right (by omega), ho, Nat.sub_self, List.getElem?_drop, Nat.add_zero]
theorem memL_dg {out l : List Nat} {m i : Nat} (ho : out.length = i) (hl : l.length = m) : dg (memL out l m i) i = dg l i := by
  rcases Nat.lt_or_ge i m with h | h
  · unfold dg List.getD
    rw [memL_at ho h]
  · rw [dg_out (by rw [memL_len ho hl]; exact h), dg_out (by omega)]
theorem memL_set {out l : List Nat} {m i : Nat} (ho : out.length = i) (hl : l.length = m) (hi : i < m) (d : Nat) : (memL out l m i).set i d = memL (out ++ [d]) l m (i + 1) := by
  unfold memL
  rw [List.take_of_length_le (by omega), List.take_of_length_le (by rw [List.length_append]; simp; omega), List.set_append_right _ _ (by omega), ho, Nat.sub_self]
  have e : l.drop i = l[i] :: l.drop (i + 1) := List.drop_eq_getElem_cons (by omega)
  rw [e, List.set_cons_zero, List.append_assoc]
  rfl
theorem memL_past {out l : List Nat} {m i : Nat} (ho : out.length = i) (hl : l.length = m) (hi : m ≤ i) (d : Nat) : memL out l m i = memL (out ++ [d]) l m (i + 1) := by
  unfold memL
  rw [List.drop_of_length_le (by omega), List.drop_of_length_le (by omega), List.take_append_of_le_length (by omega)]
/-- The state of apply's loop. -/
structure ApSt (w wr : World) (u0 v0 u1 v1 : Int) (a b : List Nat) (ga gb i : Nat) (o0 o1 : List Nat) (c0 c1 : Int) : Prop where
  L0 : LinSt u0 v0 a b i o0 c0
  L1 : LinSt u1 v1 a b i o1 c1
  D0 : Dig wr ga (memL o0 a a.length i)
  D1 : Dig wr gb (memL o1 b b.length i)
  K : Blk wr w.heap.size 192 (leapV u0 v0 u1 v1)
  bel : ∀ X, X ≤ ga → X ≤ gb → X ≤ w.heap.size → Below X w wr
def nx (c u v : Int) (x y : Nat) : Int := c + (u * (x : Int) + v * (y : Int))
theorem ApSt.first {w wr : World} {u0 v0 u1 v1 c0 c1 : Int} {a b o0 o1 : List Nat} {ga gb i x y : Nat} {X0 Y0 : Int} (h : ApSt w wr u0 v0 u1 v1 a b ga gb i o0 o1 c0 c1) (F : LeapFine X0 Y0 u0 v0 u1 v1) (s1 : Sml a) (s2 : Sml b) (hx : dg a i = x) (hy : y = dg b i) (hne : ga ≠ gb) (hi : i < a.length) (hw : ga < w.heap.size) :
    LinSt u0 v0 a b (i + 1) (o0 ++ [(nx c0 u0 v0 x y % 1048576).toNat]) (nx c0 u0 v0 x y / 1048576) ∧ LinSt u1 v1 a b (i + 1) (o1 ++ [(nx c1 u1 v1 x y % 1048576).toNat]) (nx c1 u1 v1 x y / 1048576) ∧
      Dig (wr.setCell ⟨ga, i, none⟩ (.int .i64 (nx c0 u0 v0 x y % 1048576))) ga (memL (o0 ++ [(nx c0 u0 v0 x y % 1048576).toNat]) a a.length (i + 1)) ∧ Dig (wr.setCell ⟨ga, i, none⟩ (.int .i64 (nx c0 u0 v0 x y % 1048576))) gb (memL o1 b b.length i) ∧
      Blk (wr.setCell ⟨ga, i, none⟩ (.int .i64 (nx c0 u0 v0 x y % 1048576))) w.heap.size 192 (leapV u0 v0 u1 v1) ∧ ∀ X, X ≤ ga → X ≤ gb → X ≤ w.heap.size → Below X w (wr.setCell ⟨ga, i, none⟩ (.int .i64 (nx c0 u0 v0 x y % 1048576))) := by
  have st0 := h.L0.step F.u0l F.u0h F.v0l F.v0h s1 s2
  have st1 := h.L1.step F.u1l F.u1h F.v1l F.v1h s1 s2
  rw [hx, ← hy] at st0 st1
  refine ⟨st0, st1, ?_, h.D1.other (p := ⟨ga, i, none⟩) (fun e => hne e.symm) _, h.K.far (p := ⟨ga, i, none⟩) (by show w.heap.size ≠ ga; omega) _, fun X h1 h2 h3 => (h.bel X h1 h2 h3).setCell (p := ⟨ga, i, none⟩) h1 _⟩
  have d := h.D0.setI i (v := nx c0 u0 v0 x y % 1048576) (Int.emod_nonneg _ (by decide))
  rw [memL_set h.L0.len rfl hi] at d
  exact d
theorem ApSt.both {w wr : World} {u0 v0 u1 v1 c0 c1 : Int} {a b o0 o1 : List Nat} {ga gb i x y : Nat} {X0 Y0 : Int} (h : ApSt w wr u0 v0 u1 v1 a b ga gb i o0 o1 c0 c1) (F : LeapFine X0 Y0 u0 v0 u1 v1) (s1 : Sml a) (s2 : Sml b) (hx : dg a i = x) (hy : y = dg b i) (hne : ga ≠ gb) (hi : i < a.length) (him : i < b.length) (hw : ga < w.heap.size) (hw2 : gb < w.heap.size) :
    ApSt w ((wr.setCell ⟨ga, i, none⟩ (.int .i64 (nx c0 u0 v0 x y % 1048576))).setCell ⟨gb, i, none⟩ (.int .i64 (nx c1 u1 v1 x y % 1048576))) u0 v0 u1 v1 a b ga gb (i + 1) (o0 ++ [(nx c0 u0 v0 x y % 1048576).toNat]) (o1 ++ [(nx c1 u1 v1 x y % 1048576).toNat]) (nx c0 u0 v0 x y / 1048576) (nx c1 u1 v1 x y / 1048576) := by
  obtain ⟨g1, g2, g3, g4, g5, g6⟩ := h.first F s1 s2 hx hy hne hi hw
  refine ⟨g1, g2, g3.other (p := ⟨gb, i, none⟩) hne _, ?_, g5.far (p := ⟨gb, i, none⟩) (by show w.heap.size ≠ gb; omega) _, fun X h1 h2 h3 => (g6 X h1 h2 h3).setCell (p := ⟨gb, i, none⟩) h2 _⟩
  have d := g4.setI i (v := nx c1 u1 v1 x y % 1048576) (Int.emod_nonneg _ (by decide))
  rw [memL_set h.L1.len rfl him] at d
  exact d
theorem ApSt.one {w wr : World} {u0 v0 u1 v1 c0 c1 : Int} {a b o0 o1 : List Nat} {ga gb i x y : Nat} {X0 Y0 : Int} (h : ApSt w wr u0 v0 u1 v1 a b ga gb i o0 o1 c0 c1) (F : LeapFine X0 Y0 u0 v0 u1 v1) (s1 : Sml a) (s2 : Sml b) (hx : dg a i = x) (hy : y = dg b i) (hne : ga ≠ gb) (hi : i < a.length) (him : b.length ≤ i) (hw : ga < w.heap.size) :
    ApSt w (wr.setCell ⟨ga, i, none⟩ (.int .i64 (nx c0 u0 v0 x y % 1048576))) u0 v0 u1 v1 a b ga gb (i + 1) (o0 ++ [(nx c0 u0 v0 x y % 1048576).toNat]) (o1 ++ [(nx c1 u1 v1 x y % 1048576).toNat]) (nx c0 u0 v0 x y / 1048576) (nx c1 u1 v1 x y / 1048576) := by
  obtain ⟨g1, g2, g3, g4, g5, g6⟩ := h.first F s1 s2 hx hy hne hi hw
  refine ⟨g1, g2, g3, ?_, g5, g6⟩
  rw [memL_past h.L1.len rfl him (nx c1 u1 v1 x y % 1048576).toNat] at g4
  exact g4
/-- How apply ends. -/
def ApEnd (w : World) (ga gb ca cb va vb : Nat) (e : Ending) (w' : World) : Prop := ∃ la lb, e = .returned (.tuple #[.slice (some ⟨ga, 0, none⟩) la.length ca, .slice (some ⟨gb, 0, none⟩) lb.length cb]) ∧ Norm la ∧ Norm lb ∧ dval la = va ∧ dval lb = vb ∧
  la.length ≤ ca ∧ lb.length ≤ cb ∧ Dig w' ga la ∧ Dig w' gb lb ∧ ∀ X, X ≤ ga → X ≤ gb → X ≤ w.heap.size → Below X w w'
set_option maxHeartbeats 8000000 in
theorem apply_any (ga gb n m ca cb va vb : Nat) (a b : List Nat) (u0 v0 u1 v1 : Int) (w : World) (h1 : Dig w ga a) (h2 : Dig w gb b) (l1 : a.length = n) (l2 : b.length = m) (hmn : m ≤ n) (hne : ga ≠ gb) (s1 : Sml a) (s2 : Sml b)
    {x0 y0 : Int} (hF : LeapFine x0 y0 u0 v0 u1 v1) (e1 : (va : Int) = u0 * dval a + v0 * dval b) (e2 : (vb : Int) = u1 * dval a + v1 * dval b) (ha : va < 1048576 ^ n) (hb : vb < 1048576 ^ m) (hca : n ≤ ca) (hcb : m ≤ cb) (hn : n ≤ 1000000) :
    Calls Tryz.prog 239 #[.agg (leapV u0 v0 u1 v1), .slice (some ⟨ga, 0, none⟩) n ca, .slice (some ⟨gb, 0, none⟩) m cb] w (ApEnd w ga gb ca cb va vb) := by
  have HFF := Lib.hid hF
  obtain ⟨f0, f1, f2, f3, f4, f5, f6, f7, -, -⟩ := hF
  have hga := h1.lt
  have hgb := h2.lt
  have H0 : Hid (ApSt w (w.alloc (.cells (leapV u0 v0 u1 v1) 192)) u0 v0 u1 v1 a b ga gb 0 [] [] 0 0) :=
    ⟨LinSt.new _ _ _ _, LinSt.new _ _ _ _, by rw [memL_nil]; exact h1.alloc _, by rw [memL_nil]; exact h2.alloc _, Blk.new _ _ _, fun X _ _ hX => ((Below.refl _ _).alloc hX _)⟩
  have HL1 := Lib.hid l1
  have HL2 := Lib.hid l2
  have HS1 := Lib.hid s1
  have HS2 := Lib.hid s2
  have HE1 := Lib.hid e1
  have HE2 := Lib.hid e2
  have HA := Lib.hid ha
  have HB := Lib.hid hb
  have hand := and_mask
  clear h1 h2 l1 l2 s1 s2 e1 e2 ha hb
  go_enter Tryz.func239, Tryz.ntmps239
  go_wp2_with fail
  go_loopw [8, 9, 15] (fun s8 s9 s15 wr => ∃ (i : Nat) (o0 o1 : List Nat) (c0 c1 : Int), s8 = .int .i64 c0 ∧ s9 = .int .i64 c1 ∧ s15 = .int .i64 (i : Int) ∧ i ≤ n ∧ -4294967296 ≤ c0 ∧ c0 ≤ 4294967296 ∧ -4294967296 ≤ c1 ∧ c1 ≤ 4294967296 ∧ Hid (ApSt w wr u0 v0 u1 v1 a b ga gb i o0 o1 c0 c1)) (fun _ _ s15 _ => n - (RowKit.intOf s15).toNat)
  case atStart => exact ⟨0, [], [], 0, 0, rfl, rfl, rfl, Nat.zero_le _, by omega, by omega, by omega, by omega, H0⟩
  case round =>
    clear H0
    obtain ⟨i, o0, o1, c0, c1, rfl, rfl, rfl, hi, z0, z1, z2, z3, HP⟩ := hrel
    by_cases hlt : i < n
    · have hic : (i : Int) < (n : Int) := by omega
      obtain ⟨x, hx⟩ : ∃ x, a[i]? = some x := ⟨_, List.getElem?_eq_getElem (by rw [HL1.out]; exact hlt)⟩
      have hxd := dg_at hx
      have g1 := HP.out.D0.cell ((memL_at HP.out.L0.len (by rw [HL1.out]; exact hlt)).trans hx)
      have gf := HP.out.D0.frozen i
      obtain ⟨q0, q1, q2, q3, -⟩ := leap_cells HP.out.K
      have hxl := HS1.out.at_ hx
      have hyl := dg_lt HS2.out i
      obtain ⟨y, hy⟩ : ∃ y, y = dg b i := ⟨_, rfl⟩
      have hrd := HP.out.D1.reads (memL_len HP.out.L1.len rfl) (Nat.lt_succ_self _)
      rw [HL2.out] at hrd
      have c := digit_any (some ⟨gb, 0, none⟩) m cb (gb + 1) i _ wr hrd
      have hdg := memL_dg (out := o1) (l := b) (m := m) (i := i) HP.out.L1.len HL2.out
      rw [hdg, ← hy] at c
      rw [← hy] at hyl
      have C := Lib.hid c
      have HX := Lib.hid hxd
      have HY := Lib.hid hy
      have b0 := mul_bd f0 f1 (x := (x : Int)) (by omega) (by omega)
      have b1 := mul_bd f2 f3 (x := (y : Int)) (by omega) (by omega)
      have b2 := mul_bd f4 f5 (x := (x : Int)) (by omega) (by omega)
      have b3 := mul_bd f6 f7 (x := (y : Int)) (by omega) (by omega)
      obtain ⟨b01, b02⟩ := b0
      obtain ⟨b11, b12⟩ := b1
      obtain ⟨b21, b22⟩ := b2
      obtain ⟨b31, b32⟩ := b3
      clear hx hxd c hdg hy hrd
      by_cases him : i < m
      · have hmc : (i : Int) < (m : Int) := by omega
        have gf2 := HP.out.D1.frozen i
        obtain ⟨x2, hx2⟩ : ∃ x, b[i]? = some x := ⟨_, List.getElem?_eq_getElem (by rw [HL2.out]; exact him)⟩
        have g2 := HP.out.D1.cell ((memL_at HP.out.L1.len (by rw [HL2.out]; exact him)).trans hx2)
        clear hx2
        go_wp2_with fail
        refine C.out.mono ?_
        rintro e w' ⟨rfl, rfl⟩
        go_wp2_with fail
        go_roundw
        case rel =>
          have S := HP.out.both HFF.out HS1.out HS2.out HX.out HY.out hne (by rw [HL1.out]; exact hlt) (by rw [HL2.out]; exact him) hga hgb
          exact ⟨i + 1, _, _, _, _, rfl, rfl, by go_num, by omega, S.L0.lo, S.L0.hi, S.L1.lo, S.L1.hi, S⟩
        case measure => simp [RowKit.intOf]; omega
      · have hmc : decide (i < m) = false := decide_eq_false him
        go_wp2_with fail
        refine C.out.mono ?_
        rintro e w' ⟨rfl, rfl⟩
        go_wp2_with fail
        go_roundw
        case rel =>
          have S := HP.out.one HFF.out HS1.out HS2.out HX.out HY.out hne (by rw [HL1.out]; exact hlt) (by rw [HL2.out]; omega) hga
          exact ⟨i + 1, _, _, _, _, rfl, rfl, by go_num, by omega, S.L0.lo, S.L0.hi, S.L1.lo, S.L1.hi, S⟩
        case measure => simp [RowKit.intOf]; omega
    · obtain rfl : i = n := by omega
      have HR0 := HP.out.L0.done HL1.out (by rw [HL2.out]; exact hmn) HE1.out (Nat.le_refl _) HA.out
      have HR1 := HP.out.L1.done HL1.out (by rw [HL2.out]; exact hmn) HE2.out hmn HB.out
      have m0 : memL o0 a a.length i = o0.take i := by unfold memL; rw [List.drop_of_length_le (by rw [HL1.out]; omega), List.append_nil, HL1.out]
      have m1 : memL o1 b b.length i = o1.take m := by unfold memL; rw [List.drop_of_length_le (by rw [HL2.out]; omega), List.append_nil, HL2.out]
      have D0 := HP.out.D0
      have D1 := HP.out.D1
      rw [m0] at D0
      rw [m1] at D1
      have l0 : (o0.take i).length = i := by rw [List.length_take, HP.out.L0.len]; omega
      have l1 : (o1.take m).length = m := by rw [List.length_take, HP.out.L1.len]; omega
      generalize o0.take i = E0 at *
      generalize o1.take m = E1 at *
      have HD0 := Lib.hid D0
      have HD1 := Lib.hid D1
      have HV0 := Lib.hid HR0
      have HV1 := Lib.hid HR1
      have HM0 := Lib.hid l0
      have HM1 := Lib.hid l1
      have T0 := Lib.hid (trim_any (some ⟨ga, 0, none⟩) i ca (ga + 1) E0 wr (HD0.out.reads HM0.out (Nat.lt_succ_self _)) hca (by omega))
      have T1 := Lib.hid (trim_any (some ⟨gb, 0, none⟩) m cb (gb + 1) E1 wr (HD1.out.reads HM1.out (Nat.lt_succ_self _)) hcb (by omega))
      clear HR0 HR1 m0 m1 D0 D1 l0 l1
      go_wp2_with fail
      refine T0.out.mono ?_
      rintro e w' ⟨rfl, k0, hk0, rfl, n0, v0'⟩
      have N0 := Lib.hid n0
      have V0 := Lib.hid v0'
      clear n0 v0'
      go_wp2_with fail
      refine T1.out.mono ?_
      rintro e w' ⟨rfl, k1, hk1, rfl, n1, v1'⟩
      have N1 := Lib.hid n1
      have V1 := Lib.hid v1'
      clear n1 v1'
      have t0 : (E0.take k0).length = k0 := by rw [List.length_take, HM0.out]; omega
      have t1 : (E1.take k1).length = k1 := by rw [List.length_take, HM1.out]; omega
      have HF : Hid (ApEnd w ga gb ca cb va vb (.returned (.tuple #[.slice (some ⟨ga, 0, none⟩) k0 ca, .slice (some ⟨gb, 0, none⟩) k1 cb])) wr) :=
        ⟨E0.take k0, E1.take k1, by rw [t0, t1], ⟨HV0.out.2.take _, N0.out⟩, ⟨HV1.out.2.take _, N1.out⟩, V0.out.trans HV0.out.1, V1.out.trans HV1.out.1, by rw [t0]; omega, by rw [t1]; omega, HD0.out.take k0, HD1.out.take k1, HP.out.bel⟩
      clear t0 t1
      go_wp2_with fail
      go_ret2
      exact HF.out
end Go.Proofs.YtikfjmdeeknalaaGreatDoor
