/- The walk of big's leapOf. Conditions: the leading bits are fewer than 61, and in order. -/
import Derived.Test.YtikfjmdeeknalaaGreatDoorBw
import Derived.Test.YtikfjmdeeknalaaGreatDoorG4
namespace Go.Proofs.YtikfjmdeeknalaaGreatDoor
set_option maxRecDepth 20000
open Go.RowKit

def leapV (u0 v0 u1 v1 : Int) : Array Value := #[.int .i64 u0, .int .i64 v0, .int .i64 u1, .int .i64 v1]
theorem leap_cells {w : World} {g : Nat} {u0 v0 u1 v1 : Int} (h : Blk w g 192 (leapV u0 v0 u1 v1)) : w.cell? ⟨g, 0, none⟩ = some (.int .i64 u0) ∧ w.cell? ⟨g, 1, none⟩ = some (.int .i64 v0) ∧ w.cell? ⟨g, 2, none⟩ = some (.int .i64 u1) ∧ w.cell? ⟨g, 3, none⟩ = some (.int .i64 v1) ∧
    w.frozen? ⟨g, 0, none⟩ = false ∧ w.frozen? ⟨g, 1, none⟩ = false ∧ w.frozen? ⟨g, 2, none⟩ = false ∧ w.frozen? ⟨g, 3, none⟩ = false :=
  ⟨h.cell 0, h.cell 1, h.cell 2, h.cell 3, h.frozen 0, h.frozen 1, h.frozen 2, h.frozen 3⟩
/-- A leap that is good so far, with the numbers of its last step. -/
structure LeapGood (x0 y0 u0 v0 u1 v1 x y : Int) : Prop where
  ex : ∃ s U0 V0 U1 V1, LeapSt x0 y0 s U0 V0 U1 V1 x y ∧ u0 = s * U0 ∧ v0 = -(s * V0) ∧ u1 = -(s * U1) ∧ v1 = s * V1 ∧ V1 ≤ 1073741824
  to : ∀ A B T S, Lead A B T S x0 y0 → LeapTo A B u0 v0 u1 v1
/-- What a leap is good for. -/
structure LeapFine (x0 y0 u0 v0 u1 v1 : Int) : Prop where
  u0l : -1073741824 ≤ u0
  u0h : u0 ≤ 1073741824
  v0l : -1073741824 ≤ v0
  v0h : v0 ≤ 1073741824
  u1l : -1073741824 ≤ u1
  u1h : u1 ≤ 1073741824
  v1l : -1073741824 ≤ v1
  v1h : v1 ≤ 1073741824
  det : u0 * v1 - u1 * v0 = 1 ∨ u0 * v1 - u1 * v0 = -1
  to : ∀ A B T S, Lead A B T S x0 y0 → LeapTo A B u0 v0 u1 v1
theorem LeapGood.fine {x0 y0 u0 v0 u1 v1 x y : Int} (h : LeapGood x0 y0 u0 v0 u1 v1 x y) : LeapFine x0 y0 u0 v0 u1 v1 := by
  obtain ⟨s, U0, V0, U1, V1, k, rfl, rfl, rfl, rfl, hb⟩ := h.ex
  have a0 := k.hU0
  have a1 := k.hV0
  have a2 := k.hU1
  have a3 := k.hV1
  have a4 := k.le
  have a5 := k.mo
  have a6 := k.alt
  have a7 := k.det
  have to := h.to
  rcases k.hs with rfl | rfl
  · refine ⟨by omega, by omega, by omega, by omega, by omega, by omega, by omega, by omega, .inl ?_, to⟩
    have : 1 * U0 * (1 * V1) - -(1 * U1) * -(1 * V0) = U0 * V1 - U1 * V0 := by grind
    omega
  · refine ⟨by omega, by omega, by omega, by omega, by omega, by omega, by omega, by omega, .inr ?_, to⟩
    have : -1 * U0 * (-1 * V1) - -(-1 * U1) * -(-1 * V0) = U0 * V1 - U1 * V0 := by grind
    omega
/-- How leapOf ends. -/
def LeapEnd (w : World) (x0 y0 : Int) (e : Ending) (w' : World) : Prop := ∃ u0 v0 u1 v1, e = .returned (.agg (leapV u0 v0 u1 v1)) ∧ LeapFine x0 y0 u0 v0 u1 v1 ∧ Below w.heap.size w w'
theorem sq_bound {V x x0 y : Int} (h2 : V * x ≤ x0) (h3 : V ≤ y) (h4 : y ≤ x) (h5 : x0 < 1152921504606846976) : V ≤ 1073741824 := by
  rcases Int.lt_or_le 1073741824 V with h | h
  · have a : V * V ≤ V * x := Int.mul_le_mul_of_nonneg_left (by omega) (by omega)
    have b : 1073741824 * V ≤ V * V := Int.mul_le_mul_of_nonneg_right (by omega) (by omega)
    omega
  · exact h
/-- What the walk of a round wants to know: the bounds, the signs, and when the next leap is good. -/
theorem LeapGood.round {x0 y0 u0 v0 u1 v1 x y : Int} (h : LeapGood x0 y0 u0 v0 u1 v1 x y) (hx0 : x0 < 1152921504606846976) (hy : 0 < y) :
    ∃ s : Int, (s = 1 ∨ s = -1) ∧ x ≤ x0 ∧ 1 ≤ x / y ∧ x / y ≤ x ∧ 0 ≤ x - x / y * y ∧ x - x / y * y < y ∧ 0 ≤ x / y * y ∧ x / y * y ≤ x ∧
      (s = 1 → 0 ≤ u0 ∧ v0 ≤ 0 ∧ u1 ≤ 0 ∧ 1 ≤ v1 ∧ x / y * u1 ≤ 0 ∧ 0 ≤ u0 - x / y * u1 ∧ u0 - x / y * u1 ≤ 1152921504606846976 ∧ 1 ≤ x / y * v1 ∧ x / y * v1 ≤ 1152921504606846976 ∧ v0 - x / y * v1 ≤ -1 ∧ -1152921504606846976 ≤ v0 - x / y * v1) ∧
      (s = -1 → u0 ≤ 0 ∧ 0 ≤ v0 ∧ 0 ≤ u1 ∧ v1 ≤ -1 ∧ 0 ≤ x / y * u1 ∧ u0 - x / y * u1 ≤ 0 ∧ -1152921504606846976 ≤ u0 - x / y * u1 ∧ x / y * v1 ≤ -1 ∧ -1152921504606846976 ≤ x / y * v1 ∧ 1 ≤ v0 - x / y * v1 ∧ v0 - x / y * v1 ≤ 1152921504606846976) ∧
      -1073741824 ≤ u0 ∧ u0 ≤ 1073741824 ∧ -1073741824 ≤ v0 ∧ v0 ≤ 1073741824 ∧ -1073741824 ≤ u1 ∧ u1 ≤ 1073741824 ∧ -1073741824 ≤ v1 ∧ v1 ≤ 1073741824 ∧
      (-(s * (v0 - x / y * v1)) ≤ x - x / y * y → -(s * (v0 - x / y * v1)) + s * v1 ≤ y - (x - x / y * y) → LeapGood x0 y0 u1 v1 (u0 - x / y * u1) (v0 - x / y * v1) y (x - x / y * y)) := by
  have F := h.fine
  have hto := h.to
  obtain ⟨s, U0, V0, U1, V1, k, e0, e1, e2, e3, hb⟩ := h.ex
  obtain ⟨n, n1, n2⟩ := k.step hy
  have b1 := n.bound hy
  have hid := k.id
  have hx : 0 < x := by have := k.yx; omega
  have b0 := k.bound hx
  have a0 := k.hU0
  have a1 := k.hV0
  have a2 := k.hU1
  have a3 := k.hV1
  have a4 := k.le
  have a5 := n.hU1
  have a6 := n.hV1
  have a7 := n.le
  have a8 := n.y0'
  have hVx : x ≤ V1 * x := by
    have := Int.mul_le_mul_of_nonneg_right a3 (show 0 ≤ x by omega)
    omega
  have hqx : x / y ≤ x := Int.ediv_le_self _ (by omega)
  have hqy : 0 ≤ x / y * y := Int.mul_nonneg (by omega) (by omega)
  have p1 : 0 ≤ x / y * U1 := Int.mul_nonneg (by omega) a2
  have p2 : V1 ≤ x / y * V1 := by
    have := Int.mul_le_mul_of_nonneg_right n2 (show 0 ≤ V1 by omega)
    omega
  refine ⟨s, k.hs, by omega, n2, hqx, a8, n1, hqy, by omega, ?_, ?_, F.u0l, F.u0h, F.v0l, F.v0h, F.u1l, F.u1h, F.v1l, F.v1h, ?_⟩
  · rintro rfl
    have g1 : x / y * u1 = -(x / y * U1) := by rw [e2]; generalize x / y = q; grind
    have g2 : x / y * v1 = x / y * V1 := by rw [e3]; generalize x / y = q; grind
    rw [g1, g2]
    omega
  · rintro rfl
    have g1 : x / y * u1 = x / y * U1 := by rw [e2]; generalize x / y = q; grind
    have g2 : x / y * v1 = -(x / y * V1) := by rw [e3]; generalize x / y = q; grind
    rw [g1, g2]
    omega
  · intro c1 c2
    have ss : s * s = 1 := by rcases k.hs with e | e <;> rw [e] <;> rfl
    have g1 : -(s * (v0 - x / y * v1)) = V0 + x / y * V1 := by
      rw [e1, e3]; generalize x / y = q
      have : -(s * (-(s * V0) - q * (s * V1))) = (s * s) * (V0 + q * V1) := by grind
      rw [this, ss, Int.one_mul]
    have g2 : s * v1 = V1 := by
      rw [e3]
      have : s * (s * V1) = (s * s) * V1 := by grind
      rw [this, ss, Int.one_mul]
    have g3 : u0 - x / y * u1 = s * (U0 + x / y * U1) := by rw [e0, e2]; generalize x / y = q; grind
    have g4 : v0 - x / y * v1 = -(s * (V0 + x / y * V1)) := by rw [e1, e3]; generalize x / y = q; grind
    rw [g1] at c1 c2
    rw [g2] at c2
    refine ⟨⟨-s, U1, V1, U0 + x / y * U1, V0 + x / y * V1, n, by rw [e2]; grind, by rw [e3]; grind, by rw [g3]; grind, by rw [g4]; grind, ?_⟩, fun A B T S L => ?_⟩
    · exact sq_bound b1.2 c1 (by omega) hx0
    · have := k.next L hy c1 c2 (by rw [← e0, ← e1, ← e2, ← e3]; exact hto A B T S L)
      rw [g3, g4, e2, e3]
      exact this
theorem LeapGood.start {x y : Int} (h0 : 0 ≤ y) (h1 : y ≤ x) : LeapGood x y 1 0 0 1 x y :=
  ⟨⟨1, 1, 0, 0, 1, LeapSt.start h0 h1, by omega, by omega, by omega, by omega, by omega⟩, fun _ _ _ _ _ => .inl ⟨rfl, rfl, rfl, rfl⟩⟩
theorem below_set {B g : Nat} {a w : World} (h : Below B a w) (hg : B ≤ g) (i : Nat) (u : Value) : Below B a (w.setCell ⟨g, i, none⟩ u) := h.setCell (p := ⟨g, i, none⟩) hg u
/-- The loop's state in memory: the leap so far, the result's cell. -/
structure LeapMem (w wr : World) (x0 y0 u0 v0 u1 v1 x y : Int) : Prop where
  good : LeapGood x0 y0 u0 v0 u1 v1 x y
  l : Blk wr (w.heap.size + 1) 192 (leapV u0 v0 u1 v1)
  r : Blk wr w.heap.size 192 (leapV 0 0 0 0)
  b : Below w.heap.size w wr
/-- The result's cell is filled. -/
theorem leap_end {w wx : World} {x0 y0 u0 v0 u1 v1 x y : Int} (h : LeapGood x0 y0 u0 v0 u1 v1 x y) (r : Blk wx w.heap.size 192 (leapV 0 0 0 0)) (b : Below w.heap.size w wx) :
    ∃ wf, wf = (((wx.setCell ⟨w.heap.size, 0, none⟩ (.int .i64 u0)).setCell ⟨w.heap.size, 1, none⟩ (.int .i64 v0)).setCell ⟨w.heap.size, 2, none⟩ (.int .i64 u1)).setCell ⟨w.heap.size, 3, none⟩ (.int .i64 v1) ∧
      wf.cell? ⟨w.heap.size, 0, none⟩ = some (.int .i64 u0) ∧ wf.cell? ⟨w.heap.size, 1, none⟩ = some (.int .i64 v0) ∧ wf.cell? ⟨w.heap.size, 2, none⟩ = some (.int .i64 u1) ∧ wf.cell? ⟨w.heap.size, 3, none⟩ = some (.int .i64 v1) ∧
      LeapEnd w x0 y0 (.returned (.agg (leapV u0 v0 u1 v1))) wf := by
  have K := (((r.set_ 0 (.int .i64 u0)).set_ 1 (.int .i64 v0)).set_ 2 (.int .i64 u1)).set_ 3 (.int .i64 v1)
  refine ⟨_, rfl, K.cell 0, K.cell 1, K.cell 2, K.cell 3, u0, v0, u1, v1, rfl, h.fine, ?_⟩
  repeat (refine below_set ?_ (Nat.le_refl _) _ _)
  exact b
theorem leap_end2 {w wx : World} {x0 y0 u0 v0 u1 v1 x y : Int} (h : LeapGood x0 y0 u0 v0 u1 v1 x y) (r : Blk wx w.heap.size 192 (leapV 0 0 0 0)) (b : Below w.heap.size w wx) (o : Obj) :
    ∃ wf, wf = ((((wx.setCell ⟨w.heap.size, 0, none⟩ (.int .i64 u0)).setCell ⟨w.heap.size, 1, none⟩ (.int .i64 v0)).setCell ⟨w.heap.size, 2, none⟩ (.int .i64 u1)).setCell ⟨w.heap.size, 3, none⟩ (.int .i64 v1)).alloc o ∧
      wf.cell? ⟨w.heap.size, 0, none⟩ = some (.int .i64 u0) ∧ wf.cell? ⟨w.heap.size, 1, none⟩ = some (.int .i64 v0) ∧ wf.cell? ⟨w.heap.size, 2, none⟩ = some (.int .i64 u1) ∧ wf.cell? ⟨w.heap.size, 3, none⟩ = some (.int .i64 v1) ∧
      LeapEnd w x0 y0 (.returned (.agg (leapV u0 v0 u1 v1))) wf := by
  have K := ((((r.set_ 0 (.int .i64 u0)).set_ 1 (.int .i64 v0)).set_ 2 (.int .i64 u1)).set_ 3 (.int .i64 v1)).alloc o
  refine ⟨_, rfl, K.cell 0, K.cell 1, K.cell 2, K.cell 3, u0, v0, u1, v1, rfl, h.fine, ?_⟩
  refine Below.alloc ?_ (by have := b.size; simpa using this) o
  repeat (refine below_set ?_ (Nat.le_refl _) _ _)
  exact b
/-- The next leap is stored. -/
theorem LeapMem.store {w wr : World} {x0 y0 u0 v0 u1 v1 x y n0 n1 n2 n3 x' y' : Int} (h : LeapMem w wr x0 y0 u0 v0 u1 v1 x y) (g : LeapGood x0 y0 n0 n1 n2 n3 x' y') (o : Obj) :
    LeapMem w (((((wr.setCell ⟨w.heap.size + 1, 0, none⟩ (.int .i64 n0)).setCell ⟨w.heap.size + 1, 1, none⟩ (.int .i64 n1)).setCell ⟨w.heap.size + 1, 2, none⟩ (.int .i64 n2)).setCell ⟨w.heap.size + 1, 3, none⟩ (.int .i64 n3)).alloc o) x0 y0 n0 n1 n2 n3 x' y' := by
  refine ⟨g, ?_, ?_, ?_⟩
  · have := ((((h.l.set_ 0 (.int .i64 n0)).set_ 1 (.int .i64 n1)).set_ 2 (.int .i64 n2)).set_ 3 (.int .i64 n3)).alloc o
    exact this
  · exact ((((h.r.far (p := ⟨w.heap.size + 1, 0, none⟩) (by simp) _).far (p := ⟨w.heap.size + 1, 1, none⟩) (by simp) _).far (p := ⟨w.heap.size + 1, 2, none⟩) (by simp) _).far (p := ⟨w.heap.size + 1, 3, none⟩) (by simp) _).alloc o
  · refine Below.alloc ?_ (by have := h.b.size; simpa using this) o
    repeat (refine below_set ?_ (Nat.le_succ _) _ _)
    exact h.b
set_option maxHeartbeats 8000000 in
theorem leapOf_any (x y : Int) (w : World) (hy0 : 0 ≤ y) (hyx : y ≤ x) (hx0 : x < 1152921504606846976) :
    Calls Tryz.prog 237 #[.int .i64 x, .int .i64 y] w (LeapEnd w x y) := by
  have HM0 : Hid (LeapMem w ((w.alloc (.cells (leapV 0 0 0 0) 192)).alloc (.cells (leapV 1 0 0 1) 192)) x y 1 0 0 1 x y) :=
    ⟨LeapGood.start hy0 hyx, by have := Blk.new (w.alloc (.cells (leapV 0 0 0 0) 192)) 192 (leapV 1 0 0 1); simpa using this, (Blk.new w _ _).alloc _, ((Below.refl _ _).alloc (Nat.le_refl _) _).alloc (by simp) _⟩
  have HX := Lib.hid hx0
  go_enter Tryz.func237, Tryz.ntmps237
  go_wp2_with fail
  go_loopw [0, 1] (fun s0 s1 wr => ∃ (X Y u0 v0 u1 v1 : Int), s0 = .int .i64 X ∧ s1 = .int .i64 Y ∧ 0 ≤ Y ∧ Y ≤ X ∧ X < 1152921504606846976 ∧ Hid (LeapMem w wr x y u0 v0 u1 v1 X Y)) (fun _ s1 _ => (RowKit.intOf s1).toNat)
  case atStart => exact ⟨x, y, 1, 0, 0, 1, rfl, rfl, hy0, hyx, hx0, HM0⟩
  case round =>
    clear HM0
    obtain ⟨X, Y, u0, v0, u1, v1, rfl, rfl, hY0, hYX, hXX, HM⟩ := hrel
    obtain ⟨q0, q1, q2, q3, f0, f1, f2, f3⟩ := leap_cells HM.out.l
    obtain ⟨r0, r1, r2, r3, e0, e1, e2, e3⟩ := leap_cells HM.out.r
    have hsz := HM.out.l.lt
    have hsz0 := HM.out.r.lt
    by_cases h0 : Y = 0
    · subst h0
      go_wp2_with fail
      (try simp only [Exit.inBlock, Exit.then])
      obtain ⟨wf, hwf, k0, k1, k2, k3, kE⟩ := leap_end HM.out.good HM.out.r HM.out.b
      rw [← hwf]
      clear hwf
      exact bodyPost_ret (v := .agg (leapV u0 v0 u1 v1)) (by simp [results, Tryz.results237, go_sem, leapV, k0, k1, k2, k3]) rfl kE
    · obtain ⟨s, hs, c0, c1, c2, c3, c4, c5, c6, cp, cn, b0, b1, b2, b3, b4, b5, b6, b7, hnext⟩ := HM.out.good.round HX.out (show 0 < Y by omega)
      have HN := Lib.hid hnext
      clear hnext
      have hY1 : 0 < Y := by omega
      rcases hs with rfl | rfl
      · obtain ⟨d0, d1, d2, d3, d4, d5, d6, d7, d8, d9, d10⟩ := cp rfl
        clear cp cn
        by_cases t1 : X - X / Y * Y < -(v0 - X / Y * v1)
        · go_wp2_with fail
          (try simp only [Exit.inBlock, Exit.then])
          obtain ⟨wf, hwf, k0, k1, k2, k3, kE⟩ := leap_end2 HM.out.good HM.out.r HM.out.b (.cells #[.int .i64 u1, .int .i64 v1, .int .i64 (u0 - X / Y * u1), .int .i64 (v0 - X / Y * v1)] 192)
          rw [← hwf]
          clear hwf
          exact bodyPost_ret (v := .agg (leapV u0 v0 u1 v1)) (by simp [results, Tryz.results237, go_sem, leapV, k0, k1, k2, k3]) rfl kE
        · have t2 : decide (X - X / Y * Y < -(v0 - X / Y * v1)) = false := decide_eq_false t1
          by_cases t3 : Y - (X - X / Y * Y) < v1 - (v0 - X / Y * v1)
          · go_wp2_with fail
            (try simp only [Exit.inBlock, Exit.then])
            obtain ⟨wf, hwf, k0, k1, k2, k3, kE⟩ := leap_end2 HM.out.good HM.out.r HM.out.b (.cells #[.int .i64 u1, .int .i64 v1, .int .i64 (u0 - X / Y * u1), .int .i64 (v0 - X / Y * v1)] 192)
            rw [← hwf]
            clear hwf
            exact bodyPost_ret (v := .agg (leapV u0 v0 u1 v1)) (by simp [results, Tryz.results237, go_sem, leapV, k0, k1, k2, k3]) rfl kE
          · have t4 : decide (Y - (X - X / Y * Y) < v1 - (v0 - X / Y * v1)) = false := decide_eq_false t3
            have HG : Hid (LeapGood x y u1 v1 (u0 - X / Y * u1) (v0 - X / Y * v1) Y (X - X / Y * Y)) := HN.out (by omega) (by omega)
            clear HN t1 t3
            go_wp2_with fail
            go_roundw
            case rel => exact ⟨Y, X - X / Y * Y, u1, v1, u0 - X / Y * u1, v0 - X / Y * v1, rfl, rfl, c3, by omega, by omega, HM.out.store HG.out _⟩
            case measure => simp [RowKit.intOf]; omega
      · obtain ⟨d0, d1, d2, d3, d4, d5, d6, d7, d8, d9, d10⟩ := cn rfl
        clear cp cn
        by_cases t1 : X - X / Y * Y < v0 - X / Y * v1
        · go_wp2_with fail
          (try simp only [Exit.inBlock, Exit.then])
          obtain ⟨wf, hwf, k0, k1, k2, k3, kE⟩ := leap_end2 HM.out.good HM.out.r HM.out.b (.cells #[.int .i64 u1, .int .i64 v1, .int .i64 (u0 - X / Y * u1), .int .i64 (v0 - X / Y * v1)] 192)
          rw [← hwf]
          clear hwf
          exact bodyPost_ret (v := .agg (leapV u0 v0 u1 v1)) (by simp [results, Tryz.results237, go_sem, leapV, k0, k1, k2, k3]) rfl kE
        · have t2 : decide (X - X / Y * Y < v0 - X / Y * v1) = false := decide_eq_false t1
          by_cases t3 : Y - (X - X / Y * Y) < v0 - X / Y * v1 - v1
          · go_wp2_with fail
            (try simp only [Exit.inBlock, Exit.then])
            obtain ⟨wf, hwf, k0, k1, k2, k3, kE⟩ := leap_end2 HM.out.good HM.out.r HM.out.b (.cells #[.int .i64 u1, .int .i64 v1, .int .i64 (u0 - X / Y * u1), .int .i64 (v0 - X / Y * v1)] 192)
            rw [← hwf]
            clear hwf
            exact bodyPost_ret (v := .agg (leapV u0 v0 u1 v1)) (by simp [results, Tryz.results237, go_sem, leapV, k0, k1, k2, k3]) rfl kE
          · have t4 : decide (Y - (X - X / Y * Y) < v0 - X / Y * v1 - v1) = false := decide_eq_false t3
            have HG : Hid (LeapGood x y u1 v1 (u0 - X / Y * u1) (v0 - X / Y * v1) Y (X - X / Y * Y)) := HN.out (by omega) (by omega)
            clear HN t1 t3
            go_wp2_with fail
            go_roundw
            case rel => exact ⟨Y, X - X / Y * Y, u1, v1, u0 - X / Y * u1, v0 - X / Y * v1, rfl, rfl, c3, by omega, by omega, HM.out.store HG.out _⟩
            case measure => simp [RowKit.intOf]; omega
end Go.Proofs.YtikfjmdeeknalaaGreatDoor
