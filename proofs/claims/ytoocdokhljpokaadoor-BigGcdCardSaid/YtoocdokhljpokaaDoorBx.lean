/- The walks of big's Add, Sub, Mul at right big integers. Conditions: lengths. -/
import Derived.Test.YtoocdokhljpokaaDoorBv
namespace Go.Proofs.YtoocdokhljpokaaDoor
set_option maxRecDepth 8000
open Go.RowKit

/-- How a function ends that returns a right big integer, and OK. -/
def BigOk (w : World) (x : Int) (e : Ending) (w' : World) : Prop :=
  ∃ s l A c, e = .returned (.tuple #[.agg #[.int .i64 s, .slice A l.length c], .int .i64 0]) ∧ l.length ≤ c ∧ Rep s l x ∧ Reads w' w'.heap.size 1 A l.length (dv l) ∧ (0 < l.length → ∀ ad, A = some ad → w.heap.size ≤ ad.block) ∧ Below w.heap.size w w'
theorem BigEnd.ok {w w' : World} {v : Value} {x : Int} (h : BigEnd w x (.returned v) w') : BigOk w x (.returned (.tuple #[v, .int .i64 0])) w' := by
  obtain ⟨s, l, A, c, h1, h2⟩ := h
  cases h1
  exact ⟨s, l, A, c, rfl, h2⟩
theorem dv_read {w : World} {B n : Nat} {A : Option Addr} {l : List Nat} (h : Reads w B 1 A n (dv l)) : Reads w B 1 A n (iv (l.map fun d : Nat => (d : Int))) := by rw [← dv_iv]; exact h
theorem Norm.fit {l : List Nat} (h : Norm l) : Fit (l.map fun d : Nat => (d : Int)) := fun d hd => by
  obtain ⟨k, hk, rfl⟩ := List.mem_map.1 hd
  have := h.1 k hk
  omega
/-- Right at a right big integer. -/
theorem right_rep {s x : Int} {l : List Nat} (hr : Rep s l x) (A : Option Addr) (n c B : Nat) (w : World) (h : Reads w B 1 A n (dv l)) (hn : n ≤ 1073741824) :
    Calls Tryd.prog 6 #[.agg #[.int .i64 s, .slice A n c]] w fun e w' => e = .returned (.bool true) ∧ Below w.heap.size w w' := by
  have := Right_any s A n c B _ w (dv_read h) hr.norm.fit hn
  rw [rep_rightB hr] at this
  exact this
/-- The boxes of two arguments and a result. -/
structure Three (w w' : World) (s1 : Int) (A1 : Option Addr) (n1 c1 : Nat) (s2 : Int) (A2 : Option Addr) (n2 c2 : Nat) : Prop where
  k1 : Blk w' w.heap.size 24 #[.int .i64 s1, .slice A1 n1 c1]
  k2 : Blk w' (w.heap.size + 1) 24 #[.int .i64 s2, .slice A2 n2 c2]
  k3 : Blk w' (w.heap.size + 1 + 1) 24 #[.int .i64 0, .slice none 0 0]
  bl : Below w.heap.size w w'
theorem Three.new (w : World) (s1 : Int) (A1 : Option Addr) (n1 c1 : Nat) (s2 : Int) (A2 : Option Addr) (n2 c2 : Nat) :
    Three w (((w.alloc (.cells #[.int .i64 s1, .slice A1 n1 c1] 24)).alloc (.cells #[.int .i64 s2, .slice A2 n2 c2] 24)).alloc (.cells #[.int .i64 0, .slice none 0 0] 24)) s1 A1 n1 c1 s2 A2 n2 c2 := by
  refine ⟨((Blk.new w _ _).alloc _).alloc _, ?_, ?_, (((Below.refl _ _).alloc (Nat.le_refl _) _).alloc (by simp) _).alloc (by simp; omega) _⟩
  · have := (Blk.new (w.alloc (.cells #[.int .i64 s1, .slice A1 n1 c1] 24)) 24 #[.int .i64 s2, .slice A2 n2 c2]).alloc (.cells #[.int .i64 0, .slice none 0 0] 24)
    simpa using this
  · have := Blk.new ((w.alloc (.cells #[.int .i64 s1, .slice A1 n1 c1] 24)).alloc (.cells #[.int .i64 s2, .slice A2 n2 c2] 24)) 24 #[.int .i64 0, .slice none 0 0]
    simpa using this
section
variable {w w' w2 : World} {s1 : Int} {A1 : Option Addr} {n1 c1 : Nat} {s2 : Int} {A2 : Option Addr} {n2 c2 : Nat}
theorem Three.past (h : Three w w' s1 A1 n1 c1 s2 A2 n2 c2) (hb : Below w'.heap.size w' w2) : Three w w2 s1 A1 n1 c1 s2 A2 n2 c2 :=
  ⟨h.k1.below hb h.k1.lt, h.k2.below hb h.k2.lt, h.k3.below hb h.k3.lt, h.bl.trans (hb.mono h.bl.size)⟩
theorem Three.drewN (h : Three w w' s1 A1 n1 c1 s2 A2 n2 c2) (n : Nat) : Three w (w'.drewN n) s1 A1 n1 c1 s2 A2 n2 c2 := h.past (below_drewN (Below.refl _ _) n)
theorem Three.drew (h : Three w w' s1 A1 n1 c1 s2 A2 n2 c2) : Three w w'.drew s1 A1 n1 c1 s2 A2 n2 c2 := h.past (Below.refl _ _).drew
/-- What the walk reads. -/
def ThreeC (w w' : World) (s1 : Int) (A1 : Option Addr) (n1 c1 : Nat) (s2 : Int) (A2 : Option Addr) (n2 c2 : Nat) : Prop :=
  w'.cell? ⟨w.heap.size, 0, none⟩ = some (.int .i64 s1) ∧ w'.cell? ⟨w.heap.size, 1, none⟩ = some (.slice A1 n1 c1) ∧ w'.cell? ⟨w.heap.size + 1, 0, none⟩ = some (.int .i64 s2) ∧ w'.cell? ⟨w.heap.size + 1, 1, none⟩ = some (.slice A2 n2 c2) ∧
    w'.cell? ⟨w.heap.size + 1 + 1, 0, none⟩ = some (.int .i64 0) ∧ w'.cell? ⟨w.heap.size + 1 + 1, 1, none⟩ = some (.slice none 0 0) ∧ w'.frozen? ⟨w.heap.size + 1 + 1, 0, none⟩ = false ∧ w'.frozen? ⟨w.heap.size + 1 + 1, 1, none⟩ = false
theorem Three.cells (h : Three w w' s1 A1 n1 c1 s2 A2 n2 c2) : ThreeC w w' s1 A1 n1 c1 s2 A2 n2 c2 :=
  ⟨(h.k1.cell 0).trans rfl, (h.k1.cell 1).trans rfl, (h.k2.cell 0).trans rfl, (h.k2.cell 1).trans rfl, (h.k3.cell 0).trans rfl, (h.k3.cell 1).trans rfl, h.k3.frozen 0, h.k3.frozen 1⟩
/-- The boxes of the arguments stand when the result is stored. -/
theorem Three.held (h : Three w w' s1 A1 n1 c1 s2 A2 n2 c2) (u v : Value) :
    ((w'.setCell ⟨w.heap.size + 1 + 1, 0, none⟩ u).setCell ⟨w.heap.size + 1 + 1, 1, none⟩ v).cell? ⟨w.heap.size, 0, none⟩ = some (.int .i64 s1) ∧ ((w'.setCell ⟨w.heap.size + 1 + 1, 0, none⟩ u).setCell ⟨w.heap.size + 1 + 1, 1, none⟩ v).cell? ⟨w.heap.size, 1, none⟩ = some (.slice A1 n1 c1) ∧
      ((w'.setCell ⟨w.heap.size + 1 + 1, 0, none⟩ u).setCell ⟨w.heap.size + 1 + 1, 1, none⟩ v).cell? ⟨w.heap.size + 1, 0, none⟩ = some (.int .i64 s2) ∧ ((w'.setCell ⟨w.heap.size + 1 + 1, 0, none⟩ u).setCell ⟨w.heap.size + 1 + 1, 1, none⟩ v).cell? ⟨w.heap.size + 1, 1, none⟩ = some (.slice A2 n2 c2) := by
  have q1 := (h.k1.far (p := ⟨w.heap.size + 1 + 1, 0, none⟩) (by show _ ≠ w.heap.size + 1 + 1; omega) u).far (p := ⟨w.heap.size + 1 + 1, 1, none⟩) (by show _ ≠ w.heap.size + 1 + 1; omega) v
  have q2 := (h.k2.far (p := ⟨w.heap.size + 1 + 1, 0, none⟩) (by show _ ≠ w.heap.size + 1 + 1; omega) u).far (p := ⟨w.heap.size + 1 + 1, 1, none⟩) (by show _ ≠ w.heap.size + 1 + 1; omega) v
  exact ⟨(q1.cell 0).trans rfl, (q1.cell 1).trans rfl, (q2.cell 0).trans rfl, (q2.cell 1).trans rfl⟩
/-- A result that is stored in its box. -/
theorem Three.stored (h : Three w w' s1 A1 n1 c1 s2 A2 n2 c2) {x s : Int} {l : List Nat} {A : Option Addr} {c : Nat} (hne : 0 < l.length → ∀ ad, A = some ad → w.heap.size + 1 + 1 < ad.block) (hR : Reads w' w'.heap.size 1 A l.length (dv l)) (hrep : Rep s l x) (hc : l.length ≤ c) :
    BigEnd w x (.returned (.agg #[.int .i64 s, .slice A l.length c])) ((w'.setCell ⟨w.heap.size + 1 + 1, 0, none⟩ (.int .i64 s)).setCell ⟨w.heap.size + 1 + 1, 1, none⟩ (.slice A l.length c)) :=
  BigEnd.stored (by omega) hne hR h.bl hrep hc _
theorem Three.lt (h : Three w w' s1 A1 n1 c1 s2 A2 n2 c2) : w.heap.size + 1 + 1 < w'.heap.size := h.k3.lt
end

theorem sign_mul {s1 s2 x y : Int} {l1 l2 l : List Nat} (r1 : Rep s1 l1 x) (r2 : Rep s2 l2 y) (hN : Norm l) (hV : dval l = dval l1 * dval l2) : s1 * s2 = 1 ∨ s1 * s2 = -1 ∨ l = [] := by
  rcases r1.sign with ⟨e, -⟩ | ⟨e, -⟩ | ⟨e, h⟩
  · rcases r2.sign with ⟨f, -⟩ | ⟨f, -⟩ | ⟨f, h⟩
    · rw [e, f]; exact .inl rfl
    · rw [e, f]; exact .inr (.inl rfl)
    · exact .inr (.inr ((dval_zero hN).1 (by rw [hV, h]; simp [dval])))
  · rcases r2.sign with ⟨f, -⟩ | ⟨f, -⟩ | ⟨f, h⟩
    · rw [e, f]; exact .inr (.inl rfl)
    · rw [e, f]; exact .inl rfl
    · exact .inr (.inr ((dval_zero hN).1 (by rw [hV, h]; simp [dval])))
  · exact .inr (.inr ((dval_zero hN).1 (by rw [hV, h]; simp [dval])))
theorem rep_mul {s1 s2 x y : Int} {l1 l2 l : List Nat} (r1 : Rep s1 l1 x) (r2 : Rep s2 l2 y) (hV : dval l = dval l1 * dval l2) : s1 * s2 * (dval l : Int) = x * y := by
  rw [r1.eq, r2.eq, hV, Int.natCast_mul]
  grind
set_option maxHeartbeats 4000000 in
theorem Mul_any (s1 s2 : Int) (A1 A2 : Option Addr) (n1 n2 c1 c2 B1 B2 : Nat) (l1 l2 : List Nat) (x y : Int) (w : World) (h1 : Reads w B1 1 A1 n1 (dv l1)) (h2 : Reads w B2 1 A2 n2 (dv l2)) (r1 : Rep s1 l1 x) (r2 : Rep s2 l2 y) (hn1 : n1 ≤ 1048576) (hn2 : n2 ≤ 1048576) :
    Calls Tryd.prog 11 #[.agg #[.int .i64 s1, .slice A1 n1 c1], .agg #[.int .i64 s2, .slice A2 n2 c2]] w (BigOk w (x * y)) := by
  have H1 := Lib.hid h1
  have H2 := Lib.hid h2
  have R1 := Lib.hid r1
  have R2 := Lib.hid r2
  have K := Lib.hid (Three.new w s1 A1 n1 c1 s2 A2 n2 c2)
  clear h1 h2 r1 r2
  go_enter Tryd.func11, Tryd.ntmps11
  go_wp2_with fail
  refine (right_rep R1.out A1 n1 c1 _ _ (H1.out.past (K.out.bl)) (by omega)).mono ?_
  rintro e w4 ⟨rfl, b4⟩
  have K4 := Lib.hid (K.out.past b4)
  obtain ⟨y0, y1, y2, y3, y4, y5, y6, y7⟩ := K4.out.cells
  clear b4 K
  go_wp2_with fail
  refine (right_rep R2.out A2 n2 c2 _ _ (H2.out.past (K4.out.bl)) (by omega)).mono ?_
  rintro e w5 ⟨rfl, b5⟩
  have K5 := Lib.hid (K4.out.past b5)
  clear y0 y1 y2 y3 y4 y5 y6 y7
  obtain ⟨y0, y1, y2, y3, y4, y5, y6, y7⟩ := K5.out.cells
  clear b5 K4
  have HR1 := Lib.hid (H1.out.past (K5.out.bl))
  have HR2 := Lib.hid (H2.out.past (K5.out.bl))
  have hp0 : -1 ≤ s1 * s2 := by rcases R1.out.sign with ⟨e, -⟩ | ⟨e, -⟩ | ⟨e, -⟩ <;> rcases R2.out.sign with ⟨f, -⟩ | ⟨f, -⟩ | ⟨f, -⟩ <;> (rw [e, f]; decide)
  have hp1 : s1 * s2 ≤ 1 := by rcases R1.out.sign with ⟨e, -⟩ | ⟨e, -⟩ | ⟨e, -⟩ <;> rcases R2.out.sign with ⟨f, -⟩ | ⟨f, -⟩ | ⟨f, -⟩ <;> (rw [e, f]; decide)
  have hwr : IntKind.i64.wrap (s1 * s2) = s1 * s2 := IntWalk.i64_in _ (by omega)
  clear H1 H2
  go_wp2_with fail
  go_region_held3 (fun w' => w'.cell? ⟨w.heap.size, 0, none⟩ = some (.int .i64 s1) ∧ w'.cell? ⟨w.heap.size, 1, none⟩ = some (.slice A1 n1 c1) ∧ w'.cell? ⟨w.heap.size + 1, 0, none⟩ = some (.int .i64 s2) ∧ w'.cell? ⟨w.heap.size + 1, 1, none⟩ = some (.slice A2 n2 c2))
    (first | exact ⟨y0, y1, y2, y3⟩ | exact ⟨x0, x1, x2, x3⟩ | exact ⟨z0, z1, z2, z3⟩ | exact K7.out.held _ _)
    (first | (go_at_call 25; refine (mul_any A1 A2 n1 n2 c1 c2 _ _ l1 l2 _ (by exact HR1.out) (by exact HR2.out) R1.out.norm.1 R2.out.norm.1 hn1 hn2).mono ?_; rintro e w6 ⟨l, hN, hV, A, c, rfl, hc, hR, hF, hB⟩; have K6 := Lib.hid (K5.out.drew.past hB); obtain ⟨x0, x1, x2, x3, -, -, -, -⟩ := K6.out.cells; have HN := Lib.hid hN; have HV := Lib.hid hV; have HC := Lib.hid hc; have HR := Lib.hid hR; have HF := Lib.hid hF; clear hN hV hc hR hF hB) | (go_at_call 18; refine (signed_any (s1 * s2) A _ c _ l _ (by exact HR.out) HN.out (sign_mul R1.out R2.out HN.out HV.out) HC.out).mono ?_; rintro e w7 ⟨s', A', c', rfl, hc', hrep, hA, hB⟩; have K7 := Lib.hid (K6.out.past hB); obtain ⟨z0, z1, z2, z3, z4, z5, z6, z7⟩ := K7.out.cells; have HC7 := Lib.hid hc'; have HREP := Lib.hid hrep; have HA := Lib.hid hA; have HB7 := Lib.hid hB; clear hc' hrep hA hB))
  all_goals
    have hne : Hid (0 < l.length → ∀ ad, A' = some ad → w.heap.size + 1 + 1 < ad.block) := fun hp ad e => by
      obtain ⟨g, e2, hg, -⟩ := HF.out hp
      rw [HA.out hp, e2] at e
      cases e
      exact Nat.lt_of_lt_of_le K5.out.lt hg
    have hrd : Hid (Reads w7 w7.heap.size 1 A' l.length (dv l)) := ⟨HR.out.1, fun hp => by rw [HA.out hp]; exact ((HR.out.past HB7.out).here).2 hp⟩
    have hx := rep_mul R1.out R2.out HV.out
    have HE := Lib.hid (K7.out.stored hne.out hrd.out (hx ▸ HREP.out) HC7.out).ok
    obtain ⟨e0, e1⟩ := two_cells K7.out.k3 (.int .i64 s') (.slice A' l.length c')
    clear hx hne hrd
    go_wp2_with fail
    refine bodyPost_ret (v := .tuple #[.agg #[.int .i64 s', .slice A' l.length c'], .int .i64 0]) (by simp [results, Tryd.results11, go_sem, e0, e1]) rfl ?_
    exact HE.out
end Go.Proofs.YtoocdokhljpokaaDoor
