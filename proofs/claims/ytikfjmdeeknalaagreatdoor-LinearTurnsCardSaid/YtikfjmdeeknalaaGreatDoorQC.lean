/- Two fractions as small ones; words on memory for regions that draw their order beside new boxes; sizes of sums and products. Conditions: sizes. -/
import Derived.Test.YtikfjmdeeknalaaGreatDoorQA
import Derived.Test.YtikfjmdeeknalaaGreatDoorQB
import Derived.Test.YtikfjmdeeknalaaGreatDoorQ9
import Derived.Lib.ItoaNum
namespace Go.Proofs.YtikfjmdeeknalaaGreatDoor
set_option maxRecDepth 20000
open Go.RowKit

/-- What smallPair says. -/
def PairEnd (w : World) (x y : Rat) (e : Ending) (w' : World) : Prop :=
  ∃ a b c d fit, e = .returned (.tuple #[.agg #[.int .i64 a, .int .i64 b], .agg #[.int .i64 c, .int .i64 d], .bool fit]) ∧ (fit = true → a = x.num ∧ b = (x.den : Int) ∧ c = y.num ∧ d = (y.den : Int) ∧ bitsP a b + bitsP c d ≤ 62 ∧ (-9223372036854775808 ≤ a ∧ a ≤ 9223372036854775807) ∧ (-9223372036854775808 ≤ b ∧ b ≤ 9223372036854775807) ∧ (-9223372036854775808 ≤ c ∧ c ≤ 9223372036854775807) ∧ (-9223372036854775808 ≤ d ∧ d ≤ 9223372036854775807)) ∧ Below w.heap.size w w'
theorem intP_of {p a : Int} (h : intP p = (a, true)) : a = p ∧ -9223372036854775808 ≤ a ∧ a ≤ 9223372036854775807 := by
  unfold intP at h
  split at h
  · cases h; exact ⟨rfl, by assumption⟩
  · cases h
theorem pair_is {α β : Type} (x : α × β) : x = (x.1, x.2) := rfl
theorem smallPair_any {w : World} {k k2 : Nat} {x y : Rat} (r r2 : FrR) (h1 : Fg w k x r) (h2 : Fg w k2 y r2) (hk : k ≤ 1000000) (hk2 : k2 ≤ 1000000) :
    Calls Tryz.prog 210 #[frV r, frV r2] w (PairEnd w x y) := by
  have ea := pair_is (intP x.num)
  have eb := pair_is (intP (x.den : Int))
  have ec := pair_is (intP y.num)
  have ed := pair_is (intP (y.den : Int))
  generalize (intP x.num).1 = a at *
  generalize (intP x.num).2 = ua at *
  generalize (intP (x.den : Int)).1 = b at *
  generalize (intP (x.den : Int)).2 = ub at *
  generalize (intP y.num).1 = c at *
  generalize (intP y.num).2 = uc at *
  generalize (intP (y.den : Int)).1 = d at *
  generalize (intP (y.den : Int)).2 = ud at *
  by_cases hB : ((ua && ub) && (uc && ud)) = true
  · simp only [Bool.and_eq_true] at hB
    obtain ⟨⟨rfl, rfl⟩, rfl, rfl⟩ := hB
    obtain ⟨a1, a2⟩ := intP_of ea
    obtain ⟨b1, b2⟩ := intP_of eb
    obtain ⟨c1, c2⟩ := intP_of ec
    obtain ⟨d1, d2⟩ := intP_of ed
    refine (smallPair_ints r r2 h1.1 h1.2 h2.1 h2.2 (by omega) (by omega) (by omega) (by omega) ea eb ec ed a2 b2 c2 d2).mono ?_
    rintro e w' ⟨rfl, hb⟩
    refine ⟨a, b, c, d, _, rfl, fun hf => ⟨a1, b1, c1, d1, ?_, a2, b2, c2, d2⟩, hb⟩
    unfold fitP at hf
    simpa using hf
  · refine (smallPair_B r r2 h1.1 h1.2 h2.1 h2.2 (by omega) (by omega) (by omega) (by omega) ea eb ec ed rfl rfl (by simpa using hB)).mono ?_
    rintro e w' ⟨rfl, hb⟩
    exact ⟨a, b, c, d, false, rfl, (fun hf => by cases hf), hb⟩
theorem lt_bitLen (x : Nat) (h : x < 2 ^ 64) : x < 2 ^ Lib.bitLen x := by
  by_cases h0 : x = 0
  · subst h0; exact Nat.pow_pos (by decide)
  · exact (Lib.bitLenAux_bounds 64 x h h0).2.2
theorem bitsP_lt {p q : Int} (hp : -9223372036854775808 ≤ p ∧ p ≤ 9223372036854775807) (hq : -9223372036854775808 ≤ q ∧ q ≤ 9223372036854775807) : p.natAbs < 2 ^ bitsP p q ∧ q.natAbs < 2 ^ bitsP p q := by
  unfold bitsP
  exact nat_or_lt (lt_bitLen _ (Nat.or_lt_two_pow (by omega) (by omega)))
theorem mul_bits {a b : Int} {i j : Nat} (ha : a.natAbs < 2 ^ i) (hb : b.natAbs < 2 ^ j) (h : i + j ≤ 62) : -4611686018427387904 < a * b ∧ a * b < 4611686018427387904 := by
  have h1 : (a * b).natAbs < 2 ^ 62 := by
    rw [Int.natAbs_mul]
    refine Nat.lt_of_lt_of_le (Nat.mul_lt_mul'' ha hb) ?_
    rw [← Nat.pow_add]
    exact Nat.pow_le_pow_right (by decide) h
  have e : (2 : Nat) ^ 62 = 4611686018427387904 := by decide
  rw [e] at h1
  omega
/-- A new block's cells, its place named ahead. -/
theorem Blk.new_ {w : World} {g : Nat} {t : TypeId} {cs : Array Value} (hg : g = w.heap.size) : Blk (w.alloc (.cells cs t)) g t cs := by subst hg; exact Blk.new w t cs
theorem Blk.al {w : World} {g : Nat} {t : TypeId} {cs : Array Value} (h : Blk w g t cs) {o : Obj} : Blk (w.alloc o) g t cs := h.alloc o
theorem Blk.set2 {w : World} {g : Nat} {t : TypeId} {x y : Value} (h : Blk w g t #[x, y]) {a b : Value} : Blk ((w.setCell ⟨g, 0, none⟩ a).setCell ⟨g, 1, none⟩ b) g t #[a, b] := by
  have := (h.set_ 0 a).set_ 1 b
  simpa using this
theorem Blk.far2 {w : World} {g g' : Nat} {t : TypeId} {cs : Array Value} (h : Blk w g t cs) (hne : g ≠ g') {a b : Value} : Blk ((w.setCell ⟨g', 0, none⟩ a).setCell ⟨g', 1, none⟩ b) g t cs :=
  (h.far (p := ⟨g', 0, none⟩) hne a).far (p := ⟨g', 1, none⟩) hne b
theorem Bg.al {w : World} {k : Nat} {x s : Int} {A : Option Addr} {n : Nat} (h : Bg w k x s A n) {o : Obj} : Bg (w.alloc o) k x s A n := h.past ((Below.refl _ _).alloc (Nat.le_refl _) o)
theorem Bg.far2 {w : World} {k g : Nat} {x s : Int} {A : Option Addr} {n : Nat} (h : Bg w k x s A n) (hne : 0 < n → ∀ ad, A = some ad → ad.block ≠ g) {a b : Value} : Bg ((w.setCell ⟨g, 0, none⟩ a).setCell ⟨g, 1, none⟩ b) k x s A n :=
  h.apart (only_setCell (p := ⟨g, 1, none⟩) (only_setCell (p := ⟨g, 0, none⟩) (grown_refl w (some g)) (.inl rfl) a) (.inl rfl) b) hne
theorem below_al {B : Nat} {a w : World} (h : Below B a w) (hB : B ≤ a.heap.size) {o : Obj} : Below B a (w.alloc o) := h.alloc (Nat.le_trans hB h.size) o
theorem bal {a w : World} (h : Below a.heap.size a w) {o : Obj} : Below a.heap.size a (w.alloc o) := below_al h (Nat.le_refl _)
theorem below_2 {B g : Nat} {a w : World} (h : Below B a w) (hg : B ≤ g) {u v : Value} : Below B a ((w.setCell ⟨g, 0, none⟩ u).setCell ⟨g, 1, none⟩ v) := below_set (below_set h hg _ _) hg _ _
theorem stc4 {w : World} {p : Addr} {u a b c d : Value} {g : Nat} (h : w.cell? p = some u) (hne : p.block ≠ g) : ((((w.setCell ⟨g, 0, none⟩ a).setCell ⟨g, 1, none⟩ b).setCell ⟨g, 2, none⟩ c).setCell ⟨g, 3, none⟩ d).cell? p = some u :=
  stc (stc (stc (stc h hne) hne) hne) hne
/-- The boxes of two fractions, and that of the result. -/
structure TriF (w W : World) (r r2 : FrR) : Prop where
  k1 : Blk W w.heap.size 43 (frC r)
  k2 : Blk W (w.heap.size + 1) 43 (frC r2)
  k3 : Blk W (w.heap.size + 1 + 1) 43 #[.int .i64 0, .slice none 0 0, .int .i64 0, .slice none 0 0]
  bl : Below w.heap.size w W
theorem TriF.new (w : World) (r r2 : FrR) : TriF w (((w.alloc (.cells (frC r) 43)).alloc (.cells (frC r2) 43)).alloc (.cells #[.int .i64 0, .slice none 0 0, .int .i64 0, .slice none 0 0] 43)) r r2 :=
  ⟨((Blk.new w _ _).alloc _).alloc _, (Blk.new_ (by simp)).alloc _, Blk.new_ (by simp), (((Below.refl _ _).alloc (Nat.le_refl _) _).alloc (by simp) _).alloc (by simp; omega) _⟩
theorem TriF.call {w W W' : World} {r r2 : FrR} (h : TriF w W r r2) (hb : Below W.heap.size W W') : TriF w W' r r2 :=
  ⟨h.k1.below hb h.k1.lt, h.k2.below hb h.k2.lt, h.k3.below hb h.k3.lt, h.bl.trans (hb.mono h.bl.size)⟩
theorem TriF.cells {w W : World} {r r2 : FrR} (h : TriF w W r r2) : (W.cell? ⟨w.heap.size, 0, none⟩ = some (.int .i64 r.s1) ∧ W.cell? ⟨w.heap.size, 1, none⟩ = some (.slice r.A1 r.n1 r.c1) ∧ W.cell? ⟨w.heap.size, 2, none⟩ = some (.int .i64 r.s2) ∧ W.cell? ⟨w.heap.size, 3, none⟩ = some (.slice r.A2 r.n2 r.c2)) ∧
    W.cell? ⟨w.heap.size + 1, 0, none⟩ = some (.int .i64 r2.s1) ∧ W.cell? ⟨w.heap.size + 1, 1, none⟩ = some (.slice r2.A1 r2.n1 r2.c1) ∧ W.cell? ⟨w.heap.size + 1, 2, none⟩ = some (.int .i64 r2.s2) ∧ W.cell? ⟨w.heap.size + 1, 3, none⟩ = some (.slice r2.A2 r2.n2 r2.c2) :=
  ⟨⟨h.k1.cell 0, h.k1.cell 1, h.k1.cell 2, h.k1.cell 3⟩, h.k2.cell 0, h.k2.cell 1, h.k2.cell 2, h.k2.cell 3⟩
/-- One box with an integer. -/
structure BoxAt (W wc : World) (b k : Nat) (x : Int) (s : Int) (A : Option Addr) (n c : Nat) : Prop where
  blk : Blk wc b 24 #[.int .i64 s, .slice A n c]
  lo : W.heap.size ≤ b
  bg : Bg wc k x s A n
  cap : n ≤ c
  fr : Fresh W A n
/-- Two boxes that a region has made. -/
def TwoR (W wc : World) (b1 b2 k1 k2 : Nat) (x y : Int) : Prop := ∃ s1 A1 n1 c1 s2 A2 n2 c2, BoxAt W wc b1 k1 x s1 A1 n1 c1 ∧ BoxAt W wc b2 k2 y s2 A2 n2 c2 ∧ Below W.heap.size W wc
/-- One box that a region has made. -/
def OneB (W wc : World) (b k : Nat) (x : Int) : Prop := ∃ s A n c, BoxAt W wc b k x s A n c ∧ Below W.heap.size W wc
theorem FrEnd.as {w w' : World} {k k' : Nat} {x : Rat} {e : Ending} (h : FrEnd w k x e w') (h1 : Sz k' x.num) (h2 : Sz k' (x.den : Int)) : FrEnd w k' x e w' := by
  obtain ⟨r, rfl, c1, c2, hf, f1, f2, hb⟩ := h
  exact ⟨r, rfl, c1, c2, ⟨hf.1.as h1, hf.2.as h2⟩, f1, f2, hb⟩
theorem Fg.sz {w : World} {k : Nat} {x : Rat} {r : FrR} (h : Fg w k x r) : Sz k x.num ∧ Sz k (x.den : Int) := ⟨h.1.1, h.2.1⟩
theorem sum_sz {j k : Nat} {x y : Rat} (h1 : Sz j x.num) (h2 : Sz j (x.den : Int)) (h3 : Sz k y.num) (h4 : Sz k (y.den : Int)) : Sz (j + k + 1) (x + y).num ∧ Sz (j + k + 1) ((x + y).den : Int) := by
  obtain ⟨a, b⟩ := sum_le (Low.self x) (Low.self y)
  have e1 := (h1.mul h4).add ((h3.mul h2).mono (show k + j ≤ j + k by omega))
  have e2 := (h2.mul h4).mono (show j + k ≤ j + k + 1 by omega)
  exact ⟨e1.of_le a, e2.of_le (by rw [Int.natAbs_natCast]; exact b)⟩
theorem prod_sz {j k : Nat} {x y : Rat} (h1 : Sz j x.num) (h2 : Sz j (x.den : Int)) (h3 : Sz k y.num) (h4 : Sz k (y.den : Int)) : Sz (j + k) (x * y).num ∧ Sz (j + k) ((x * y).den : Int) := by
  obtain ⟨a, b⟩ := prod_le (Low.self x) (Low.self y)
  exact ⟨(h1.mul h3).of_le a, (h2.mul h4).of_le (by rw [Int.natAbs_natCast]; exact b)⟩
/-- An exact division. -/
theorem floor_exact {x g z : Int} (hg : 0 < g) (e : x = g * z) : ∀ q' r, FloorP x g q' r → q' = z := by
  intro q' r h
  have hd : g ∣ x := ⟨z, e⟩
  have hr := floor_zero h hg hd
  obtain ⟨h1, -, -⟩ := h
  rw [hr, e, Int.add_zero, Int.mul_comm] at h1
  exact Int.eq_of_mul_eq_mul_left (by omega) h1
end Go.Proofs.YtikfjmdeeknalaaGreatDoor
