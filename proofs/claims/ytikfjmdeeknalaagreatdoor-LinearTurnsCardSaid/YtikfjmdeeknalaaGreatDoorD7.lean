/- Big integers in memory by their values and bounds of their sizes; the functions' contracts in these words. Conditions: sizes, the bounds of an int. -/
import Derived.Test.YtikfjmdeeknalaaGreatDoorD5
namespace Go.Proofs.YtikfjmdeeknalaaGreatDoor
set_option maxRecDepth 8000
open Go.RowKit

/-- A bound of a size: fewer digits than k. -/
def Sz (k : Nat) (x : Int) : Prop := x.natAbs < 1048576 ^ k
theorem Sz.mono {j k : Nat} {x : Int} (h : Sz j x) (hk : j ≤ k) : Sz k x := Nat.lt_of_lt_of_le h (Nat.pow_le_pow_right (by decide) hk)
theorem Sz.neg {k : Nat} {x : Int} (h : Sz k x) : Sz k (-x) := by unfold Sz at *; rwa [Int.natAbs_neg]
theorem Sz.add {k : Nat} {x y : Int} (h : Sz k x) (h' : Sz k y) : Sz (k + 1) (x + y) := by
  unfold Sz at *
  have h1 := Int.natAbs_add_le x y
  rw [Nat.pow_succ]
  generalize 1048576 ^ k = P at *
  omega
theorem Sz.sub {k : Nat} {x y : Int} (h : Sz k x) (h' : Sz k y) : Sz (k + 1) (x - y) := by rw [Int.sub_eq_add_neg]; exact h.add h'.neg
theorem Sz.mul {j k : Nat} {x y : Int} (h : Sz j x) (h' : Sz k y) : Sz (j + k) (x * y) := by
  unfold Sz at *
  rw [Int.natAbs_mul, Nat.pow_add]
  have h1 : x.natAbs * y.natAbs ≤ x.natAbs * 1048576 ^ k := Nat.mul_le_mul_left _ (Nat.le_of_lt h')
  have h2 : (x.natAbs + 1) * 1048576 ^ k ≤ 1048576 ^ j * 1048576 ^ k := Nat.mul_le_mul_right _ h
  have h3 : 0 < 1048576 ^ k := Nat.pow_pos (by decide)
  rw [Nat.add_mul] at h2
  omega
theorem Sz.int {x : Int} (h0 : -9223372036854775808 ≤ x) (h1 : x ≤ 9223372036854775807) : Sz 4 x := by
  show x.natAbs < 1208925819614629174706176
  omega
theorem Sz.of_le {k : Nat} {x y : Int} (h : Sz k x) (hy : y.natAbs ≤ x.natAbs) : Sz k y := Nat.lt_of_le_of_lt hy h
theorem Rep.sz {s x : Int} {l : List Nat} (h : Rep s l x) : Sz l.length x := by
  unfold Sz
  have h1 := dval_lt h.norm.1
  rcases h.cases with ⟨-, -, a, b⟩ | ⟨-, -, a, b⟩ | ⟨-, a, b⟩
  · omega
  · omega
  · rw [b]; exact Nat.pow_pos (by decide)

/-- A right big integer: its sign and its digits' place, its value, a bound of its size. -/
def Bg (w : World) (k : Nat) (x s : Int) (A : Option Addr) (n : Nat) : Prop := Sz k x ∧ ∃ l, l.length = n ∧ Rep s l x ∧ Reads w w.heap.size 1 A n (dv l)
section
variable {w w' : World} {k : Nat} {x s : Int} {A : Option Addr} {n : Nat}
theorem Bg.past (h : Bg w k x s A n) (hb : Below w.heap.size w w') : Bg w' k x s A n := by
  obtain ⟨hz, l, h1, h2, h3⟩ := h
  exact ⟨hz, l, h1, h2, (h3.past hb).here⟩
theorem Bg.len (h : Bg w k x s A n) : n ≤ k := by
  obtain ⟨hz, l, h1, h2, h3⟩ := h
  rw [← h1]
  exact h2.len hz
theorem Bg.more {j : Nat} (h : Bg w k x s A n) (hk : k ≤ j) : Bg w j x s A n := ⟨h.1.mono hk, h.2⟩
theorem Bg.as {j : Nat} (h : Bg w k x s A n) (hk : Sz j x) : Bg w j x s A n := ⟨hk, h.2⟩
theorem Bg.nil (w : World) (k : Nat) : Bg w k 0 0 none 0 := ⟨Nat.pow_pos (by decide), [], rfl, Rep.zero, Reads.none_⟩
theorem Bg.sign (h : Bg w k x s A n) : (s = 1 ∧ 0 < x) ∨ (s = -1 ∧ x < 0) ∨ (s = 0 ∧ x = 0) := by
  obtain ⟨hz, l, h1, h2, h3⟩ := h
  rcases h2.cases with ⟨a, -, b, -⟩ | ⟨a, -, b, -⟩ | ⟨a, -, b⟩
  · exact .inl ⟨a, b⟩
  · exact .inr (.inl ⟨a, b⟩)
  · exact .inr (.inr ⟨a, b⟩)
end
/-- How a function ends that returns a right big integer. -/
def EndB (w : World) (k : Nat) (x : Int) (e : Ending) (w' : World) : Prop := ∃ s A n c, e = .returned (.agg #[.int .i64 s, .slice A n c]) ∧ n ≤ c ∧ Bg w' k x s A n ∧ Below w.heap.size w w'
/-- How a function ends that returns a right big integer, and OK. -/
def OkB (w : World) (k : Nat) (x : Int) (e : Ending) (w' : World) : Prop := ∃ s A n c, e = .returned (.tuple #[.agg #[.int .i64 s, .slice A n c], .int .i64 0]) ∧ n ≤ c ∧ Bg w' k x s A n ∧ Below w.heap.size w w'
theorem BigEnd.b {w w' : World} {x : Int} {e : Ending} {k : Nat} (h : BigEnd w x e w') (hk : Sz k x) : EndB w k x e w' := by
  obtain ⟨s, l, A, c, h1, h2, h3, h4, h5, h6⟩ := h
  exact ⟨s, A, l.length, c, h1, h2, ⟨hk, l, rfl, h3, h4⟩, h6⟩
theorem BigOk.b {w w' : World} {x : Int} {e : Ending} {k : Nat} (h : BigOk w x e w') (hk : Sz k x) : OkB w k x e w' := by
  obtain ⟨s, l, A, c, h1, h2, h3, h4, h5⟩ := h
  exact ⟨s, A, l.length, c, h1, h2, ⟨hk, l, rfl, h3, h4⟩, h5.2⟩
section
variable {w : World} {j k : Nat} {x y s1 s2 : Int} {A1 A2 : Option Addr} {n1 n2 : Nat}
theorem int_B (h1 : Bg w k x s1 A1 n1) (hk : k ≤ 1048576) (c1 : Nat) :
    Calls Tryz.prog 24 #[.agg #[.int .i64 s1, .slice A1 n1 c1]] w fun e w' => e = .returned (.tuple #[.int .i64 (intP x).1, .bool (intP x).2]) ∧ Below w.heap.size w w' := by
  have e1 := h1.len
  obtain ⟨z1, l1, g1, r1, m1⟩ := h1
  exact Int_any s1 A1 n1 c1 _ l1 x w m1 r1 (by omega)
theorem compare_B (h1 : Bg w j x s1 A1 n1) (h2 : Bg w k y s2 A2 n2) (hj : j ≤ 1048576) (hk : k ≤ 1048576) (c1 c2 : Nat) {r : Int} (hr : ordZ x y = r) :
    Calls Tryz.prog 32 #[.agg #[.int .i64 s1, .slice A1 n1 c1], .agg #[.int .i64 s2, .slice A2 n2 c2]] w fun e w' => e = .returned (.int .i64 r) ∧ Below w.heap.size w w' := by
  have e1 := h1.len
  have e2 := h2.len
  obtain ⟨z1, l1, g1, r1, m1⟩ := h1
  obtain ⟨z2, l2, g2, r2, m2⟩ := h2
  exact Compare_any s1 s2 x y A1 A2 n1 n2 c1 c2 _ _ l1 l2 w m1 m2 (by omega) (by omega) r1 r2 hr
theorem same_B (h1 : Bg w j x s1 A1 n1) (h2 : Bg w k y s2 A2 n2) (hj : j ≤ 1048576) (hk : k ≤ 1048576) (c1 c2 : Nat) {r : Bool} (hr : decide (x = y) = r) :
    Calls Tryz.prog 34 #[.agg #[.int .i64 s1, .slice A1 n1 c1], .agg #[.int .i64 s2, .slice A2 n2 c2]] w fun e w' => e = .returned (.bool r) ∧ Below w.heap.size w w' := by
  have e1 := h1.len
  have e2 := h2.len
  obtain ⟨z1, l1, g1, r1, m1⟩ := h1
  obtain ⟨z2, l2, g2, r2, m2⟩ := h2
  exact Same_any s1 s2 A1 A2 n1 n2 c1 c2 _ _ _ _ w (dv_read m1) (dv_read m2) (by omega) (by omega) (by rw [sameB_rep r1 r2]; exact hr)
end
end Go.Proofs.YtikfjmdeeknalaaGreatDoor

/- The law's function small: it returns true. Conditions: the tables of math/bits and strconv. -/
namespace Go.Proofs.YtikfjmdeeknalaaGreatDoor
set_option maxRecDepth 8000
open Go.RowKit

/-- A box of a big integer. -/
structure BoxR where
  b : Nat
  k : Nat
  x : Int
  s : Int
  A : Option Addr
  n : Nat
  c : Nat
/-- What a law's walk has made so far. -/
structure StB (w0 w : World) (L : List BoxR) : Prop where
  bl : Below w0.heap.size w0 w
  bx : ∀ r ∈ L, Blk w r.b 24 #[.int .i64 r.s, .slice r.A r.n r.c] ∧ Bg w r.k r.x r.s r.A r.n
section
variable {w0 w w' : World} {L : List BoxR}
theorem StB.new (w : World) : StB w w [] := ⟨Below.refl _ _, fun _ h => by cases h⟩
theorem StB.call (h : StB w0 w L) (hb : Below w.heap.size w w') : StB w0 w' L := ⟨h.bl.trans (hb.mono h.bl.size), fun r hr => ⟨(h.bx r hr).1.below hb (h.bx r hr).1.lt, (h.bx r hr).2.past hb⟩⟩
theorem StB.box (h : StB w0 w L) {k : Nat} {x s : Int} {A : Option Addr} {n : Nat} (c : Nat) (hg : Bg w k x s A n) : StB w0 (w.alloc (.cells #[.int .i64 s, .slice A n c] 24)) (⟨w.heap.size, k, x, s, A, n, c⟩ :: L) := by
  have hb : Below w.heap.size w (w.alloc (.cells #[.int .i64 s, .slice A n c] 24)) := (Below.refl _ _).alloc (Nat.le_refl _) _
  have h2 := h.call hb
  refine ⟨h2.bl, fun r hr => ?_⟩
  rcases List.mem_cons.1 hr with rfl | hr
  · exact ⟨Blk.new w _ _, hg.past hb⟩
  · exact h2.bx r hr
end
theorem int_BI {w : World} {x s1 : Int} {A1 : Option Addr} {n1 k : Nat} (h1 : Bg w k x s1 A1 n1) (hk : k ≤ 1048576) (c1 : Nat) {r : Int} {b : Bool} (hr : intP x = (r, b)) :
    Calls Tryz.prog 24 #[.agg #[.int .i64 s1, .slice A1 n1 c1]] w fun e w' => e = .returned (.tuple #[.int .i64 r, .bool b]) ∧ Below w.heap.size w w' := by
  have := int_B h1 hk c1
  rw [hr] at this
  exact this
end Go.Proofs.YtikfjmdeeknalaaGreatDoor
