/- Big integers in memory by their values and bounds of their sizes; the functions' contracts in these words. Conditions: sizes, the bounds of an int. -/
import Derived.Test.YtikfjmdeeknalaaDoorD5
namespace Go.Proofs.YtikfjmdeeknalaaDoor
set_option maxRecDepth 8000
open Go.RowKit

/-- A bound of a size: fewer digits than k. -/
def Sz (k : Nat) (x : Int) : Prop := x.natAbs < 1048576 ^ k
theorem Sz.mono {j k : Nat} {x : Int} (h : Sz j x) (hk : j ≤ k) : Sz k x := Nat.lt_of_lt_of_le h (Nat.pow_le_pow_right (by decide) hk)
theorem Sz.neg {k : Nat} {x : Int} (h : Sz k x) : Sz k (-x) := by unfold Sz at *; rwa [Int.natAbs_neg]
theorem Sz.add {k : Nat} {x y : Int} (h : Sz k x) (h' : Sz k y) : Sz (k + 1) (x + y) := by
  unfold Sz at *
  have h1 := Int.natAbs_add_le x y
  rw [Nat.pow_succ]
  generalize 1048576 ^ k = P at *
  omega
theorem Sz.sub {k : Nat} {x y : Int} (h : Sz k x) (h' : Sz k y) : Sz (k + 1) (x - y) := by rw [Int.sub_eq_add_neg]; exact h.add h'.neg
theorem Sz.mul {j k : Nat} {x y : Int} (h : Sz j x) (h' : Sz k y) : Sz (j + k) (x * y) := by
  unfold Sz at *
  rw [Int.natAbs_mul, Nat.pow_add]
  have h1 : x.natAbs * y.natAbs ≤ x.natAbs * 1048576 ^ k := Nat.mul_le_mul_left _ (Nat.le_of_lt h')
  have h2 : (x.natAbs + 1) * 1048576 ^ k ≤ 1048576 ^ j * 1048576 ^ k := Nat.mul_le_mul_right _ h
  have h3 : 0 < 1048576 ^ k := Nat.pow_pos (by decide)
  rw [Nat.add_mul] at h2
  omega
theorem Sz.int {x : Int} (h0 : -9223372036854775808 ≤ x) (h1 : x ≤ 9223372036854775807) : Sz 4 x := by
  show x.natAbs < 1208925819614629174706176
  omega
theorem Sz.of_le {k : Nat} {x y : Int} (h : Sz k x) (hy : y.natAbs ≤ x.natAbs) : Sz k y := Nat.lt_of_le_of_lt hy h
theorem Rep.sz {s x : Int} {l : List Nat} (h : Rep s l x) : Sz l.length x := by
  unfold Sz
  have h1 := dval_lt h.norm.1
  rcases h.cases with ⟨-, -, a, b⟩ | ⟨-, -, a, b⟩ | ⟨-, a, b⟩
  · omega
  · omega
  · rw [b]; exact Nat.pow_pos (by decide)

/-- A right big integer: its sign and its digits' place, its value, a bound of its size. -/
def Bg (w : World) (k : Nat) (x s : Int) (A : Option Addr) (n : Nat) : Prop := Sz k x ∧ ∃ l, l.length = n ∧ Rep s l x ∧ Reads w w.heap.size 1 A n (dv l)
section
variable {w w' : World} {k : Nat} {x s : Int} {A : Option Addr} {n : Nat}
theorem Bg.past (h : Bg w k x s A n) (hb : Below w.heap.size w w') : Bg w' k x s A n := by
  obtain ⟨hz, l, h1, h2, h3⟩ := h
  exact ⟨hz, l, h1, h2, (h3.past hb).here⟩
theorem Bg.len (h : Bg w k x s A n) : n ≤ k := by
  obtain ⟨hz, l, h1, h2, h3⟩ := h
  rw [← h1]
  exact h2.len hz
theorem Bg.more {j : Nat} (h : Bg w k x s A n) (hk : k ≤ j) : Bg w j x s A n := ⟨h.1.mono hk, h.2⟩
theorem Bg.as {j : Nat} (h : Bg w k x s A n) (hk : Sz j x) : Bg w j x s A n := ⟨hk, h.2⟩
theorem Bg.nil (w : World) (k : Nat) : Bg w k 0 0 none 0 := ⟨Nat.pow_pos (by decide), [], rfl, Rep.zero, Reads.none_⟩
theorem Bg.sign (h : Bg w k x s A n) : (s = 1 ∧ 0 < x) ∨ (s = -1 ∧ x < 0) ∨ (s = 0 ∧ x = 0) := by
  obtain ⟨hz, l, h1, h2, h3⟩ := h
  rcases h2.cases with ⟨a, -, b, -⟩ | ⟨a, -, b, -⟩ | ⟨a, -, b⟩
  · exact .inl ⟨a, b⟩
  · exact .inr (.inl ⟨a, b⟩)
  · exact .inr (.inr ⟨a, b⟩)
end
/-- How a function ends that returns a right big integer. -/
def EndB (w : World) (k : Nat) (x : Int) (e : Ending) (w' : World) : Prop := ∃ s A n c, e = .returned (.agg #[.int .i64 s, .slice A n c]) ∧ n ≤ c ∧ Bg w' k x s A n ∧ Below w.heap.size w w'
/-- How a function ends that returns a right big integer, and OK. -/
def OkB (w : World) (k : Nat) (x : Int) (e : Ending) (w' : World) : Prop := ∃ s A n c, e = .returned (.tuple #[.agg #[.int .i64 s, .slice A n c], .int .i64 0]) ∧ n ≤ c ∧ Bg w' k x s A n ∧ Below w.heap.size w w'
theorem BigEnd.b {w w' : World} {x : Int} {e : Ending} {k : Nat} (h : BigEnd w x e w') (hk : Sz k x) : EndB w k x e w' := by
  obtain ⟨s, l, A, c, h1, h2, h3, h4, h5, h6⟩ := h
  exact ⟨s, A, l.length, c, h1, h2, ⟨hk, l, rfl, h3, h4⟩, h6⟩
theorem BigOk.b {w w' : World} {x : Int} {e : Ending} {k : Nat} (h : BigOk w x e w') (hk : Sz k x) : OkB w k x e w' := by
  obtain ⟨s, l, A, c, h1, h2, h3, h4, h5⟩ := h
  exact ⟨s, A, l.length, c, h1, h2, ⟨hk, l, rfl, h3, h4⟩, h5.2⟩
section
variable {w : World} {j k : Nat} {x y s1 s2 : Int} {A1 A2 : Option Addr} {n1 n2 : Nat}
theorem of_B (x : Int) (w : World) (h0 : -9223372036854775808 ≤ x) (h1 : x ≤ 9223372036854775807) : Calls Tryd.prog 31 #[.int .i64 x] w (EndB w 4 x) :=
  (Of_any x w h0 h1).mono fun _ _ h => h.b (Sz.int h0 h1)
theorem mul_B (h1 : Bg w j x s1 A1 n1) (h2 : Bg w k y s2 A2 n2) (hj : j ≤ 1048576) (hk : k ≤ 1048576) (c1 c2 : Nat) :
    Calls Tryd.prog 76 #[.agg #[.int .i64 s1, .slice A1 n1 c1], .agg #[.int .i64 s2, .slice A2 n2 c2]] w (OkB w (j + k) (x * y)) := by
  have e1 := h1.len
  have e2 := h2.len
  obtain ⟨z1, l1, g1, r1, m1⟩ := h1
  obtain ⟨z2, l2, g2, r2, m2⟩ := h2
  exact (Mul_any s1 s2 A1 A2 n1 n2 c1 c2 _ _ l1 l2 x y w m1 m2 r1 r2 (by omega) (by omega)).mono fun _ _ h => h.b (z1.mul z2)
theorem add_B (h1 : Bg w k x s1 A1 n1) (h2 : Bg w k y s2 A2 n2) (hk : k ≤ 1048576) (c1 c2 : Nat) :
    Calls Tryd.prog 55 #[.agg #[.int .i64 s1, .slice A1 n1 c1], .agg #[.int .i64 s2, .slice A2 n2 c2]] w (OkB w (k + 1) (x + y)) := by
  have e1 := h1.len
  have e2 := h2.len
  obtain ⟨z1, l1, g1, r1, m1⟩ := h1
  obtain ⟨z2, l2, g2, r2, m2⟩ := h2
  exact (Add_any s1 s2 A1 A2 n1 n2 c1 c2 _ _ l1 l2 x y w m1 m2 r1 r2 (by omega) (by omega)).mono fun _ _ h => h.b (z1.add z2)
theorem neg_B (h1 : Bg w k x s1 A1 n1) (hk : k ≤ 1048576) (c1 : Nat) :
    Calls Tryd.prog 77 #[.agg #[.int .i64 s1, .slice A1 n1 c1]] w (EndB w k (-x)) := by
  have e1 := h1.len
  obtain ⟨z1, l1, g1, r1, m1⟩ := h1
  exact (Neg_any s1 A1 n1 c1 _ l1 x w m1 r1 (by omega)).mono fun _ _ h => h.b z1.neg
theorem right_B (h1 : Bg w k x s1 A1 n1) (hk : k ≤ 1048576) (c1 : Nat) :
    Calls Tryd.prog 45 #[.agg #[.int .i64 s1, .slice A1 n1 c1]] w fun e w' => e = .returned (.bool true) ∧ Below w.heap.size w w' := by
  have e1 := h1.len
  obtain ⟨z1, l1, g1, r1, m1⟩ := h1
  exact right_rep r1 A1 n1 c1 _ w m1 (by omega)
theorem int_B (h1 : Bg w k x s1 A1 n1) (hk : k ≤ 1048576) (c1 : Nat) :
    Calls Tryd.prog 44 #[.agg #[.int .i64 s1, .slice A1 n1 c1]] w fun e w' => e = .returned (.tuple #[.int .i64 (intP x).1, .bool (intP x).2]) ∧ Below w.heap.size w w' := by
  have e1 := h1.len
  obtain ⟨z1, l1, g1, r1, m1⟩ := h1
  exact Int_any s1 A1 n1 c1 _ l1 x w m1 r1 (by omega)
theorem compare_B (h1 : Bg w j x s1 A1 n1) (h2 : Bg w k y s2 A2 n2) (hj : j ≤ 1048576) (hk : k ≤ 1048576) (c1 c2 : Nat) {r : Int} (hr : ordZ x y = r) :
    Calls Tryd.prog 94 #[.agg #[.int .i64 s1, .slice A1 n1 c1], .agg #[.int .i64 s2, .slice A2 n2 c2]] w fun e w' => e = .returned (.int .i64 r) ∧ Below w.heap.size w w' := by
  have e1 := h1.len
  have e2 := h2.len
  obtain ⟨z1, l1, g1, r1, m1⟩ := h1
  obtain ⟨z2, l2, g2, r2, m2⟩ := h2
  exact Compare_any s1 s2 x y A1 A2 n1 n2 c1 c2 _ _ l1 l2 w m1 m2 (by omega) (by omega) r1 r2 hr
theorem same_B (h1 : Bg w j x s1 A1 n1) (h2 : Bg w k y s2 A2 n2) (hj : j ≤ 1048576) (hk : k ≤ 1048576) (c1 c2 : Nat) {r : Bool} (hr : decide (x = y) = r) :
    Calls Tryd.prog 40 #[.agg #[.int .i64 s1, .slice A1 n1 c1], .agg #[.int .i64 s2, .slice A2 n2 c2]] w fun e w' => e = .returned (.bool r) ∧ Below w.heap.size w w' := by
  have e1 := h1.len
  have e2 := h2.len
  obtain ⟨z1, l1, g1, r1, m1⟩ := h1
  obtain ⟨z2, l2, g2, r2, m2⟩ := h2
  exact Same_any s1 s2 A1 A2 n1 n2 c1 c2 _ _ _ _ w (dv_read m1) (dv_read m2) (by omega) (by omega) (by rw [sameB_rep r1 r2]; exact hr)
end
end Go.Proofs.YtikfjmdeeknalaaDoor

/- The law's function small: it returns true. Conditions: the tables of math/bits and strconv. -/
namespace Go.Proofs.YtikfjmdeeknalaaDoor
set_option maxRecDepth 8000
open Go.RowKit

/-- A box of a big integer. -/
structure BoxR where
  b : Nat
  k : Nat
  x : Int
  s : Int
  A : Option Addr
  n : Nat
  c : Nat
/-- What a law's walk has made so far. -/
structure StB (w0 w : World) (L : List BoxR) : Prop where
  bl : Below w0.heap.size w0 w
  bx : ∀ r ∈ L, Blk w r.b 25 #[.int .i64 r.s, .slice r.A r.n r.c] ∧ Bg w r.k r.x r.s r.A r.n
section
variable {w0 w w' : World} {L : List BoxR}
theorem StB.new (w : World) : StB w w [] := ⟨Below.refl _ _, fun _ h => by cases h⟩
theorem StB.call (h : StB w0 w L) (hb : Below w.heap.size w w') : StB w0 w' L := ⟨h.bl.trans (hb.mono h.bl.size), fun r hr => ⟨(h.bx r hr).1.below hb (h.bx r hr).1.lt, (h.bx r hr).2.past hb⟩⟩
theorem StB.box (h : StB w0 w L) {k : Nat} {x s : Int} {A : Option Addr} {n : Nat} (c : Nat) (hg : Bg w k x s A n) : StB w0 (w.alloc (.cells #[.int .i64 s, .slice A n c] 25)) (⟨w.heap.size, k, x, s, A, n, c⟩ :: L) := by
  have hb : Below w.heap.size w (w.alloc (.cells #[.int .i64 s, .slice A n c] 25)) := (Below.refl _ _).alloc (Nat.le_refl _) _
  have h2 := h.call hb
  refine ⟨h2.bl, fun r hr => ?_⟩
  rcases List.mem_cons.1 hr with rfl | hr
  · exact ⟨Blk.new w _ _, hg.past hb⟩
  · exact h2.bx r hr
end
theorem StB.box2 {w0 w : World} {L : List BoxR} (h : StB w0 w L) {k k' : Nat} {x s x' s' : Int} {A A' : Option Addr} {n n' : Nat} (c c' : Nat) (hg : Bg w k x s A n) (hg' : Bg w k' x' s' A' n') :
    StB w0 ((w.alloc (.cells #[.int .i64 s, .slice A n c] 25)).alloc (.cells #[.int .i64 s', .slice A' n' c'] 25)) (⟨w.heap.size + 1, k', x', s', A', n', c'⟩ :: ⟨w.heap.size, k, x, s, A, n, c⟩ :: L) := by
  have hb : Below w.heap.size w (w.alloc (.cells #[.int .i64 s, .slice A n c] 25)) := (Below.refl _ _).alloc (Nat.le_refl _) _
  have := (h.box c hg).box c' (hg'.past hb)
  simpa using this
/-- Digits that are written out. -/
theorem ints_B (W : World) (l : List Nat) (hn : Norm l) (hl : l ≠ []) {x : Int} {b n : Nat} {cs : Array Value} (hx : (dval l : Int) = x) (hb : W.heap.size = b) (hc : (dv l).toArray = cs) (hnl : l.length = n) : Bg (W.alloc (.cells cs 3)) n x 1 (some ⟨b, 0, none⟩) n := by
  have r := Rep.of hn (.inl rfl) hl
  rw [Int.one_mul, hx] at r
  subst hb hc hnl
  refine ⟨r.sz, l, rfl, r, by rw [dv_len]; omega, fun hp => ⟨_, rfl, by simp, fun j u hj => ?_⟩⟩
  have hk : Blk (W.alloc (.cells (dv l).toArray 3)) W.heap.size 3 (dv l).toArray := Blk.new W _ _
  have e : (Addr.add ⟨W.heap.size, 0, none⟩ j) = ⟨W.heap.size, j, none⟩ := by
    unfold Addr.add
    split
    · simp_all
    · simp
  rw [e, hk.cell j]
  simpa using hj
theorem int_BI {w : World} {x s1 : Int} {A1 : Option Addr} {n1 k : Nat} (h1 : Bg w k x s1 A1 n1) (hk : k ≤ 1048576) (c1 : Nat) {r : Int} {b : Bool} (hr : intP x = (r, b)) :
    Calls Tryd.prog 44 #[.agg #[.int .i64 s1, .slice A1 n1 c1]] w fun e w' => e = .returned (.tuple #[.int .i64 r, .bool b]) ∧ Below w.heap.size w w' := by
  have := int_B h1 hk c1
  rw [hr] at this
  exact this
theorem of_same {w : World} {x s : Int} {A : Option Addr} {n k : Nat} (hg : Bg w k x s A n) (hk : k ≤ 1048576) (c : Nat) (h0 : -9223372036854775808 ≤ x) (h1 : x ≤ 9223372036854775807) (w1 : World) (hb : Below w.heap.size w w1) :
    Calls Tryd.prog 31 #[.int .i64 x] w1 fun e w2 => ∃ va, e = .returned va ∧ Below w.heap.size w w2 ∧ Calls Tryd.prog 40 #[.agg #[.int .i64 s, .slice A n c], va] w2 (fun e w' => e = .returned (.bool true) ∧ Below w2.heap.size w2 w') := by
  refine (of_B x w1 h0 h1).mono ?_
  rintro e w2 ⟨sa, Aa, na, ca, rfl, -, ha, hba⟩
  have hb2 := hb.trans (hba.mono hb.size)
  exact ⟨_, rfl, hb2, same_B (hg.past hb2) ha hk (by decide) c ca (by simp)⟩
theorem floor_lit {x y q r q' r' : Int} (h : FloorP x y q r) (h1 : q' * y + r' = x) (h2 : 0 < y → 0 ≤ r' ∧ r' < y) (h3 : y < 0 → y < r' ∧ r' ≤ 0) (hy : y ≠ 0) : q = q' ∧ r = r' := by
  obtain ⟨a, b, c⟩ := h
  have hq : q = q' := by
    have e : (q - q') * y = r' - r := by rw [Int.sub_mul]; omega
    rcases Int.lt_trichotomy q q' with hq | hq | hq
    · exfalso
      rcases Int.lt_or_gt_of_ne hy with hy | hy
      · have h1 : 1 * (-y) ≤ (q' - q) * (-y) := Int.mul_le_mul_of_nonneg_right (by omega) (by omega)
        have e2 : (q' - q) * (-y) = (q - q') * y := by rw [Int.mul_neg, ← Int.neg_mul]; congr 1; omega
        have := b; have := c hy; have := h3 hy; omega
      · have h1 : 1 * y ≤ (q' - q) * y := Int.mul_le_mul_of_nonneg_right (by omega) (by omega)
        have e2 : (q' - q) * y = -((q - q') * y) := by rw [← Int.neg_mul]; congr 1; omega
        have := b hy; have := h2 hy; omega
    · exact hq
    · exfalso
      rcases Int.lt_or_gt_of_ne hy with hy | hy
      · have h1 : 1 * (-y) ≤ (q - q') * (-y) := Int.mul_le_mul_of_nonneg_right (by omega) (by omega)
        have e2 : (q - q') * (-y) = -((q - q') * y) := Int.mul_neg _ _
        have := c hy; have := h3 hy; omega
      · have h1 : 1 * y ≤ (q - q') * y := Int.mul_le_mul_of_nonneg_right (by omega) (by omega)
        have := b hy; have := h2 hy; omega
  subst hq
  exact ⟨rfl, by omega⟩
/-- How a division ends whose results are known. -/
def DivB (w : World) (k : Nat) (q r : Int) (e : Ending) (w' : World) : Prop := ∃ s A n c s' A' n' c', e = .returned (.tuple #[.agg #[.int .i64 s, .slice A n c], .agg #[.int .i64 s', .slice A' n' c'], .int .i64 0]) ∧ Bg w' k q s A n ∧ Bg w' k r s' A' n' ∧ Below w.heap.size w w'
theorem div_few_B {w : World} {x y s1 s2 : Int} {A1 A2 : Option Addr} {n1 n2 : Nat} {j k : Nat} (h1 : Bg w j x s1 A1 n1) (h2 : Bg w k y s2 A2 n2) (z1 : Sz 3 x) (z2 : Sz 3 y) (hy : y ≠ 0) (c1 c2 : Nat) (q r : Int) (e1 : q * y + r = x) (e2 : 0 < y → 0 ≤ r ∧ r < y) (e3 : y < 0 → y < r ∧ r ≤ 0) (zq : Sz 4 q) (zr : Sz 4 r) :
    Calls Tryd.prog 74 #[.agg #[.int .i64 s1, .slice A1 n1 c1], .agg #[.int .i64 s2, .slice A2 n2 c2]] w (DivB w 4 q r) := by
  have f1 := (h1.as z1).len
  have f2 := (h2.as z2).len
  obtain ⟨-, l1, g1, r1, m1⟩ := h1
  obtain ⟨-, l2, g2, r2, m2⟩ := h2
  refine (Div_by s1 s2 A1 A2 n1 n2 c1 c2 _ _ l1 l2 x y w m1 m2 r1 r2 hy (by omega) (by omega) (fun wx k1 k2 => ?_)).mono ?_
  · rcases Nat.lt_or_ge (dval l1) (dval l2) with hlt | hge
    · exact divide_less A1 A2 n1 n2 c1 c2 _ _ l1 l2 wx k1 k2 r1.norm r2.norm hlt (by omega) (by omega)
    · refine divide_few A1 A2 n1 n2 c1 c2 _ _ l1 l2 wx k1 k2 r1.norm r2.norm hge ?_ f1
      rcases r2.cases with ⟨-, -, a, b⟩ | ⟨-, -, a, b⟩ | ⟨-, -, a⟩ <;> omega
  · rintro e w' ⟨q', r', s, l, A, c, s', l', A', c', rfl, hv, hr, hr', hc, hc', hR, hR', hb, -⟩
    obtain ⟨rfl, rfl⟩ := floor_lit hv e1 e2 e3 hy
    exact ⟨s, A, l.length, c, s', A', l'.length, c', rfl, ⟨zq, l, rfl, hr, hR⟩, ⟨zr, l', rfl, hr', hR'⟩, hb⟩
theorem gcd_few_B {w : World} {x y s1 s2 : Int} {A1 A2 : Option Addr} {n1 n2 : Nat} {j k : Nat} (h1 : Bg w j x s1 A1 n1) (h2 : Bg w k y s2 A2 n2) (z1 : Sz 3 x) (z2 : Sz 3 y) (hT : TabZ w) (c1 c2 : Nat) (g : Int) (e1 : ((Int.gcd x y : Nat) : Int) = g) (zg : Sz 4 g) :
    Calls Tryd.prog 25 #[.agg #[.int .i64 s1, .slice A1 n1 c1], .agg #[.int .i64 s2, .slice A2 n2 c2]] w (OkB w 4 g) := by
  have f1 := (h1.as z1).len
  have f2 := (h2.as z2).len
  obtain ⟨-, l1, g1, r1, m1⟩ := h1
  obtain ⟨-, l2, g2, r2, m2⟩ := h2
  subst e1
  exact (Gcd_by s1 s2 A1 A2 n1 n2 c1 c2 _ _ l1 l2 x y w m1 m2 r1 r2 (by omega) (by omega) hT (fun wx k1 k2 hTx => divisor_few A1 A2 n1 n2 c1 c2 _ _ l1 l2 wx k1 k2 r1.norm r2.norm f1 f2 hTx)).mono fun _ _ h => h.b zg
theorem sz3 {x : Int} (h0 : -1000000 ≤ x) (h1 : x ≤ 1000000) : Sz 3 x := by
  show x.natAbs < 1152921504606846976
  omega
end Go.Proofs.YtikfjmdeeknalaaDoor
