/- Fractions in memory; the walks of frac's functions on small fractions. Conditions: the bounds of Go's integers. -/
import Derived.Test.YtikfjmdeeknalaaGreatDoorQ2
import Derived.Test.YtikfjmdeeknalaaGreatDoorQ1
import Derived.Test.YtikfjmdeeknalaaGreatDoorH2
import Derived.Test.YtikfjmdeeknalaaGreatDoorD8
namespace Go.Proofs.YtikfjmdeeknalaaGreatDoor
set_option maxRecDepth 8000
open Go.RowKit

/-- A fraction's two integers in memory: signs, places, lengths, capacities. -/
structure FrR where
  s1 : Int
  A1 : Option Addr
  n1 : Nat
  c1 : Nat
  s2 : Int
  A2 : Option Addr
  n2 : Nat
  c2 : Nat
def frV (r : FrR) : Value := .agg #[.int .i64 r.s1, .slice r.A1 r.n1 r.c1, .int .i64 r.s2, .slice r.A2 r.n2 r.c2]
/-- A right fraction in memory: its value, a bound of its parts' sizes. -/
def Fg (w : World) (k : Nat) (x : Rat) (r : FrR) : Prop := Bg w k x.num r.s1 r.A1 r.n1 ∧ Bg w k (x.den : Int) r.s2 r.A2 r.n2
theorem Fg.past {w w' : World} {k : Nat} {x : Rat} {r : FrR} (h : Fg w k x r) (hb : Below w.heap.size w w') : Fg w' k x r := ⟨h.1.past hb, h.2.past hb⟩
theorem Fg.more {w : World} {j k : Nat} {x : Rat} {r : FrR} (h : Fg w k x r) (hk : k ≤ j) : Fg w j x r := ⟨h.1.more hk, h.2.more hk⟩
/-- How a function ends that returns a right fraction. -/
def FrEnd (w : World) (k : Nat) (x : Rat) (e : Ending) (w' : World) : Prop := ∃ r : FrR, e = .returned (frV r) ∧ r.n1 ≤ r.c1 ∧ r.n2 ≤ r.c2 ∧ Fg w' k x r ∧ Fresh w r.A1 r.n1 ∧ Fresh w r.A2 r.n2 ∧ Below w.heap.size w w'
theorem nat_or_lt {a b L : Nat} (h : (a ||| b) < 2 ^ L) : a < 2 ^ L ∧ b < 2 ^ L :=
  ⟨Nat.lt_of_le_of_lt Nat.left_le_or h, Nat.lt_of_le_of_lt Nat.right_le_or h⟩
/-- How many bits two ints have room in. -/
def bitsP (p q : Int) : Nat := Lib.bitLen (p.natAbs ||| q.natAbs)
set_option maxHeartbeats 2000000 in
theorem bits_any (p q : Int) (w : World) (p0 : -9223372036854775808 ≤ p) (p1 : p ≤ 9223372036854775807) (q0 : -9223372036854775808 ≤ q) (q1 : q ≤ 9223372036854775807) :
    Calls Tryz.prog 243 #[.agg #[.int .i64 p, .int .i64 q]] w fun e w' => e = .returned (.int .i64 ((bitsP p q : Nat) : Int)) ∧ Below w.heap.size w w' := by
  have C1 := Lib.hid (fun w => size_any p w p0 p1)
  have C2 := Lib.hid (fun w => size_any q w q0 q1)
  have hor : (p.natAbs ||| q.natAbs) < 2 ^ 64 := Nat.or_lt_two_pow (by omega) (by omega)
  have hb := bits_or_u64_nat p.natAbs q.natAbs (by omega) (by omega)
  have HL := Lib.hid ((Tryz.bits_Len64 (p.natAbs ||| q.natAbs) · (by omega) (by omega)))
  obtain ⟨P, hP⟩ : ∃ P : Int, ((p.natAbs : Nat) : Int) = P := ⟨_, rfl⟩
  obtain ⟨Q, hQ⟩ : ∃ P : Int, ((q.natAbs : Nat) : Int) = P := ⟨_, rfl⟩
  rw [hP, hQ] at hb
  rw [hP] at C1
  rw [hQ] at C2
  have HB : Hid (bitsP p q = Lib.bitLen (p.natAbs ||| q.natAbs)) := rfl
  clear hor hP hQ
  go_enter Tryz.func243, Tryz.ntmps243
  go_wp2_with fail
  go_quiet ((first | (go_at_call_of 159 (Value.int .i64 p); exact (C1.out _).mono fun _ _ h => ⟨h.1, _, h.2.symm⟩) | (go_at_call_of 159 (Value.int .i64 q); exact (C2.out _).mono fun _ _ h => ⟨h.1, _, h.2.symm⟩) | (go_at_call 209; exact (HL.out _).mono fun _ _ h => ⟨h.1, _, h.2⟩)))
  go_wp2_with fail
  go_ret
  exact ⟨by rw [HB.out]; rfl, ((Below.refl _ _).alloc (Nat.le_refl _) _).trans ((Drew.below ⟨_, rfl⟩).mono (by simp))⟩
end Go.Proofs.YtikfjmdeeknalaaGreatDoor

/- The walks of frac's isOne and timesSign. Conditions: sizes. -/
namespace Go.Proofs.YtikfjmdeeknalaaGreatDoor
set_option maxRecDepth 8000
open Go.RowKit

theorem rep_one {s : Int} {l : List Nat} {x : Int} (r : Rep s l x) : x = 1 ↔ s = 1 ∧ l = [1] := by
  constructor
  · intro e
    rcases r.cases with ⟨a, -, b, c⟩ | ⟨a, -, b, -⟩ | ⟨a, -, b⟩
    · refine ⟨a, norm_inj r.norm ⟨fun d hd => ?_, by simp [NoZ]⟩ ?_⟩
      · obtain rfl := List.mem_singleton.1 hd; omega
      · have e1 : dval [1] = 1 := rfl
        omega
    · omega
    · omega
  · rintro ⟨rfl, rfl⟩
    have := r.eq
    simpa [dval] using this
set_option maxHeartbeats 2000000 in
theorem isOne_any {w : World} {k : Nat} {x s : Int} {A : Option Addr} {n : Nat} (h : Bg w k x s A n) (c : Nat) {b : Bool} (hb : decide (x = 1) = b) :
    Calls Tryz.prog 160 #[.agg #[.int .i64 s, .slice A n c]] w fun e w' => e = .returned (.bool b) ∧ Below w.heap.size w w' := by
  obtain ⟨-, l, hl, hr, hm⟩ := h
  have h1 := rep_one hr
  have HB0 : Hid (Below w.heap.size w (w.alloc (.cells #[.int .i64 s, .slice A n c] 24))) := (Below.refl _ _).alloc (Nat.le_refl _) _
  have HR := Lib.hid (hm.past HB0.out)
  by_cases hs : s = 1
  · by_cases hn1 : n = 1
    · subst hs hn1
      obtain ⟨ad, d, rfl, hd, g1⟩ := HR.out.atD (i := 0) (by omega)
      have g2 : (w.alloc (.cells #[.int .i64 1, .slice (some ad) 1 c] 24)).cell? ad = some (.int .i64 (d : Int)) := by
        have e : ad.add 0 = ad := by simp [Addr.add]
        rwa [e] at g1
      have hl1 : l = [d] := by
        cases l with
        | nil => simp at hl
        | cons a t =>
          cases t with
          | nil => simp at hd; rw [hd]
          | cons => simp at hl
      have hd2 : (d : Int) = 1 ↔ x = 1 := by rw [h1, hl1]; simp; omega
      clear hm hl hr h1 hl1 hd
      by_cases hd1 : d = 1
      · have HE : Hid (b = true) := by show _ = _; rw [← hb]; exact decide_eq_true (hd2.1 (by omega))
        subst hd1
        clear hb hd2
        go_enter Tryz.func160, Tryz.ntmps160
        go_wp2_with fail
        go_ret
        exact ⟨by rw [HE.out]; rfl, HB0.out⟩
      · have HE : Hid (b = false) := by show _ = _; rw [← hb]; exact decide_eq_false (fun e => hd1 (by have := hd2.2 e; omega))
        have q1 : ((d : Int) == 1) = false := by simp; omega
        clear hb hd2 hd1
        go_enter Tryz.func160, Tryz.ntmps160
        go_wp2_with fail
        go_ret
        exact ⟨by rw [HE.out]; rfl, HB0.out⟩
    · have HE : Hid (b = false) := by show _ = _; rw [← hb]; exact decide_eq_false (fun e => hn1 (by have := (h1.1 e).2; rw [← hl, this]; rfl))
      have q1 : ((n : Int) == 1) = false := by simp; omega
      subst hs
      clear hm hl hr h1 hb hn1
      go_enter Tryz.func160, Tryz.ntmps160
      go_wp2_with fail
      go_ret
      exact ⟨by rw [HE.out]; rfl, HB0.out⟩
  · have HE : Hid (b = false) := by show _ = _; rw [← hb]; exact decide_eq_false (fun e => hs (h1.1 e).1)
    have q1 : (s == 1) = false := by simpa using hs
    clear hm hl hr h1 hb hs
    go_enter Tryz.func160, Tryz.ntmps160
    go_wp2_with fail
    go_ret
    exact ⟨by rw [HE.out]; rfl, HB0.out⟩
end Go.Proofs.YtikfjmdeeknalaaGreatDoor

/- The walks of frac's times and common. Conditions: sizes; the table of math/bits as its text lays it. -/
namespace Go.Proofs.YtikfjmdeeknalaaGreatDoor
set_option maxRecDepth 8000
open Go.RowKit

/-- Two arguments in their boxes, and the result's box. -/
theorem two_res {w : World} {j k : Nat} {x y s1 s2 : Int} {A1 A2 : Option Addr} {n1 n2 : Nat} (h1 : Bg w j x s1 A1 n1) (h2 : Bg w k y s2 A2 n2) (c1 c2 : Nat) :
    StR w (((w.alloc (.cells #[.int .i64 s1, .slice A1 n1 c1] 24)).alloc (.cells #[.int .i64 s2, .slice A2 n2 c2] 24)).alloc (.cells #[.int .i64 0, .slice none 0 0] 24))
      [⟨w.heap.size + 1 + 1, 4, 0, 0, none, 0, 0⟩, ⟨w.heap.size, j, x, s1, A1, n1, c1⟩, ⟨w.heap.size + 1, k, y, s2, A2, n2, c2⟩] := by
  have b := ((BxA.new w).box (by simp) ⟨s1, A1, n1, c1⟩).box (by simp) ⟨s2, A2, n2, c2⟩
  have s := (b.st2 (k1 := j) (k2 := k) (x1 := x) (x2 := y) h1 h2).made (Below.refl _ _) (Bg.nil _ 4) (fun h => absurd h (by omega)) 0
  simpa using s
/-- The result's box is filled. -/
theorem res_end {w W w1 : World} {L : List BoxR} {B k n : Nat} {x s : Int} {A : Option Addr} (S : StR w W (⟨B, 4, 0, 0, none, 0, 0⟩ :: L)) (hb : Below W.heap.size W w1) (hg : Bg w1 k x s A n) (hf : Fresh W A n) (c : Nat) (hc : n ≤ c) (o : Obj) :
    ∃ wf, wf = ((w1.setCell ⟨B, 0, none⟩ (.int .i64 s)).setCell ⟨B, 1, none⟩ (.slice A n c)).alloc o ∧ wf.cell? ⟨B, 0, none⟩ = some (.int .i64 s) ∧ wf.cell? ⟨B, 1, none⟩ = some (.slice A n c) ∧ EndF w k x (.returned (.agg #[.int .i64 s, .slice A n c])) wf := by
  have P := (S.put hb hg hf c (i := 0) rfl).call ((Below.refl _ _).alloc (Nat.le_refl _) o)
  have F := P.bx _ List.mem_cons_self
  exact ⟨_, rfl, F.1.c0, F.1.c1, s, A, n, c, rfl, hc, F.2, fun hp ad e => Nat.le_trans S.bl.size (hf hp ad e), P.bl⟩
section
variable {w : World} {j k : Nat} {x y s1 s2 : Int} {A1 A2 : Option Addr} {n1 n2 : Nat}
set_option maxHeartbeats 2000000 in
theorem times_F (h1 : Bg w j x s1 A1 n1) (h2 : Bg w k y s2 A2 n2) (hj : j ≤ 1000000) (hk : k ≤ 1000000) (c1 c2 : Nat) :
    Calls Tryz.prog 213 #[.agg #[.int .i64 s1, .slice A1 n1 c1], .agg #[.int .i64 s2, .slice A2 n2 c2]] w (EndF w (j + k) (x * y)) := by
  have S := Lib.hid (two_res h1 h2 c1 c2)
  have M := Lib.hid (mul_F (S.out.bx _ (List.mem_of_getElem? (i := 1) rfl)).2 (S.out.bx _ (List.mem_of_getElem? (i := 2) rfl)).2 (by dsimp only; omega) (by dsimp only; omega) c1 c2)
  dsimp only at M
  clear h1 h2
  go_enter Tryz.func213, Tryz.ntmps213
  go_wp2_with fail
  refine M.out.mono ?_
  rintro e w1 ⟨s, A, n, c, rfl, hc, hg, hf, hb⟩
  have cz := (S.out.call hb).bx _ List.mem_cons_self
  dsimp only at cz
  have cz1 := cz.1.c0
  have cz2 := cz.1.c1
  have cz3 := cz.1.frozen 0
  have cz4 := cz.1.frozen 1
  have HC := Lib.hid hc
  have HG := Lib.hid hg
  have HF := Lib.hid hf
  have HB := Lib.hid hb
  have hsz : w.heap.size + 1 + 1 < w1.heap.size := cz.1.lt
  clear cz hc hg hf hb M
  go_wp2_with fail
  obtain ⟨wf, hwf, k0, k1, kE⟩ := res_end S.out HB.out HG.out HF.out c HC.out (.cells #[.int .i64 s, .slice A n c] 24)
  rw [← hwf]
  clear hwf
  exact bodyPost_ret (v := .agg #[.int .i64 s, .slice A n c]) (by simp [results, Tryz.results213, go_sem, k0, k1]) rfl kE
set_option maxHeartbeats 2000000 in
theorem common_F (h1 : Bg w j x s1 A1 n1) (h2 : Bg w k y s2 A2 n2) (hT : TabZ w) (hj : j ≤ 1000000) (hk : k ≤ 1000000) (c1 c2 m : Nat) (g : Int) (e1 : ((Int.gcd x y : Nat) : Int) = g) (zg : Sz m g) :
    Calls Tryz.prog 212 #[.agg #[.int .i64 s1, .slice A1 n1 c1], .agg #[.int .i64 s2, .slice A2 n2 c2]] w (EndF w m g) := by
  have S := Lib.hid (two_res h1 h2 c1 c2)
  have M := Lib.hid (gcd_F (S.out.bx _ (List.mem_of_getElem? (i := 1) rfl)).2 (S.out.bx _ (List.mem_of_getElem? (i := 2) rfl)).2 (hT.on S.out.bl) (by dsimp only; omega) (by dsimp only; omega) c1 c2 m g e1 zg)
  dsimp only at M
  clear h1 h2 hT e1 zg
  go_enter Tryz.func212, Tryz.ntmps212
  go_wp2_with fail
  refine M.out.mono ?_
  rintro e w1 ⟨s, A, n, c, rfl, hc, hg, hf, hb⟩
  have cz := (S.out.call hb).bx _ List.mem_cons_self
  dsimp only at cz
  have cz1 := cz.1.c0
  have cz2 := cz.1.c1
  have cz3 := cz.1.frozen 0
  have cz4 := cz.1.frozen 1
  have HC := Lib.hid hc
  have HG := Lib.hid hg
  have HF := Lib.hid hf
  have HB := Lib.hid hb
  have hsz : w.heap.size + 1 + 1 < w1.heap.size := cz.1.lt
  clear cz hc hg hf hb M
  go_wp2_with fail
  obtain ⟨wf, hwf, k0, k1, kE⟩ := res_end S.out HB.out HG.out HF.out c HC.out (.cells #[.int .i64 s, .slice A n c] 24)
  rw [← hwf]
  clear hwf
  exact bodyPost_ret (v := .agg #[.int .i64 s, .slice A n c]) (by simp [results, Tryz.results212, go_sem, k0, k1]) rfl kE
end
end Go.Proofs.YtikfjmdeeknalaaGreatDoor

/- The walk of frac's smallOf. Conditions: sizes. -/
namespace Go.Proofs.YtikfjmdeeknalaaGreatDoor
set_option maxRecDepth 20000
open Go.RowKit

/-- A fraction in a box. -/
def frC (r : FrR) : Array Value := #[.int .i64 r.s1, .slice r.A1 r.n1 r.c1, .int .i64 r.s2, .slice r.A2 r.n2 r.c2]
theorem sm_cells {w : World} {g : Nat} {t : TypeId} {a b : Value} (h : Blk w g t #[a, b]) : w.cell? ⟨g, 0, none⟩ = some a ∧ w.cell? ⟨g, 1, none⟩ = some b ∧ w.frozen? ⟨g, 0, none⟩ = false ∧ w.frozen? ⟨g, 1, none⟩ = false :=
  ⟨h.cell 0, h.cell 1, h.frozen 0, h.frozen 1⟩
/-- A box of two cells is filled. -/
theorem sm_end {w : World} {g : Nat} {t : TypeId} {x y : Value} (h : Blk w g t #[x, y]) (a b : Value) : ∃ wf, wf = (w.setCell ⟨g, 0, none⟩ a).setCell ⟨g, 1, none⟩ b ∧ wf.cell? ⟨g, 0, none⟩ = some a ∧ wf.cell? ⟨g, 1, none⟩ = some b ∧
    Blk wf g t #[a, b] ∧ ∀ {B : Nat} {W : World}, Below B W w → B ≤ g → Below B W wf := by
  have K := (h.set_ 0 a).set_ 1 b
  have K2 : Blk ((w.setCell ⟨g, 0, none⟩ a).setCell ⟨g, 1, none⟩ b) g t #[a, b] := by simpa using K
  exact ⟨_, rfl, K2.cell 0, K2.cell 1, K2, fun hb hg => below_set (below_set hb hg _ _) hg _ _⟩
set_option maxHeartbeats 4000000 in
theorem smallOf_any {w : World} {j k : Nat} {p q : Int} (r : FrR) (h1 : Bg w j p r.s1 r.A1 r.n1) (h2 : Bg w k q r.s2 r.A2 r.n2) (hj : j ≤ 1048576) (hk : k ≤ 1048576) {a b : Int} {u v : Bool} (ea : intP p = (a, u)) (eb : intP q = (b, v)) :
    Calls Tryz.prog 157 #[frV r] w fun e w' => e = .returned (.tuple #[.agg #[.int .i64 a, .int .i64 b], .bool (u && v)]) ∧ Below w.heap.size w w' := by
  have K0 : Hid (Below w.heap.size w ((w.alloc (.cells (frC r) 43)).alloc (.cells #[.int .i64 0, .int .i64 0] 135))) := ((Below.refl _ _).alloc (Nat.le_refl _) _).alloc (by simp) _
  have KA : Hid (Blk ((w.alloc (.cells (frC r) 43)).alloc (.cells #[.int .i64 0, .int .i64 0] 135)) w.heap.size 43 (frC r)) := (Blk.new w _ _).alloc _
  have KB : Hid (Blk ((w.alloc (.cells (frC r) 43)).alloc (.cells #[.int .i64 0, .int .i64 0] 135)) (w.heap.size + 1) 135 #[.int .i64 0, .int .i64 0]) := by
    show Blk _ _ _ _
    have := Blk.new (w.alloc (.cells (frC r) 43)) 135 #[.int .i64 0, .int .i64 0]
    simpa using this
  have M1 := Lib.hid (int_BI (h1.past K0.out) hj r.c1 ea)
  have G2 := Lib.hid (h2.past K0.out)
  have EB := Lib.hid eb
  clear h1 h2 ea eb
  obtain ⟨s1, A1, n1, c1, s2, A2, n2, c2⟩ := r
  dsimp only [frV, frC] at *
  cases u <;> cases v
  all_goals
    go_enter Tryz.func157, Tryz.ntmps157
    go_wp2_with fail
    refine M1.out.mono ?_
    rintro e w1 ⟨rfl, hb⟩
    have B1 := Lib.hid hb
    have ka := KA.out.below hb KA.out.lt
    have f2 := ka.cell 2
    have f3 := ka.cell 3
    clear hb ka
    go_wp2_with fail
    refine (int_BI (G2.out.past B1.out) hk c2 EB.out).mono ?_
    rintro e w2 ⟨rfl, hb⟩
    have B2 : Hid (Below w.heap.size w w2) := K0.out.trans ((B1.out.trans (hb.mono B1.out.size)).mono K0.out.size)
    have KB2 := Lib.hid ((KB.out.below B1.out KB.out.lt).below hb (KB.out.below B1.out KB.out.lt).lt)
    obtain ⟨q0, q1, q2, q3⟩ := sm_cells ((KB.out.below B1.out KB.out.lt).below hb (KB.out.below B1.out KB.out.lt).lt)
    clear hb
    go_wp2_with fail
    obtain ⟨wf, hwf, k0, k1, -, kb⟩ := sm_end KB2.out (.int .i64 a) (.int .i64 b)
    rw [← hwf]
    clear hwf
    exact bodyPost_ret (v := .tuple #[.agg #[.int .i64 a, .int .i64 b], .bool _]) (by simp [results, Tryz.results157, go_sem, k0, k1]) rfl ⟨rfl, kb B2.out (by omega)⟩
end Go.Proofs.YtikfjmdeeknalaaGreatDoor
