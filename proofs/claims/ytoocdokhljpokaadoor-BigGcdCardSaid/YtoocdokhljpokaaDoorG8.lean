/- The walk of big's shorten. Conditions: lengths; the digits lie in blocks of the call's own; the second number is not greater. -/
import Derived.Test.YtoocdokhljpokaaDoorG7
import Derived.Test.YtoocdokhljpokaaDoorE8
import Derived.Deep.LoopGhost
namespace Go.Proofs.YtoocdokhljpokaaDoor
set_option maxRecDepth 20000
open Go.RowKit

/-- The leading bits of two numbers in order, plainly. -/
theorem lead_facts {la lb : List Nat} {n d y : Nat} (na : Norm la) (nb : Norm lb) (hn : la.length = n) (h4 : 4 ≤ n) (hlb : lb.length ≤ n) (hle : dval lb ≤ dval la) (hd : la[n - 1]? = some d) (hy : Lib.bitLen d + y = 20) :
    y < 20 ∧ leadP la n y < 1152921504606846976 ∧ leadP lb n y ≤ leadP la n y ∧ Lead (dval la : Int) (dval lb : Int) ((2 ^ y : Nat) : Int) ((1048576 ^ (n - 3) : Nat) : Int) (leadP la n y : Int) (leadP lb n y : Int) := by
  obtain ⟨y20, -, hhi⟩ := top_shift na hn (by omega) hd hy
  obtain ⟨a0, a1⟩ := lead_sure (y := y) (d := la) (n := n) (by omega) h4 (by omega) na.1
  obtain ⟨b0, b1⟩ := lead_sure (y := y) (d := lb) (n := n) hlb h4 (by omega) nb.1
  have hT : 0 < 2 ^ y := Nat.pow_pos (by decide)
  have hS : 0 < 1048576 ^ (n - 3) := Nat.pow_pos (by decide)
  have hR : 1048576 ^ n = 1152921504606846976 * 1048576 ^ (n - 3) := by
    conv => lhs; rw [show n = 3 + (n - 3) by omega, Nat.pow_add]
  have hm : dval lb * 2 ^ y ≤ dval la * 2 ^ y := Nat.mul_le_mul_right _ hle
  refine ⟨y20, ?_, ?_, ?_⟩
  · rw [hR] at hhi
    exact Nat.lt_of_mul_lt_mul_right (Nat.lt_of_le_of_lt a0 hhi)
  · have : leadP lb n y * 1048576 ^ (n - 3) < (leadP la n y + 1) * 1048576 ^ (n - 3) := Nat.lt_of_le_of_lt (Nat.le_trans b0 hm) a1
    have := Nat.lt_of_mul_lt_mul_right this
    omega
  · refine ⟨by omega, by omega, ?_, ?_, ?_, ?_⟩
    · exact_mod_cast a0
    · exact_mod_cast a1
    · exact_mod_cast b0
    · exact_mod_cast b1
/-- A row of the call's own, if there is anything. -/
def Row (X : Nat) (w : World) (A : Option Addr) (l : List Nat) : Prop := 0 < l.length → ∃ g, A = some ⟨g, 0, none⟩ ∧ X ≤ g ∧ Dig w g l
theorem Row.past {X : Nat} {w w' : World} {A : Option Addr} {l : List Nat} (h : Row X w A l) (hb : Below w.heap.size w w') : Row X w' A l := fun hp => by
  obtain ⟨g, e, hg, hd⟩ := h hp
  exact ⟨g, e, hg, hd.past hb⟩
theorem Row.reads {X : Nat} {w : World} {A : Option Addr} {l : List Nat} (h : Row X w A l) : Reads w w.heap.size 1 A l.length (dv l) := by
  rcases Nat.eq_zero_or_pos l.length with h0 | h0
  · obtain rfl : l = [] := List.eq_nil_of_length_eq_zero h0
    exact Reads.none_
  · obtain ⟨g, rfl, -, hd⟩ := h h0
    exact hd.reads rfl hd.lt
/-- Two numbers on the way to their greatest common divisor. -/
structure ShSt (X N G : Nat) (w wr : World) (la lb : List Nat) (A0 A1 : Option Addr) (c0 c1 : Nat) : Prop where
  na : Norm la
  nb : Norm lb
  le : dval lb ≤ dval la
  gcd : Nat.gcd (dval la) (dval lb) = G
  ra : Row X wr A0 la
  rb : Row X wr A1 lb
  ne : ∀ g g', A0 = some ⟨g, 0, none⟩ → A1 = some ⟨g', 0, none⟩ → 0 < la.length → 0 < lb.length → g ≠ g'
  len : la.length ≤ N
  ca : la.length ≤ c0
  cb : lb.length ≤ c1
  bel : Below X w wr
/-- How shorten ends. -/
def ShEnd (X N G : Nat) (w : World) (e : Ending) (w' : World) : Prop := ∃ la lb A0 A1 c0 c1, e = .returned (.tuple #[.slice A0 la.length c0, .slice A1 lb.length c1]) ∧ ShSt X N G w w' la lb A0 A1 c0 c1 ∧ lb.length ≤ 3
theorem ShSt.divided {X N G : Nat} {w wr w' : World} {la lb lr : List Nat} {A0 A1 A2 : Option Addr} {c0 c1 c2 : Nat} (h : ShSt X N G w wr la lb A0 A1 c0 c1) (hp : 0 < lb.length) (hX : X ≤ wr.heap.size) (hb : Below wr.heap.size wr w')
    (nr : Norm lr) (hr : dval lr = dval la % dval lb) (hc : lr.length ≤ c2) (rr : 0 < lr.length → ∃ g, A2 = some ⟨g, 0, none⟩ ∧ wr.heap.size ≤ g ∧ Dig w' g lr) :
    ShSt X N G w w' lb lr A1 A2 c1 c2 ∧ dval lr < dval lb := by
  have hb0 : 0 < dval lb := by
    rcases Nat.eq_zero_or_pos (dval lb) with e | e
    · have := (dval_zero h.nb).1 e
      rw [this] at hp
      simp at hp
    · exact e
  have hlt : dval lr < dval lb := by rw [hr]; exact Nat.mod_lt _ hb0
  refine ⟨⟨h.nb, nr, Nat.le_of_lt hlt, ?_, h.rb.past hb, ?_, ?_, ?_, h.cb, hc, h.bel.trans (hb.mono hX)⟩, hlt⟩
  · rw [hr, ← h.gcd, Nat.gcd_comm, ← Nat.gcd_rec, Nat.gcd_comm]
  · intro hp2
    obtain ⟨g, e, hg, hd⟩ := rr hp2
    exact ⟨g, e, Nat.le_trans hX hg, hd⟩
  · intro g g' e e' hp1 hp2
    obtain ⟨q, f, hq, hd⟩ := rr hp2
    obtain ⟨q2, f2, hq2, hd2⟩ := h.rb hp1
    rw [e'] at f
    rw [e] at f2
    cases f
    cases f2
    have := hd2.lt
    omega
  · have := len_le h.na h.nb h.le
    have := h.len
    omega
theorem ShSt.leapt {X N G : Nat} {w wr w' : World} {la lb na' nb' : List Nat} {ga gb c0 c1 va vb : Nat} {u0 v0 u1 v1 : Int} (h : ShSt X N G w wr la lb (some ⟨ga, 0, none⟩) (some ⟨gb, 0, none⟩) c0 c1)
    (e1 : (va : Int) = u0 * dval la + v0 * dval lb) (e2 : (vb : Int) = u1 * dval la + v1 * dval lb) (det : u0 * v1 - u1 * v0 = 1 ∨ u0 * v1 - u1 * v0 = -1) (hlt : vb < va) (hvB : va ≤ dval lb) (hX : X ≤ wr.heap.size) (hp : 0 < lb.length)
    (k1 : Norm na') (k2 : Norm nb') (k3 : dval na' = va) (k4 : dval nb' = vb) (k5 : na'.length ≤ c0) (k6 : nb'.length ≤ c1) (k7 : Dig w' ga na') (k8 : Dig w' gb nb') (k9 : ∀ X, X ≤ ga → X ≤ gb → X ≤ wr.heap.size → Below X wr w') :
    ShSt X N G w w' na' nb' (some ⟨ga, 0, none⟩) (some ⟨gb, 0, none⟩) c0 c1 ∧ dval nb' < dval lb := by
  have hlen := len_le h.na h.nb h.le
  obtain ⟨g1, q1, hg1, -⟩ := h.ra (by omega)
  obtain ⟨g2, q2, hg2, -⟩ := h.rb hp
  cases q1
  cases q2
  refine ⟨⟨k1, k2, by omega, ?_, fun _ => ⟨ga, rfl, hg1, k7⟩, fun _ => ⟨gb, rfl, hg2, k8⟩, ?_, ?_, k5, k6, h.bel.trans (k9 X hg1 hg2 hX)⟩, by omega⟩
  · rw [k3, k4, gcd_lin e1 e2 det, h.gcd]
  · intro g g' f f' _ _
    exact h.ne g g' f f' (by omega) hp
  · have := len_le h.na k1 (by rw [k3]; exact Nat.le_trans hvB h.le)
    have := h.len
    omega
end Go.Proofs.YtoocdokhljpokaaDoor
