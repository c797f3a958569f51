/- The walk of survives: whether a pending sector survives. Conditions: the list reads; the index is none below 0. -/
import Derived.Test.YtjlndgkahmcfdaaDoorHd
import Derived.Laws.Bits128
namespace Go.Proofs.YtjlndgkahmcfdaaDoor
set_option maxRecDepth 8000
open Go.RowKit Go.ChangeMaps

theorem i64_and1 (n : Int) : bits .and .i64 n 1 = n % 2 := by
  have h1 : (BitVec.ofInt 64 1).toNat = 2 ^ 1 - 1 := by decide
  have key : (BitVec.ofInt 64 n &&& BitVec.ofInt 64 1).toNat = (n % ((2 ^ 64 : Nat) : Int)).toNat % 2 ^ 1 := by
    rw [BitVec.toNat_and, BitVec.toNat_ofInt, h1, Nat.and_two_pow_sub_one_eq_mod]
  show IntKind.i64.wrap ((BitVec.ofInt 64 n &&& BitVec.ofInt 64 1).toNat : Nat) = n % 2
  rw [key, IntKind.wrap_i64]
  omega

/-- Does the pending sector with the index i survive? -/
def survB (l : List Int) (i : Nat) : Bool := match l[i % l.length]? with
  | some x => decide (x % 2 = 1)
  | none => false

set_option maxRecDepth 4000 in
set_option maxHeartbeats 400000 in
theorem survives_any (w : World) (B : Nat) (A : Option Addr) (n c i : Nat) (l : List Int) (hr : Reads w B 1 A n (inV l)) (hn : n ≤ 1073741824) (hi : i ≤ 1073741824) :
    Calls Tryd.prog 62 #[.slice A n c, .int .i64 i] w fun e w' => e = .returned (.bool (survB l i)) ∧ w = w' := by
  have hl : l.length = n := by have := hr.1; rw [inV_len] at this; omega
  rcases Nat.eq_zero_or_pos n with h0 | h0
  · have hs : survB l i = false := by
      have : l = [] := List.eq_nil_of_length_eq_zero (by omega)
      subst this
      simp [survB]
    rw [hs]
    subst h0
    clear hs hr hl
    go_enter Tryd.func62, Tryd.ntmps62
    go_wp2
    go_ret
    exact ⟨rfl, rfl⟩
  · have hlt : i % n < n := Nat.mod_lt _ h0
    obtain ⟨x, hx⟩ : ∃ x, l[i % n]? = some x := ⟨_, List.getElem?_eq_getElem (by omega)⟩
    have hs : survB l i = decide (x % 2 = 1) := by
      unfold survB
      rw [hl, hx]
    rw [hs]
    obtain ⟨ad, rfl, _, hcell⟩ := hr.2 h0
    have hc := hcell (i % n) (.int .i64 x) (by unfold inV; rw [List.getElem?_map, hx]; rfl)
    clear hcell hr hs hl hx
    have h1 : (0 : Int) < (n : Int) := by omega
    go_enter Tryd.func62, Tryd.ntmps62
    go_wp2
    go_ret
    exact ⟨by rw [i64_and1]; rfl, rfl⟩

end Go.Proofs.YtjlndgkahmcfdaaDoor
