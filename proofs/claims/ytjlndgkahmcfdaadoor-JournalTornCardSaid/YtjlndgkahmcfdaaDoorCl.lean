/- The walks of slices.Clone at []byte, []int, []sector, and of maps.Clone at both maps. No condition but that the source reads. -/
import Derived.Test.YtjlndgkahmcfdaaDoorUt
import Derived.Lib.BufferMore
import Derived.Shelf.SlMaps.Clone
namespace Go.Proofs.YtjlndgkahmcfdaaDoor
set_option maxRecDepth 8000
open Go.RowKit Go.ChangeMaps

/-- How slices.Clone ends. -/
def Cloned (w : World) (t : TypeId) (size n : Nat) (xs : List Value) (e : Ending) (w' : World) : Prop :=
  ∃ v', e = .returned v' ∧ w'.ownsRow 0 t size v' n xs ∧ Below w.heap.size w w' ∧ ∀ g, v'.ownBlock = some g → w.heap.size ≤ g
theorem grown_below {w w' : World} {b : Nat} (h : w.grownBy w' (some b)) {W : World} (hB : Below W.heap.size W w) (hb : W.heap.size ≤ b) : Below W.heap.size W w' :=
  hB.trans ⟨h.os, h.tape, h.output, h.size, fun k hk => h.block k (by have := hB.size; omega) (fun e => by cases e; omega)⟩

set_option maxRecDepth 4000 in
set_option maxHeartbeats 400000 in
theorem cloneI_any (A : Option Addr) (n c : Nat) (xs : List Value) (w : World) (hr : Reads w w.heap.size 1 A n xs) (h1 : ∀ u ∈ xs, u.oneCell' = true) (hn : n ≤ 1073741824) :
    Calls Tryd.prog 59 #[.slice A n c] w (Cloned w 3 1 n xs) := by
  obtain ⟨i0, hi, hz0, hz1, hz2⟩ := info_parts infoInt
  cases A with
  | none =>
    have hn0 : n = 0 := by
      rcases Nat.eq_zero_or_pos n with h0 | h0
      · exact h0
      · obtain ⟨ad, h, _⟩ := hr.2 h0
        cases h
    subst hn0
    have hx : xs = [] := List.eq_nil_of_length_eq_zero (by simpa using hr.1)
    subst hx
    clear hr h1 hn
    have HE := Lib.hid (show Cloned w 3 1 0 [] (.returned (.slice none 0 0)) w from ⟨_, rfl, World.ownsRow_nil _ _ _ _, Below.refl _ _, fun g e => by cases e⟩)
    have q := fun w => Lib.run_eql_slice_nil_nil (P := Tryd.prog) w (t := 23) 0 c Tryd.underlying23
    go_enter Tryd.func59, Tryd.ntmps59
    go_wp2
    go_ret
    exact HE.out
  | some ad =>
    obtain ⟨v', w1, hrun, h2, h3, h4⟩ := run_clone (P := Tryd.prog) (w := w.alloc (.cells #[] 3)) 23 23 3 i0 _ 1 8 Tryd.underlying23 hi hz0 hz1 hz2 rfl (by decide) w.heap.size (some ad) n c xs (hr.alloc (Nat.le_refl _) _) h1 w.heap.size (heap_alloc_new w _) (by unfold maxLen; omega) (by omega)
    have HE := Lib.hid (show Cloned w 3 1 n xs (.returned v') w1 from ⟨_, rfl, h2, grown_below h3 ((Below.refl _ _).alloc (Nat.le_refl _) _) (Nat.le_refl _), fun g e => by
      rcases h4 with h4 | h4
      · rw [h4] at e; cases e; exact Nat.le_refl _
      · rw [h4] at e; cases e; simp⟩)
    have HR := Lib.hid hrun
    clear hr h1 h2 h3 h4 hrun
    have q := fun w => Lib.run_eql_slice_some_nil (P := Tryd.prog) w (t := 23) ad n c Tryd.underlying23
    go_enter Tryd.func59, Tryd.ntmps59
    go_wp2_with (at_builtin; refine Lib.wpList_append_run _ rfl _ _ _ _ rfl _ _ rfl rfl v' w1 HR.out ?_)
    go_ret
    exact HE.out

end Go.Proofs.YtjlndgkahmcfdaaDoor
