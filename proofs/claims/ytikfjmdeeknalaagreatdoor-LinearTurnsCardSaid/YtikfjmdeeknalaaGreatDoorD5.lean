/- The walk of big's Text (under way). Conditions: lengths, the table of strconv. -/
import Derived.Test.YtikfjmdeeknalaaGreatDoorD4
import Derived.Lib.AppendStr
import Derived.Lib.AppendIntMem
import Derived.Sort.CutIn
import Derived.Lib.ItoaLen
import Derived.Stop.RegionWithIn
namespace Go.Proofs.YtikfjmdeeknalaaGreatDoor
set_option maxRecDepth 8000
open Go.RowKit Go.Shelf
attribute [local go_sem] Oper.semAt_some

theorem own_grown {w w' : World} {row : Option Nat} {base : Nat} {e : TypeId} {size n : Nat} {v : Value} {xs : List Value} (h : w.ownsRow base e size v n xs) (hb : w.grownBy w' row) (hne : ∀ g, v.ownBlock = some g → row ≠ some g) : w'.ownsRow base e size v n xs := by
  refine ⟨h.1, ?_⟩
  rcases h.2 with hn | ⟨g, cap, cur, hv, hb', hgg, rest⟩
  · exact .inl hn
  · refine .inr ⟨g, cap, cur, hv, hb', ?_, rest⟩
    rw [hb.block g (Array.getElem?_eq_some_iff.1 hgg).1 (fun e => hne g (by rw [hv]; rfl) e.symm)]
    exact hgg
def Tab (w : World) : Prop := Lib.TabIs Tryz.prog w "internal/strconv.uint64pow10" .u64 Lib.pow10Tab
theorem Tab.on {w w' : World} (h : Tab w) (hb : Below w.heap.size w w') : Tab w' := Lib.tabBelow_of_tabIs h w' hb
/-- A text in a box, in a row of the call's own. -/
def TxtAt (n₀ bx : Nat) (t : List UInt8) (W : World) : Prop :=
  ∃ A c, Blk W bx 123 #[.slice A t.length c] ∧ W.ownsRow n₀ 5 1 (.slice A t.length c) t.length (Lib.byteCells t) ∧ n₀ ≤ bx
theorem TxtAt.lt {n₀ bx : Nat} {t : List UInt8} {W : World} (h : TxtAt n₀ bx t W) : bx < W.heap.size := by
  obtain ⟨A, c, h1, -⟩ := h
  exact h1.lt
end Go.Proofs.YtikfjmdeeknalaaGreatDoor
