/- The walk of Arm: a crash is scheduled, with a copy of the list. No condition but that the list reads. -/
import Derived.Test.YtjlndgkahmcfdaaDoorDk
import Derived.Deep.RegionHeld3
import Derived.Deep.QuietTactic
import Derived.BigQuiet
namespace Go.Proofs.YtjlndgkahmcfdaaDoor
set_option maxRecDepth 8000
open Go.RowKit Go.ChangeMaps

section
variable {R : Nat → Prop} {w w' : World} {own : Nat → Option Nat}
theorem Tr.ofBelow (hi : ∀ g r, own g = some r → g < w.heap.size) (h : Below w.heap.size w w') : Tr R w own own w' :=
  ⟨h.os, h.tape, h.output, h.size, fun g hg _ => h.block g hg, fun _ _ => rfl, fun g r e => Nat.lt_of_lt_of_le (hi g r e) h.size⟩
/-- A new slice gets a role. -/
theorem Row.fresh {r : Nat} {e : TypeId} {size : Nat} {v : Value} {n : Nat} {xs : List Value} (hi : ∀ g r, own g = some r → g < w.heap.size) (h : Below w.heap.size w w') (ho : w'.ownsRow 0 e size v n xs)
    (hn : ∀ g, v.ownBlock = some g → w.heap.size ≤ g) : ∃ own', Row w' own' r e size v n xs ∧ Tr (fun _ => False) w own own' w' := by
  have t : Tr (fun _ => False) w own own w' := Tr.ofBelow hi h
  cases hv : v.ownBlock with
  | none => exact ⟨own, ⟨ho, fun g hg => by rw [hv] at hg; cases hg⟩, t⟩
  | some g =>
    refine ⟨give own g r, ⟨ho, fun x hx => ?_⟩, t.give (hn g hv) (ho.lt g hv).2 r⟩
    rw [hv] at hx
    cases hx
    exact give_same _ _ _
end

/-- How a call ends that leaves a disk in the state s; its two slices may be others. -/
def DkEnd (R : Nat → Prop) (w : World) (own : Nat → Option Nat) (b m k : Nat) (mark : Int × Int → Prop) (s : Ds) (v : Value) (e : Ending) (w' : World) : Prop :=
  e = .returned v ∧ ∃ own' pv kv, Dk w' own' b m k pv kv mark s ∧ Tr R w own own' w'

def pos (n : Int) : Int := max n 0
theorem pos_if (n : Int) : (if n < 0 then 0 else n) = pos n := by unfold pos; split <;> omega

/-- How Arm ends. -/
def ArmEnd (w : World) (own : Nat → Option Nat) (b m k : Nat) (pv : Value) (mark : Int × Int → Prop) (s : Ds) (e : Ending) (w' : World) : Prop :=
  e = .returned (.tuple #[]) ∧ ∃ own' kv, Dk w' own' b m k pv kv mark s ∧ Tr (fun r => r = 0) w own own' w'

set_option maxHeartbeats 1000000 in
theorem arm_core (w : World) (own : Nat → Option Nat) (b m k : Nat) (pv kv : Value) (mark : Int × Int → Prop) (s : Ds) (n x : Int) (A : Option Addr) (nk c : Nat) (l : List Int) (h : Dk w own b m k pv kv mark s)
    (hr : Reads w w.heap.size 1 A nk (inV l)) (hl : l.length = nk) (hbA : 0 < nk → ∀ ad, A = some ad → ad.block ≠ b) (hnk : nk ≤ 1073741824) (hx : (n < 0 ∧ x = 0) ∨ (¬ n < 0 ∧ x = n)) :
    Calls Tryd.prog 18 #[.pointer (some ⟨b, 0, none⟩), .int .i64 n, .slice A nk c] w (ArmEnd w own b m k pv mark { s with left := x, keep := l }) := by
  have c4 := h.blk.cell 4
  have f4 := h.blk.frozen 4
  have hD1 := h.setLeft x
  have t1 := h.set0 4 (.int .i64 x)
  have hr1 : Reads (w.setCell ⟨b, 4, none⟩ (.int .i64 x)) (w.setCell ⟨b, 4, none⟩ (.int .i64 x)).heap.size 1 A nk (inV l) := by
    refine ⟨hr.1, fun h0 => ?_⟩
    obtain ⟨ad, e1, e2, e3⟩ := hr.2 h0
    refine ⟨ad, e1, by simpa [World.setCell] using e2, fun j u hj => ?_⟩
    rw [World.cell?_setCell_far _ _ _ _ (by rw [block_of_add]; exact (hbA h0 ad e1).symm)]
    exact e3 j u hj
  have HD := Lib.hid hD1
  have HT := Lib.hid t1
  have HR := Lib.hid hr1
  have HL := Lib.hid hl
  clear hD1 t1 hr1 h hr hl hbA
  rcases hx with ⟨hn, rfl⟩ | ⟨hn, rfl⟩
  all_goals
    go_enter Tryd.func18, Tryd.ntmps18
    go_wp2_with fail
    refine (cloneI_any A nk c (inV l) _ HR.out (inV_one _) hnk).mono ?_
    rintro e w2 ⟨kv', rfl, hown, hbel, hnew⟩
    obtain ⟨A', c', rfl, _, _⟩ := own_slice hown
    obtain ⟨own', hrow, t2⟩ := Row.fresh (r := 4) HT.out.inb hbel hown hnew
    have hD2 := HD.out.far t2
    have hrow' : Row w2 own' 4 3 1 (.slice A' nk c') l.length (inV l) := by rw [HL.out]; exact hrow
    have HF := Lib.hid (hD2.setKeep (l := l) hrow')
    have HT2 := Lib.hid ((HT.out.trans (t2.weak (fun _ h => h.elim))).trans (hD2.set0 5 (.slice A' nk c')))
    have c5 := hD2.blk.cell 5
    have f5 := hD2.blk.frozen 5
    clear hown hbel hnew hrow hrow' t2 hD2 HD HT HR
    go_wp2
    go_end0
    exact ⟨rfl, own', _, HF.out, HT2.out⟩

theorem arm_any (w : World) (own : Nat → Option Nat) (b m k : Nat) (pv kv : Value) (mark : Int × Int → Prop) (s : Ds) (n : Int) (A : Option Addr) (nk c : Nat) (l : List Int) (h : Dk w own b m k pv kv mark s)
    (hr : Reads w w.heap.size 1 A nk (inV l)) (hl : l.length = nk) (hbA : 0 < nk → ∀ ad, A = some ad → ad.block ≠ b) (hnk : nk ≤ 1073741824) :
    Calls Tryd.prog 18 #[.pointer (some ⟨b, 0, none⟩), .int .i64 n, .slice A nk c] w (ArmEnd w own b m k pv mark { s with left := pos n, keep := l }) :=
  arm_core w own b m k pv kv mark s n (pos n) A nk c l h hr hl hbA hnk (by unfold pos; omega)

end Go.Proofs.YtjlndgkahmcfdaaDoor
