/- Blocks with roles: what a call of an object's method may turn, and what it leaves. No condition but what each says. -/
import Derived.Test.YtjlndgkahmcfdaaDoorOw
namespace Go.Proofs.YtjlndgkahmcfdaaDoor
set_option maxRecDepth 8000
open Go.RowKit Go.ChangeMaps

/-- Slice v owns a block of role r and holds xs. -/
def Row (w : World) (own : Nat → Option Nat) (r : Nat) (e : TypeId) (size : Nat) (v : Value) (n : Nat) (xs : List Value) : Prop :=
  w.ownsRow 0 e size v n xs ∧ ∀ g, v.ownBlock = some g → own g = some r

/-- From w to w': blocks of the roles R, and new ones, alone have turned; the roles of old blocks stand. -/
structure Tr (R : Nat → Prop) (w : World) (own own' : Nat → Option Nat) (w' : World) : Prop where
  os : w'.os = w.os
  tape : w'.tape = w.tape
  output : w'.output = w.output
  size : w.heap.size ≤ w'.heap.size
  block : ∀ g, g < w.heap.size → (∀ r, own g = some r → ¬ R r) → w'.heap[g]? = w.heap[g]?
  kept : ∀ g, g < w.heap.size → own' g = own g
  inb : ∀ g r, own' g = some r → g < w'.heap.size

section
variable {R R' : Nat → Prop} {w w' w'' : World} {own own' own'' : Nat → Option Nat}

theorem Tr.refl (R : Nat → Prop) (h : ∀ g r, own g = some r → g < w.heap.size) : Tr R w own own w := ⟨rfl, rfl, rfl, Nat.le_refl _, fun _ _ _ => rfl, fun _ _ => rfl, h⟩
theorem Tr.trans (h : Tr R w own own' w') (k : Tr R w' own' own'' w'') : Tr R w own own'' w'' :=
  ⟨k.os.trans h.os, k.tape.trans h.tape, k.output.trans h.output, Nat.le_trans h.size k.size,
    fun g hg hr => (k.block g (Nat.lt_of_lt_of_le hg h.size) (by rw [h.kept g hg]; exact hr)).trans (h.block g hg hr),
    fun g hg => (k.kept g (Nat.lt_of_lt_of_le hg h.size)).trans (h.kept g hg), k.inb⟩
theorem Tr.weak (h : Tr R w own own' w') (hR : ∀ r, R r → R' r) : Tr R' w own own' w' :=
  ⟨h.os, h.tape, h.output, h.size, fun g hg hr => h.block g hg fun r e hr' => hr r e (hR r hr'), h.kept, h.inb⟩
theorem Tr.grown {row : Option Nat} (h : Tr R w own own' w') (k : w'.grownBy w'' row) (hr : ∀ g, row = some g → w.heap.size ≤ g ∨ ∃ r, own g = some r ∧ R r) : Tr R w own own' w'' :=
  ⟨k.os.trans h.os, k.tape.trans h.tape, k.output.trans h.output, Nat.le_trans h.size k.size,
    fun g hg hn => (k.block g (Nat.lt_of_lt_of_le hg h.size) (fun e => by
      rcases hr g e.symm with h1 | ⟨r, e1, h1⟩
      · omega
      · exact hn r e1 h1)).trans (h.block g hg hn),
    h.kept, fun g r e => Nat.lt_of_lt_of_le (h.inb g r e) k.size⟩
theorem Tr.drew (h : Tr R w own own' w') : Tr R w own own' w'.drew := ⟨h.os, h.tape, h.output, h.size, h.block, h.kept, h.inb⟩
theorem Tr.alloc (h : Tr R w own own' w') (o : Obj) : Tr R w own own' (w'.alloc o) := h.grown (World.grownBy_alloc w' o none) (fun g e => by cases e)
theorem setCell_grown (w : World) (p : Addr) (u : Value) : w.grownBy (w.setCell p u) (some p.block) :=
  ⟨rfl, rfl, rfl, by simp [World.setCell], fun i _ hi => Below.heap_setCell w p u i (fun e => hi (by rw [e]))⟩
theorem Tr.setNew (h : Tr R w own own' w') {p : Addr} (hp : w.heap.size ≤ p.block) (u : Value) : Tr R w own own' (w'.setCell p u) :=
  h.grown (setCell_grown w' p u) (fun g e => by cases e; exact .inl hp)
theorem Tr.setOwn (h : Tr R w own own' w') {p : Addr} {r : Nat} (ho : own p.block = some r) (hr : R r) (u : Value) : Tr R w own own' (w'.setCell p u) :=
  h.grown (setCell_grown w' p u) (fun g e => by cases e; exact .inr ⟨r, ho, hr⟩)
theorem Tr.setMap (h : Tr R w own own' w') {b r : Nat} (ho : own b = some r) (hr : R r) (o : Obj) : Tr R w own own' (setBlock w' b o) :=
  h.grown (setBlock_grown w' b o) (fun g e => by cases e; exact .inr ⟨r, ho, hr⟩)
theorem Tr.setNewMap (h : Tr R w own own' w') {b : Nat} (hb : w.heap.size ≤ b) (o : Obj) : Tr R w own own' (setBlock w' b o) :=
  h.grown (setBlock_grown w' b o) (fun g e => by cases e; exact .inl hb)
theorem Tr.below (h : Tr R w own own' w') {B : Nat} (hB : B ≤ w.heap.size) (hn : ∀ g, g < B → own g = none) : Below B w w' :=
  ⟨h.os, h.tape, h.output, h.size, fun g hg => h.block g (by omega) (fun r e => by rw [hn g hg] at e; cases e)⟩

/-- A block that the roles R do not reach. -/
theorem Tr.at_ (h : Tr R w own own' w') {g : Nat} (hg : g < w.heap.size) (hr : ∀ r, own g = some r → ¬ R r) : w'.heap[g]? = w.heap[g]? := h.block g hg hr
theorem Tr.role (h : Tr R w own own' w') {g r : Nat} (hg : g < w.heap.size) (ho : own g = some r) : own' g = some r := (h.kept g hg).trans ho
theorem Tr.blk (h : Tr R w own own' w') {g : Nat} {t : TypeId} {cs : Array Value} (hb : Blk w g t cs) (hr : ∀ r, own g = some r → ¬ R r) : Blk w' g t cs := (h.block g hb.lt hr).trans hb
theorem Tr.blkR (h : Tr R w own own' w') {g r : Nat} {t : TypeId} {cs : Array Value} (hb : Blk w g t cs) (ho : own g = some r) (hr : ¬ R r) : Blk w' g t cs := h.blk hb (fun r' e => by rw [ho] at e; cases e; exact hr)
theorem Tr.map {P : Program} {k : TypeId} {b r : Nat} {es : Array MapEntry} {clock : Nat} (h : Tr R w own own' w') (hm : MapAt P k w b es clock) (ho : own b = some r) (hr : ¬ R r) : MapAt P k w' b es clock :=
  hm.kept (h.block b hm.lt (fun r' e => by rw [ho] at e; cases e; exact hr))
theorem Tr.cell (h : Tr R w own own' w') {a : Addr} {u : Value} (hc : w.cell? a = some u) (hr : ∀ r, own a.block = some r → ¬ R r) : w'.cell? a = some u :=
  (World.cell?_of_block (h.block a.block (World.block_lt_of_cell? w a hc) hr)).trans hc

variable {r : Nat} {e : TypeId} {size : Nat} {v : Value} {n : Nat} {xs : List Value}
theorem Row.lt (h : Row w own r e size v n xs) : ∀ g, v.ownBlock = some g → g < w.heap.size := fun g hg => (h.1.lt g hg).2
theorem Row.keep (h : Row w own r e size v n xs) (k : Tr R w own own' w') (hr : ¬ R r) : Row w' own' r e size v n xs := by
  refine ⟨⟨h.1.1, ?_⟩, fun g hg => (k.kept g (h.lt g hg)).trans (h.2 g hg)⟩
  rcases h.1.2 with hn | ⟨g, cap, cur, rfl, hb, hgg, rest⟩
  · exact .inl hn
  · refine .inr ⟨g, cap, cur, rfl, hb, ?_, rest⟩
    rw [k.block g (Array.getElem?_eq_some_iff.1 hgg).1 (fun r' e' => by rw [h.2 g rfl] at e'; cases e'; exact hr)]
    exact hgg
theorem Row.nil (w : World) (own : Nat → Option Nat) (r : Nat) (e : TypeId) (size : Nat) : Row w own r e size (.slice none 0 0) 0 [] := ⟨World.ownsRow_nil w 0 e size, fun g hg => by cases hg⟩
theorem Row.len (h : Row w own r e size v n xs) : xs.length = n * size := h.1.1
theorem Row.reads (h : Row w own r e size v n xs) : ∃ A c, v = .slice A n c ∧ Reads w w.heap.size size A n xs := by
  rcases h.1.2 with ⟨rfl, rfl⟩ | ⟨g, cap, cur, rfl, _⟩
  · have : xs = [] := List.eq_nil_of_length_eq_zero (by simpa using h.1.1)
    subst this
    exact ⟨none, 0, rfl, Reads.none_⟩
  · exact ⟨_, _, rfl, Reads.of_own h.1⟩

/-- own, and role r at block g. -/
def give (own : Nat → Option Nat) (g r : Nat) : Nat → Option Nat := fun x => if x = g then some r else own x
theorem give_same (own : Nat → Option Nat) (g r : Nat) : give own g r g = some r := by simp [give]
theorem give_other {own : Nat → Option Nat} {g r x : Nat} (h : x ≠ g) : give own g r x = own x := by simp [give, h]

theorem Tr.give (h : Tr R w own own' w') {g : Nat} (hg : w.heap.size ≤ g) (hl : g < w'.heap.size) (r : Nat) : Tr R w own (give own' g r) w' :=
  ⟨h.os, h.tape, h.output, h.size, h.block, fun x hx => (give_other (by omega)).trans (h.kept x hx), fun x r' e => by
    by_cases hx : x = g
    · subst hx; exact hl
    · rw [give_other hx] at e; exact h.inb x r' e⟩

/-- A slice of role r is turned into another one, in its own block or in a new one. -/
theorem Row.after {v' : Value} {n' : Nat} {xs' : List Value} (h : Row w own r e size v n xs) (hi : ∀ g r, own g = some r → g < w.heap.size) (hR : R r) (hg : w.grownBy w' v.ownBlock) (h' : w'.ownsRow 0 e size v' n' xs')
    (hb : v'.ownBlock = v.ownBlock ∨ ∃ g, w.heap.size ≤ g ∧ v'.ownBlock = some g) : ∃ own', Row w' own' r e size v' n' xs' ∧ Tr R w own own' w' := by
  have h0 : Tr R w own own w' := (Tr.refl R hi).grown hg (fun g e => .inr ⟨r, h.2 g e, hR⟩)
  rcases hb with hb | ⟨g, hge, hb⟩
  · exact ⟨own, ⟨h', fun g hg' => h.2 g (hb ▸ hg')⟩, h0⟩
  · refine ⟨Go.Proofs.YtjlndgkahmcfdaaDoor.give own g r, ⟨h', fun x hx => ?_⟩, h0.give hge (h'.lt g hb).2 r⟩
    rw [hb] at hx
    cases hx
    exact give_same _ _ _
end

end Go.Proofs.YtjlndgkahmcfdaaDoor
