/- Disks that were made since a world, in the words of which the laws speak. No condition but what each says. -/
import Derived.Test.YtjlndgkahmcfdaaDoorNw
namespace Go.Proofs.YtjlndgkahmcfdaaDoor
set_option maxRecDepth 8000
open Go.RowKit Go.ChangeMaps

theorem bStr_toList (l : List UInt8) : (bStr l).toList = l := (ByteArray.toList_eq _).trans (by simp [bStr])
theorem bStr_size (l : List UInt8) : (bStr l).size = l.length := by simp [bStr, ByteArray.size]

/-- A disk that was made since W; nothing older has turned. -/
structure Dx (W w : World) (own : Nat → Option Nat) (b : Nat) (s : Ds) : Prop where
  da : Da w own b s
  below : Below W.heap.size W w
  new : ∀ g r, own g = some r → W.heap.size ≤ g

section
variable {W w w' : World} {own own' own2 : Nat → Option Nat} {b b2 : Nat} {s s' s2 : Ds}
theorem Dx.turn (h : Dx W w own b s) (hd : Da w' own' b s') (t : Tr (fun _ => True) w own own' w') : Dx W w' own' b s' := by
  refine ⟨hd, h.below.trans (t.below h.below.size (fun g hg => ?_)), fun g r e => ?_⟩
  · cases e : own g with
    | none => rfl
    | some r => have := h.new g r e; omega
  · by_cases hg : g < w.heap.size
    · rw [t.kept g hg] at e; exact h.new g r e
    · have := h.below.size; omega
theorem Dx.step {v : Value} {e : Ending} (h : Dx W w own b s) (he : AEnd w own b s' v e w') : ∃ own', e = .returned v ∧ Dx W w' own' b s' ∧ Tr (fun _ => True) w own own' w' := by
  obtain ⟨rfl, own', hd, t⟩ := he
  exact ⟨own', rfl, h.turn hd t, t⟩
theorem Dx.first {e : Ending} (hb : Below W.heap.size W w) (he : NewEnd w s e w') : ∃ b own, e = .returned (.pointer (some ⟨b, 0, none⟩)) ∧ Dx W w' own b s ∧ (Below w.heap.size w w' ∧ ∀ g r, own g = some r → w.heap.size ≤ g) := by
  obtain ⟨b, own, rfl, hd, h1, h2⟩ := he
  exact ⟨b, own, rfl, ⟨hd, hb.trans (h1.mono hb.size), fun g r e => Nat.le_trans hb.size (h2 g r e)⟩, h1, h2⟩
/-- A disk beside one that has just been made. -/
theorem Dx.past (h : Dx W w own b s) (hb : Below w.heap.size w w') (hn : ∀ g r, own2 g = some r → w.heap.size ≤ g) : Dx W w' own b s ∧ Apart own own2 :=
  ⟨⟨h.da.kept1 (fun g r e => hb.block g (h.da.inb g r e)) hb.size, h.below.trans (hb.mono h.below.size), h.new⟩, fun g r e => by
    cases e1 : own g with
    | none => rfl
    | some r1 => have := h.da.inb g r1 e1; have := hn g r e; omega⟩
theorem Dx.alloc (h : Dx W w own b s) (o : Obj) : Dx W (w.alloc o) own b s :=
  ⟨h.da.far ((Tr.refl (fun _ => False) h.da.inb).alloc o), h.below.alloc h.below.size o, h.new⟩
theorem Dx.drew (h : Dx W w own b s) : Dx W w.drew own b s := ⟨h.da.far (Tr.refl (fun _ => False) h.da.inb).drew, h.below.drew, h.new⟩
theorem Dx.other (h2 : Dx W w own2 b2 s2) (ap : Apart own own2) (h : Dx W w' own' b s) (t : Tr (fun _ => True) w own own' w') : Dx W w' own2 b2 s2 ∧ Apart own' own2 := by
  obtain ⟨h3, h4⟩ := h2.da.other ap t
  exact ⟨⟨h3, h.below, h2.new⟩, h4⟩
end

/-- How a method ends, of a disk made since W. -/
def XEnd (W w : World) (own : Nat → Option Nat) (b : Nat) (s : Ds) (v : Value) (e : Ending) (w' : World) : Prop := ∃ own', e = .returned v ∧ Dx W w' own' b s ∧ Tr (fun _ => True) w own own' w'
/-- How a function ends that hands out a disk. -/
def XNew (W w : World) (s : Ds) (e : Ending) (w' : World) : Prop := ∃ b own, e = .returned (.pointer (some ⟨b, 0, none⟩)) ∧ Dx W w' own b s ∧ Below w.heap.size w w' ∧ ∀ g r, own g = some r → w.heap.size ≤ g

section
variable {W w : World} {own : Nat → Option Nat} {b : Nat} {s s' : Ds}
theorem x_new (hb : Below W.heap.size W w) : Calls Tryd.prog 15 #[] w (XNew W w newD) := (a_new w).mono fun _ _ he => Dx.first hb he
theorem x_size (h : Dx W w own b s) {f : Int} (hf : I64 f) {n : Nat} (hr : (s.data f).length = n) : Calls Tryd.prog 37 #[.pointer (some ⟨b, 0, none⟩), .int .i64 f] w fun e w' => e = .returned (.int .i64 n) ∧ w = w' := by
  subst hr
  exact a_size w own b s f hf h.da
theorem x_read (h : Dx W w own b s) {f a n : Int} (hf : I64 f) {l : List UInt8} {r : Int} (hr : readP s f a n = (l, r)) : Calls Tryd.prog 36 #[.pointer (some ⟨b, 0, none⟩), .int .i64 f, .int .i64 a, .int .i64 n] w fun e w' => e = .returned (.tuple #[.string (bStr l), .int .i64 r]) ∧ w = w' := by
  have h1 := a_read w own b s f a n hf h.da
  rw [hr] at h1
  exact h1
theorem x_start (h : Dx W w own b s) : Calls Tryd.prog 25 #[.pointer (some ⟨b, 0, none⟩)] w (XEnd W w own b { s with down := false } (.tuple #[])) := (a_start w own b s h.da).mono fun _ _ he => h.step he
theorem x_lose (h : Dx W w own b s) {n : Int} (hn : I64 n) : Calls Tryd.prog 17 #[.pointer (some ⟨b, 0, none⟩), .int .i64 n] w (XEnd W w own b { s with lost := max n 0 } (.tuple #[])) := (a_lose w own b s n hn h.da).mono fun _ _ he => h.step he
theorem x_sync (h : Dx W w own b s) {f r : Int} (hs : (syncP s f).1 = s') (hr : (syncP s f).2 = r) : Calls Tryd.prog 56 #[.pointer (some ⟨b, 0, none⟩), .int .i64 f] w (XEnd W w own b s' (.int .i64 r)) := by
  subst hs; subst hr
  exact (a_sync w own b s f h.da).mono fun _ _ he => h.step he
theorem x_trunc (h : Dx W w own b s) {f n r : Int} (hf : I64 f) (hs : (truncP s f n).1 = s') (hr : (truncP s f n).2 = r) : Calls Tryd.prog 58 #[.pointer (some ⟨b, 0, none⟩), .int .i64 f, .int .i64 n] w (XEnd W w own b s' (.int .i64 r)) := by
  subst hs; subst hr
  exact (a_trunc w own b s f n hf h.da).mono fun _ _ he => h.step he
theorem x_write (h : Dx W w own b s) {f a r : Int} {t : ByteArray} (ht : t.size ≤ 16777216) (hs : (writeP s f a t.data.toList).1 = s') (hr : (writeP s f a t.data.toList).2 = r) : Calls Tryd.prog 28 #[.pointer (some ⟨b, 0, none⟩), .int .i64 f, .int .i64 a, .string t] w (XEnd W w own b s' (.int .i64 r)) := by
  subst hs; subst hr
  exact (a_write w own b s f a t ht h.da).mono fun _ _ he => h.step he
/-- A slice of numbers that is none of a disk's. -/
def Nums (w : World) (own : Nat → Option Nat) (A : Option Addr) (n : Nat) (l : List Int) : Prop := Reads w w.heap.size 1 A n (inV l) ∧ (0 < n → ∀ ad, A = some ad → own ad.block = none) ∧ n ≤ 1000000
theorem x_crash (h : Dx W w own b s) {A : Option Addr} {n c : Nat} {l : List Int} (hl : Nums w own A n l) (hs : crashP s l = s') : Calls Tryd.prog 24 #[.pointer (some ⟨b, 0, none⟩), .slice A n c] w (XEnd W w own b s' (.tuple #[])) := by
  subst hs
  exact (a_crash w own b s A n c l h.da hl.1 (fun hp ad e => .inl (hl.2.1 hp ad e)) hl.2.2).mono fun _ _ he => h.step he
theorem x_arm (h : Dx W w own b s) {i : Int} (hi : I64 i) {A : Option Addr} {n c : Nat} {l : List Int} (hl : Nums w own A n l) : Calls Tryd.prog 18 #[.pointer (some ⟨b, 0, none⟩), .int .i64 i, .slice A n c] w (XEnd W w own b { s with left := pos i, keep := l } (.tuple #[])) :=
  (a_arm w own b s i hi A n c l h.da hl.1 (fun hp ad e e1 => by have h1 := hl.2.1 hp ad e; rw [e1, h.da.ob] at h1; cases h1) hl.2.2).mono fun _ _ he => h.step he
theorem Nums.nil (w : World) (own : Nat → Option Nat) : Nums w own none 0 [] := ⟨Reads.none_, (fun _ ad e => by cases e), by omega⟩
/-- One that has just been made. -/
theorem Nums.new (h : Dx W w own b s) (l : List Int) (hl : l.length ≤ 1000000) : Nums (w.alloc (.cells (inV l).toArray 3)) own (some ⟨w.heap.size, 0, none⟩) l.length l := by
  refine ⟨⟨by rw [inV_len]; omega, fun _ => ⟨_, rfl, by simp, fun j u hj => ?_⟩⟩, fun _ ad e => ?_, hl⟩
  · have := cell_of_row (w.alloc (.cells (inV l).toArray 3)) w.heap.size j (inV l).toArray 3 (0, 0) (heap_alloc_new w _)
    rw [show (Addr.mk w.heap.size 0 none).add j = ⟨w.heap.size, j, none⟩ from by simp [Addr.add]; omega, this]
    simpa using hj
  · cases e
    exact own_none h.da.inb (Nat.le_refl _)
end

/-! ### The states of the documentation's examples. -/
def m1 : Ds := (writeP newD 0 0 [97, 98, 99]).1
def m2 : Ds := (syncP m1 0).1
def m3 : Ds := (writeP m2 0 1 [88, 89]).1
def m4 : Ds := crashP m3 [1]
def m5 : Ds := { m4 with down := false }
def c4 : Ds := crashP m3 [0]
def c5 : Ds := { c4 with down := false }
def c6 : Ds := (writeP c5 1 62 [97, 98, 99, 100]).1
def c7 : Ds := crashP c6 [0, 1]
def c8 : Ds := { c7 with down := false }
def c9 : Ds := (writeP c8 16 0 []).1
theorem e_a : (writeP newD 0 0 [97, 98, 99]).2 = 0 := by decide +kernel
theorem e_c : (writeP m2 0 1 [88, 89]).2 = 0 := by decide +kernel
theorem e_b : (syncP m1 0).2 = 0 := by decide +kernel
theorem e_down : m4.down = true := by decide +kernel
theorem e_r1 : readP m4 0 0 9 = ([], 8) := by decide +kernel
theorem e_r2 : readP m5 0 0 9 = ([97, 88, 89], 0) := by decide +kernel
theorem e_r3 : readP c5 0 1 9 = ([98, 99], 0) := by decide +kernel
theorem e_h : (writeP c5 1 62 [97, 98, 99, 100]).2 = 0 := by decide +kernel
theorem e_r4 : readP c8 1 60 100 = ([0, 0, 0, 0, 99, 100], 0) := by decide +kernel
theorem e_size : (c8.data 1).length = 66 := by decide +kernel
theorem e_w1 : (writeP c8 16 0 []).2 = 1 := by decide +kernel
theorem e_w2 : (writeP c9 1 16777216 [97]).2 = 6 := by decide +kernel
end Go.Proofs.YtjlndgkahmcfdaaDoor
