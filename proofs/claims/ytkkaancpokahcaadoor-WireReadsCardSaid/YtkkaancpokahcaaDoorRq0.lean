/- The walks of the reference reader's small methods: Open, fail, close, Left, Done, Tail. No condition but that the receiver lies in a block of its own. -/
import Derived.Test.YtkkaancpokahcaaDoorRl
namespace Go.Proofs.YtkkaancpokahcaaDoor
open Go.RowKit Go.Lib

/-- Block b is a reader of the reference. -/
def Rq (w : World) (b : Nat) (s : ByteArray) (f : Bool) : Prop := Blk w b 56 #[.string s, .bool f]
theorem Rq.c0 {w : World} {b : Nat} {s : ByteArray} {f : Bool} (h : Rq w b s f) : w.cell? ⟨b, 0, none⟩ = some (.string s) := Blk.cell h 0
theorem Rq.c1 {w : World} {b : Nat} {s : ByteArray} {f : Bool} (h : Rq w b s f) : w.cell? ⟨b, 1, none⟩ = some (.bool f) := Blk.cell h 1
theorem Rq.fz {w : World} {b : Nat} {s : ByteArray} {f : Bool} (h : Rq w b s f) (i : Nat) : w.frozen? ⟨b, i, none⟩ = false := Blk.frozen h i
theorem Rq.set0 {w : World} {b : Nat} {s : ByteArray} {f : Bool} (h : Rq w b s f) (t : ByteArray) : Rq (w.setCell ⟨b, 0, none⟩ (.string t)) b t f := Blk.set_ h 0 _
theorem Rq.set1 {w : World} {b : Nat} {s : ByteArray} {f : Bool} (h : Rq w b s f) (g : Bool) : Rq (w.setCell ⟨b, 1, none⟩ (.bool g)) b s g := Blk.set_ h 1 _
def RqL (w : World) (b : Nat) (l : List UInt8) (f : Bool) : Prop := Rq w b ⟨l.toArray⟩ f
theorem RqL.ex {w : World} {b : Nat} {l : List UInt8} {f : Bool} (h : RqL w b l f) : ∃ t : ByteArray, t.data.toList = l ∧ Rq w b t f := ⟨⟨l.toArray⟩, by simp, h⟩
theorem RqL.to {w : World} {b : Nat} {s : ByteArray} {l : List UInt8} {f : Bool} (h : Rq w b s f) (hl : s.data.toList = l) : RqL w b l f := by
  unfold RqL
  rw [← str_of hl]
  exact h
theorem Rq.grown {w w' : World} {b : Nat} {s : ByteArray} {f : Bool} {row : Option Nat} (h : Rq w b s f) (hg : w.grownBy w' row) (hne : some b ≠ row) : Rq w' b s f := Blk.grown h hg hne

set_option maxHeartbeats 400000 in
theorem qfail (b : Nat) (s : ByteArray) (f : Bool) (w : World) (h : Rq w b s f) :
    Calls Tryd.prog 54 #[.pointer (some ⟨b, 0, none⟩)] w fun e w' => e = .returned (.int .i64 0) ∧ Rq w' b ⟨#[]⟩ true ∧ w.grownBy w' (some b) := by
  have c0 := h.c0
  have c1 := h.c1
  have f0 := h.fz 0
  have f1 := h.fz 1
  go_enter Tryd.func54, Tryd.ntmps54
  go_wp2
  go_ret
  exact ⟨rfl, (h.set0 _).set1 _, only_set (only_set (World.grownBy.refl _ _) 0 _) 1 _⟩

set_option maxHeartbeats 400000 in
theorem qopen (s : ByteArray) (w : World) :
    Calls Tryd.prog 22 #[.string s] w fun e w' => e = .returned (.pointer (some ⟨w.heap.size, 0, none⟩)) ∧ Rq w' w.heap.size s false ∧ Below w.heap.size w w' := by
  go_enter Tryd.func22, Tryd.ntmps22
  go_wp2
  go_ret
  exact ⟨rfl, Blk.new _ _ _, (Below.refl _ _).alloc (Nat.le_refl _) _⟩

set_option maxHeartbeats 400000 in
theorem qleft (b : Nat) (s : ByteArray) (f : Bool) (w : World) (h : Rq w b s f) :
    Calls Tryd.prog 37 #[.pointer (some ⟨b, 0, none⟩)] w fun e w' => e = .returned (.int .i64 s.size) ∧ w = w' := by
  have c0 := h.c0
  go_enter Tryd.func37, Tryd.ntmps37
  go_wp2
  go_ret
  exact ⟨rfl, rfl⟩

set_option maxHeartbeats 400000 in
theorem qdone (b : Nat) (s : ByteArray) (f : Bool) (w : World) (h : Rq w b s f) :
    Calls Tryd.prog 39 #[.pointer (some ⟨b, 0, none⟩)] w fun e w' => e = .returned (.bool (!f && s.data.toList.isEmpty)) ∧ w = w' := by
  have c0 := h.c0
  have c1 := h.c1
  cases f
  all_goals go_enter Tryd.func39, Tryd.ntmps39
  all_goals go_wp2
  all_goals go_ret
  all_goals exact ⟨by simp [Lib.toList_data], rfl⟩

set_option maxHeartbeats 400000 in
theorem qtail (b : Nat) (s : ByteArray) (f : Bool) (w : World) (h : Rq w b s f) :
    Calls Tryd.prog 41 #[.pointer (some ⟨b, 0, none⟩)] w fun e w' => e = .returned (.string s) ∧ Rq w' b ⟨#[]⟩ f ∧ w.grownBy w' (some b) := by
  have c0 := h.c0
  have f0 := h.fz 0
  go_enter Tryd.func41, Tryd.ntmps41
  go_wp2
  go_ret
  exact ⟨rfl, h.set0 _, only_set (World.grownBy.refl _ _) 0 _⟩

set_option maxHeartbeats 400000 in
theorem qclose_yes (b : Nat) (s : ByteArray) (f : Bool) (c : UInt8) (ci : Int) (w : World) (h : Rq w b s f) (hci : ci = (c.toNat : Int)) (hh : s.data.toList.head? = some c) :
    Calls Tryd.prog 55 #[.pointer (some ⟨b, 0, none⟩), .int .u8 ci] w fun e w' => e = .returned (.bool true) ∧ Rq w' b (s.extract 1 s.size) f ∧ w.grownBy w' (some b) := by
  subst hci
  have hn : 0 < s.size := by
    rw [Lib.size_eq]
    cases hs : s.data.toList with
    | nil => rw [hs] at hh; cases hh
    | cons a l => simp
  have hc : s[0] = c := Option.some.inj ((head_of hn).symm.trans hh)
  clear hh
  have c0 := h.c0
  have f0 := h.fz 0
  have e1 : ((s.size : Int) == 0) = false := by rw [beq_eq_false_iff_ne]; omega
  have e3 : ((s[0].toNat : Int) != (c.toNat : Int)) = false := by rw [hc]; simp
  clear hc
  go_enter Tryd.func55, Tryd.ntmps55
  go_wp2
  go_ret
  exact ⟨rfl, (h.set0 _), only_set (World.grownBy.refl _ _) 0 _⟩

set_option maxHeartbeats 400000 in
theorem qclose_no (b : Nat) (s : ByteArray) (f : Bool) (c : UInt8) (ci : Int) (w : World) (h : Rq w b s f) (hci : ci = (c.toNat : Int)) (hc : s.data.toList.head? ≠ some c) :
    Calls Tryd.prog 55 #[.pointer (some ⟨b, 0, none⟩), .int .u8 ci] w fun e w' => e = .returned (.bool false) ∧ Rq w' b ⟨#[]⟩ true ∧ w.grownBy w' (some b) := by
  subst hci
  have c0 := h.c0
  have f0 := h.fz 0
  by_cases hn : s.size = 0
  · have e1 : ((s.size : Int) == 0) = true := by simp [hn]
    clear hn
    go_enter Tryd.func55, Tryd.ntmps55
    go_wp2_with (go_at_call 54; refine (qfail b s f _ h).mono ?_; rintro e w' ⟨rfl, h1, g1⟩)
    go_ret
    exact ⟨rfl, h1, g1⟩
  · have hn' : 0 < s.size := by omega
    have e1 : ((s.size : Int) == 0) = false := by simp [hn]
    have e3 : ((s[0].toNat : Int) != (c.toNat : Int)) = true := by
      rw [bne_iff_ne]
      intro he
      exact hc (by rw [head_of hn']; exact congrArg some (UInt8.toNat_inj.1 (by omega)))
    clear hn hc
    go_enter Tryd.func55, Tryd.ntmps55
    go_wp2_with (go_at_call 54; refine (qfail b s f _ h).mono ?_; rintro e w' ⟨rfl, h1, g1⟩)
    go_ret
    exact ⟨rfl, h1, g1⟩

end Go.Proofs.YtkkaancpokahcaaDoor
