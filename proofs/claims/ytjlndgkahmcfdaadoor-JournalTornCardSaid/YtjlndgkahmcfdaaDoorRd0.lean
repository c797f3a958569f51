/- The walks of the reader's small methods: fail, mark, Left, Done, Rest, Open, isDigit. No condition but that the receiver lies in a block of its own. -/
import Derived.Test.YtjlndgkahmcfdaaDoorRows
import Derived.Test.YtjlndgkahmcfdaaDoorMem
import Derived.WalkKit
import Derived.LoopTactic
import Derived.WalkSpells
import Derived.WalkLawsBesides
import Derived.Lib.Strings
import Derived.Lib.RabinKarpLaws
import Derived.Lib.SmallJoins
namespace Go.Proofs.YtjlndgkahmcfdaaDoor
set_option maxRecDepth 8000
open Go.RowKit

/-- Block b is a reader: what is left, and whether it has failed. -/
def Rd (w : World) (b : Nat) (s : ByteArray) (f : Bool) : Prop := Blk w b 101 #[.string s, .bool f]

theorem Rd.c0 {w : World} {b : Nat} {s : ByteArray} {f : Bool} (h : Rd w b s f) : w.cell? ⟨b, 0, none⟩ = some (.string s) := Blk.cell h 0
theorem Rd.c1 {w : World} {b : Nat} {s : ByteArray} {f : Bool} (h : Rd w b s f) : w.cell? ⟨b, 1, none⟩ = some (.bool f) := Blk.cell h 1
theorem Rd.fz {w : World} {b : Nat} {s : ByteArray} {f : Bool} (h : Rd w b s f) (i : Nat) : w.frozen? ⟨b, i, none⟩ = false := Blk.frozen h i
theorem Rd.set0 {w : World} {b : Nat} {s : ByteArray} {f : Bool} (h : Rd w b s f) (t : ByteArray) : Rd (w.setCell ⟨b, 0, none⟩ (.string t)) b t f := Blk.set_ h 0 _
theorem Rd.set1 {w : World} {b : Nat} {s : ByteArray} {f : Bool} (h : Rd w b s f) (g : Bool) : Rd (w.setCell ⟨b, 1, none⟩ (.bool g)) b s g := Blk.set_ h 1 _

theorem only_set {a w : World} {g : Nat} (h : a.grownBy w (some g)) (i : Nat) (u : Value) : a.grownBy (w.setCell ⟨g, i, none⟩ u) (some g) := only_setCell (p := ⟨g, i, none⟩) h (.inl rfl) u

set_option maxHeartbeats 400000 in
theorem fail_any (b : Nat) (s : ByteArray) (f : Bool) (w : World) (h : Rd w b s f) :
    Calls Tryd.prog 68 #[.pointer (some ⟨b, 0, none⟩)] w fun e w' => e = .returned (.tuple #[]) ∧ Rd w' b ⟨#[]⟩ true ∧ w.grownBy w' (some b) := by
  have c0 := h.c0
  have c1 := h.c1
  have f0 := h.fz 0
  have f1 := h.fz 1
  go_enter Tryd.func68, Tryd.ntmps68
  go_wp2
  go_end0
  exact ⟨rfl, (h.set0 _).set1 _, only_set (only_set (World.grownBy.refl _ _) 0 _) 1 _⟩

theorem results_noneW {fn : Func} (h : fn.results = #[]) (tmps : Array Value) (P : Program) (w : World) : (results fn tmps).run P w = .ok (.tuple #[]) w := by simp [results, h]

theorem emp_of {s : ByteArray} (h : 0 < s.size) : s.toList.isEmpty = false := by
  rw [Lib.toList_data]
  rw [Lib.size_eq] at h
  cases hs : s.data.toList with
  | nil => simp [hs] at h
  | cons a l => rfl
theorem nil_of {s : ByteArray} (h : 0 < s.size) : ¬ s.toList = [] := by
  intro e
  have := emp_of h
  rw [e] at this
  cases this
theorem pos_of {s : ByteArray} (h : ¬ s.toList = []) : 0 < s.size := by
  rw [Lib.toList_data] at h
  rw [Lib.size_eq]
  exact List.length_pos_iff.2 h
theorem head_of {s : ByteArray} (h : 0 < s.size) : s.data.toList.head? = some s[0] := by
  rw [List.head?_eq_getElem?]
  exact (List.getElem?_eq_some_iff.2 ⟨by rw [← Lib.size_eq]; exact h, rfl⟩)
theorem byte_ne {a b : UInt8} (h : ((a.toNat : Int) != (b.toNat : Int)) = false) : a = b := by
  have h' : (a.toNat : Int) = (b.toNat : Int) := by simpa using h
  exact UInt8.toNat_inj.1 (by omega)

set_option maxHeartbeats 400000 in
theorem mark_yes (b : Nat) (s : ByteArray) (f : Bool) (c : UInt8) (w : World) (h : Rd w b s f) (hh : s.data.toList.head? = some c) :
    Calls Tryd.prog 69 #[.pointer (some ⟨b, 0, none⟩), .int .u8 (c.toNat : Int)] w fun e w' => e = .returned (.tuple #[]) ∧ Rd w' b (s.extract 1 s.size) f ∧ w.grownBy w' (some b) := by
  have hn : 0 < s.size := by
    rw [Lib.size_eq]
    cases hs : s.data.toList with
    | nil => rw [hs] at hh; cases hh
    | cons a l => simp
  have hc : s[0] = c := Option.some.inj ((head_of hn).symm.trans hh)
  clear hh
  have c0 := h.c0
  have f0 := h.fz 0
  go_enter Tryd.func69, Tryd.ntmps69
  have e1 : s.toList.isEmpty = false := emp_of hn
  have e2 : ¬ s.toList = [] := nil_of hn
  have e3 : ((s[0].toNat : Int) != (c.toNat : Int)) = false := by rw [hc]; simp
  have HC := Lib.hid hc
  clear hc
  go_wp2
  go_end0
  exact ⟨rfl, (h.set0 _), only_set (World.grownBy.refl _ _) 0 _⟩

set_option maxHeartbeats 400000 in
theorem mark_no (b : Nat) (s : ByteArray) (f : Bool) (c : UInt8) (w : World) (h : Rd w b s f) (hc : s.data.toList.head? ≠ some c) :
    Calls Tryd.prog 69 #[.pointer (some ⟨b, 0, none⟩), .int .u8 (c.toNat : Int)] w fun e w' => e = .returned (.tuple #[]) ∧ Rd w' b ⟨#[]⟩ true ∧ w.grownBy w' (some b) := by
  have c0 := h.c0
  have f0 := h.fz 0
  go_enter Tryd.func69, Tryd.ntmps69
  go_wp2_with (go_at_call 68; refine (fail_any b s f _ h).mono ?_; rintro e w' ⟨rfl, h1, g1⟩)
  · exact bodyPost_ret (results_noneW rfl _ _ _) rfl ⟨rfl, h1, g1⟩
  · exact bodyPost_ret (results_noneW rfl _ _ _) rfl ⟨rfl, h1, g1⟩
  · have h3 : 0 < s.size := by assumption
    have h4 : s.toList.isEmpty = false ∧ ((s[0].toNat : Int) != (c.toNat : Int)) = false := by assumption
    exact absurd (head_of h3) (by rw [byte_ne h4.2]; exact hc)
  · have h2 : ¬ s.toList = [] := by assumption
    have h3 : ¬ 0 < s.size := by assumption
    exact absurd (pos_of h2) h3

set_option maxHeartbeats 400000 in
theorem isDigit_yes (c : Int) (w : World) (h1 : 48 ≤ c) (h2 : c ≤ 57) :
    Calls Tryd.prog 97 #[.int .u8 c] w fun e w' => e = .returned (.bool true) ∧ w = w' := by
  go_enter Tryd.func97, Tryd.ntmps97
  go_wp2
  go_ret
  exact ⟨by simp, rfl⟩

set_option maxHeartbeats 400000 in
theorem isDigit_no (c : Int) (w : World) (h : c < 48 ∨ 57 < c) :
    Calls Tryd.prog 97 #[.int .u8 c] w fun e w' => e = .returned (.bool false) ∧ w = w' := by
  rcases h with h | h
  · go_enter Tryd.func97, Tryd.ntmps97
    go_wp2
    go_ret
    exact ⟨rfl, rfl⟩
  · have h1 : 48 ≤ c := by omega
    have h2 : decide (c ≤ 57) = false := by simp; omega
    go_enter Tryd.func97, Tryd.ntmps97
    go_wp2
    go_ret
    exact ⟨by simp, rfl⟩

set_option maxHeartbeats 400000 in
theorem left_any (b : Nat) (s : ByteArray) (f : Bool) (w : World) (h : Rd w b s f) :
    Calls Tryd.prog 30 #[.pointer (some ⟨b, 0, none⟩)] w fun e w' => e = .returned (.int .i64 s.size) ∧ w = w' := by
  have c0 := h.c0
  go_enter Tryd.func30, Tryd.ntmps30
  go_wp2
  go_ret
  exact ⟨rfl, rfl⟩

set_option maxHeartbeats 400000 in
theorem done_any (b : Nat) (s : ByteArray) (f : Bool) (w : World) (h : Rd w b s f) :
    Calls Tryd.prog 94 #[.pointer (some ⟨b, 0, none⟩)] w fun e w' => e = .returned (.bool (!f && s.data.toList.isEmpty)) ∧ w = w' := by
  have c0 := h.c0
  have c1 := h.c1
  cases f
  all_goals go_enter Tryd.func94, Tryd.ntmps94
  all_goals go_wp2
  all_goals go_ret
  all_goals exact ⟨by simp [Lib.toList_data], rfl⟩

set_option maxHeartbeats 400000 in
theorem open_any (s : ByteArray) (w : World) :
    Calls Tryd.prog 29 #[.string s] w fun e w' => e = .returned (.pointer (some ⟨w.heap.size, 0, none⟩)) ∧ Rd w' w.heap.size s false ∧ Below w.heap.size w w' := by
  go_enter Tryd.func29, Tryd.ntmps29
  go_wp2
  go_ret
  exact ⟨rfl, Blk.new _ _ _, (Below.refl _ _).alloc (Nat.le_refl _) _⟩

end Go.Proofs.YtjlndgkahmcfdaaDoor
