/- The walks of the disk's small functions: isFile, extend, put, and the library's slices.Clone at three types. No condition but sizes. -/
import Derived.Test.YtjlndgkahmcfdaaDoorRows
import Derived.Test.YtjlndgkahmcfdaaDoorTr
import Derived.WalkKit
import Derived.LoopTactic
import Derived.WalkSpells
import Derived.WalkLawsBesides
namespace Go.Proofs.YtjlndgkahmcfdaaDoor
set_option maxRecDepth 8000
open Go.RowKit Go.ChangeMaps

/-- Is f a file's number? -/
def isF (f : Int) : Bool := decide (0 ≤ f ∧ f < 16)
theorem isF_iff {f : Int} : isF f = true ↔ 0 ≤ f ∧ f < 16 := by simp [isF]

set_option maxHeartbeats 400000 in
theorem isFile_any (f : Int) (w : World) : Calls Tryd.prog 72 #[.int .i64 f] w fun e w' => e = .returned (.bool (isF f)) ∧ w = w' := by
  by_cases h0 : 0 ≤ f
  · go_enter Tryd.func72, Tryd.ntmps72
    go_wp2
    go_ret
    exact ⟨by simp [isF, h0], rfl⟩
  · have h1 : decide (0 ≤ f) = false := by simpa using h0
    go_enter Tryd.func72, Tryd.ntmps72
    go_wp2
    go_ret
    exact ⟨by simp [isF]; omega, rfl⟩

theorem infoU8 : (Tryd.prog.info? 5).map (fun i => (i.zero, i.size, i.bytes)) = some (some (.int .u8 0), 1, 1) := by kernel_rfl
theorem infoInt : (Tryd.prog.info? 3).map (fun i => (i.zero, i.size, i.bytes)) = some (some (.int .i64 0), 1, 8) := by kernel_rfl
theorem infoSec : (Tryd.prog.info? 93).map (fun i => (i.zero, i.size, i.bytes)) = some (some (.agg #[.int .i64 0, .int .i64 0]), 2, 16) := by kernel_rfl

theorem own_slice {w : World} {base : Nat} {e : TypeId} {size n : Nat} {v : Value} {xs : List Value} (h : w.ownsRow base e size v n xs) : ∃ A c, v = .slice A n c ∧ n ≤ c ∧ c ≤ maxLen := by
  rcases h.2 with ⟨rfl, rfl⟩ | ⟨g, cap, cur, rfl, _, _, h1, h2, _⟩
  · exact ⟨_, _, rfl, Nat.le_refl _, by unfold maxLen; omega⟩
  · exact ⟨_, _, rfl, h1, h2⟩

/-- How a call ends that turns the bytes of slice v, in place or in a new block. -/
def NewRow (w : World) (v : Value) (n : Nat) (l : List UInt8) (e : Ending) (w' : World) : Prop :=
  ∃ v', e = .returned v' ∧ w'.ownsRow 0 5 1 v' n (bv l) ∧ w.grownBy w' v.ownBlock ∧ (v'.ownBlock = v.ownBlock ∨ ∃ g, w.heap.size ≤ g ∧ v'.ownBlock = some g)

set_option maxHeartbeats 400000 in
theorem extend_any (v : Value) (n k : Nat) (l : List UInt8) (w : World) (h : w.ownsRow 0 5 1 v n (bv l)) (hk : k ≤ 536870912) (hn : n ≤ 536870912) :
    Calls Tryd.prog 114 #[v, .int .i64 k] w (NewRow w v (max n k) (extB l k)) := by
  obtain ⟨i0, hi, hz0, hz1, hz2⟩ := info_parts infoU8
  have hl : l.length = n := by have := h.1; rw [bv_len] at this; omega
  obtain ⟨v', w1, hrun, hown, hgr, hb⟩ := run_zeros (P := Tryd.prog) (w := w) 58 3 58 5 i0 _ .i64 .i64 Tryd.underlying58 Tryd.underlying3 hi hz0 hz1 hz2 rfl rfl v n _ h (k - n) (by omega)
  have hend : NewRow w v (max n k) (extB l k) (.returned v') w1 := by
    refine ⟨v', rfl, ?_, hgr, hb.imp id (fun e => ⟨_, Nat.le_refl _, e⟩)⟩
    have : bv (extB l k) = bv l ++ List.replicate (k - n) (.int .u8 0) := by
      unfold extB
      rw [bv_app, bv_zeros, hl]
    rw [this, show max n k = n + (k - n) from by omega]
    exact hown
  have HE := Lib.hid hend
  clear hend hown hgr hb
  obtain ⟨A, c, rfl, _, _⟩ := own_slice h
  have HL := Lib.hid hl
  clear hl
  have HM := Lib.hid (show (if (k : Int) - (n : Int) < 0 then 0 else (k : Int) - (n : Int)) = ((k - n : Nat) : Int) by split <;> omega)
  have HR := Lib.hid hrun
  clear hrun
  go_enter Tryd.func114, Tryd.ntmps114
  go_wp2_with (at_builtin; refine Lib.wpList_append_run _ rfl _ _ _ _ rfl (.slice A n c) (.int .i64 ((k - n : Nat) : Int)) rfl (by exact congrArg (Value.int .i64) HM.out) v' w1 HR.out ?_)
  all_goals
    go_ret
    exact HE.out

/-- append of a row that a slice owns (or of none) to no elements: slices.Clone. -/
theorem run_clone {P : Program} {w : World} (t ty e : TypeId) (i : TypeInfo) (z : Value) (size bytes : Nat) (ht : P.underlying t = some (.slice e)) (hi : P.info? e = some i) (hz : i.zero = some z)
    (hsize : i.size = size) (hby : i.bytes = bytes) (hzs : z.cells.size = size) (hsz : 0 < size) (B : Nat) (A : Option Addr) (m c : Nat) (xs : List Value) (hr : Reads w B size A m xs) (h1 : ∀ u ∈ xs, u.oneCell' = true)
    (b : Nat) (hb : w.heap[b]? = some (.cells #[] e (0, 0))) (h63 : m ≤ maxLen) (hbytes : m * bytes ≤ 140737488355328) :
    ∃ v' w', (Builtin.append_ #[t, t] ty #[.slice (some ⟨b, 0, none⟩) 0 0, .slice A m c]).run P w = .ok v' w' ∧ w'.ownsRow 0 e size v' m xs ∧ w.grownBy w' (some b) ∧ (v'.ownBlock = some b ∨ v'.ownBlock = some w.heap.size) := by
  have hown : w.ownsRow 0 e size (.slice (some ⟨b, 0, none⟩) 0 0) 0 [] := ⟨by simp, .inr ⟨b, 0, #[], rfl, Nat.zero_le _, hb, Nat.le_refl _, by unfold maxLen; omega, by simp, by simp⟩⟩
  obtain ⟨v', w', hrun, h2, h3, h4⟩ := run_append_any w 0 t ty e i z size bytes ht hi hz hsize hby hzs hsz _ _ _ hown B A m c xs hr h1 (by omega) (by rw [Nat.zero_add]; exact hbytes) (Nat.zero_le _)
  refine ⟨v', w', hrun, by simpa using h2, h3, h4⟩

end Go.Proofs.YtjlndgkahmcfdaaDoor
