/- New: a disk with empty files; and a disk beside another whose method has run. No condition but what each says. -/
import Derived.Test.YtjlndgkahmcfdaaDoorAr
namespace Go.Proofs.YtjlndgkahmcfdaaDoor
set_option maxRecDepth 8000
open Go.RowKit Go.ChangeMaps Go.Maps Go.MapKept

section
variable {w w' : World} {own : Nat → Option Nat} {b m k : Nat} {pv kv : Value} {mark : Int × Int → Prop} {s : Ds}
/-- Its blocks stand, whatever else has turned. -/
theorem Dk.kept1 (h : Dk w own b m k pv kv mark s) (hk : ∀ g ρ, own g = some ρ → w'.heap[g]? = w.heap[g]?) (hs : w.heap.size ≤ w'.heap.size) : Dk w' own b m k pv kv mark s := by
  obtain ⟨es, clock, hf⟩ := h.files
  obtain ⟨es2, clock2, hm⟩ := h.marks
  refine ⟨(hk b 0 h.ob).trans h.blk, h.ob, h.om, h.ok, ⟨es, clock, hf.map.kept (hk m 1 h.om), fun e he => ?_, hf.out⟩, ⟨es2, clock2, hm.map.kept (hk k 2 h.ok), hm.ent, hm.iff_⟩, h.pend.kept0 hk, h.keep.kept0 hk, fun g ρ e => Nat.lt_of_lt_of_le (h.inb g ρ e) hs⟩
  obtain ⟨f, f0, f1, e1, dv, uv, e2, r1, r2⟩ := hf.ent e he
  exact ⟨f, f0, f1, e1, dv, uv, e2, r1.kept0 hk, r2.kept0 hk⟩
theorem Da.kept1 (h : Da w own b s) (hk : ∀ g ρ, own g = some ρ → w'.heap[g]? = w.heap[g]?) (hs : w.heap.size ≤ w'.heap.size) : Da w' own b s := by
  obtain ⟨ho, m, k, pv, kv, hd⟩ := h
  exact ⟨ho, m, k, pv, kv, hd.kept1 hk hs⟩
end

/-- Two disks share no block. -/
def Apart (own own2 : Nat → Option Nat) : Prop := ∀ g r, own2 g = some r → own g = none
theorem Apart.symm {own own2 : Nat → Option Nat} (h : Apart own own2) : Apart own2 own := fun g r e => by
  cases h2 : own2 g with
  | none => rfl
  | some r2 => rw [h g r2 h2] at e; cases e
/-- A method of the one leaves the other. -/
theorem Da.other {w w' : World} {own own' own2 : Nat → Option Nat} {R : Nat → Prop} {b2 : Nat} {s2 : Ds} (h : Da w own2 b2 s2) (ap : Apart own own2) (t : Tr R w own own' w') : Da w' own2 b2 s2 ∧ Apart own' own2 :=
  ⟨h.kept1 (fun g r e => t.block g (h.inb g r e) (fun r' e' => by rw [ap g r e] at e'; cases e')) t.size,
    fun g r e => (t.kept g (h.inb g r e)).trans (ap g r e)⟩

def newD : Ds := ⟨fun _ => [], fun _ => [], [], 0, 0, [], false⟩
theorem newD_ok : Ok newD where
  pend := fun p hp => by cases hp
  nodup := List.nodup_nil
  size := fun f => Nat.zero_le _
  dur := fun f => Nat.le_refl _
  old := fun f i _ => rfl
  last := fun f h => by simp [newD] at h
  files := fun f _ => ⟨rfl, rfl⟩
  left := by simp [newD]
  lost := by simp [newD]
  keep := Nat.zero_le _

/-- How a function ends that hands out a new disk. -/
def NewEnd (w : World) (s : Ds) (e : Ending) (w' : World) : Prop := ∃ b own, e = .returned (.pointer (some ⟨b, 0, none⟩)) ∧ Da w' own b s ∧ Below w.heap.size w w' ∧ ∀ g r, own g = some r → w.heap.size ≤ g

def own3 (n : Nat) : Nat → Option Nat := give (give (give (fun _ => none) n 1) (n + 1) 2) (n + 2) 0

theorem own3_ge {n g r : Nat} (h : own3 n g = some r) : n ≤ g ∧ g < n + 3 := by
  unfold own3 at h
  by_cases h1 : g = n + 2
  · omega
  · rw [give_other h1] at h
    by_cases h2 : g = n + 1
    · omega
    · rw [give_other h2] at h
      by_cases h3 : g = n
      · omega
      · rw [give_other h3] at h
        cases h

set_option maxHeartbeats 400000 in
theorem a_new (w : World) : Calls Tryd.prog 15 #[] w (NewEnd w newD) := by
  have hmm := @run_makeMap Tryd.prog
  have HE : Hid (NewEnd w newD (.returned (.pointer (some ⟨w.heap.size + 2, 0, none⟩))) (((w.alloc (.map #[] 0)).alloc (.map #[] 0)).alloc (.cells #[.map (some w.heap.size), .slice none 0 0, .map (some (w.heap.size + 1)), .int .i64 0, .int .i64 0, .slice none 0 0, .bool false] 83))) := by
    have s1 : (w.alloc (.map #[] 0)).heap.size = w.heap.size + 1 := by simp
    have s2 : ((w.alloc (.map #[] 0)).alloc (.map #[] 0)).heap.size = w.heap.size + 2 := by simp
    have m1 : MapAt Tryd.prog 3 (w.alloc (.map #[] 0)) w.heap.size #[] 0 := MapAt.new w
    have m2 : MapAt Tryd.prog 93 ((w.alloc (.map #[] 0)).alloc (.map #[] 0)) (w.heap.size + 1) #[] 0 := by have := MapAt.new (P := Tryd.prog) (k := 93) (w.alloc (.map #[] 0)); rw [s1] at this; exact this
    have m1' : MapAt Tryd.prog 3 (((w.alloc (.map #[] 0)).alloc (.map #[] 0)).alloc (.cells #[.map (some w.heap.size), .slice none 0 0, .map (some (w.heap.size + 1)), .int .i64 0, .int .i64 0, .slice none 0 0, .bool false] 83)) w.heap.size #[] 0 :=
      (m1.kept (heap_alloc_old _ _ m1.lt)).kept (heap_alloc_old _ _ (by rw [s2]; omega))
    have m2' := m2.kept (heap_alloc_old _ (.cells #[.map (some w.heap.size), .slice none 0 0, .map (some (w.heap.size + 1)), .int .i64 0, .int .i64 0, .slice none 0 0, .bool false] 83) m2.lt)
    have hb := heap_alloc_new ((w.alloc (.map #[] 0)).alloc (.map #[] 0)) (.cells #[.map (some w.heap.size), .slice none 0 0, .map (some (w.heap.size + 1)), .int .i64 0, .int .i64 0, .slice none 0 0, .bool false] 83)
    rw [s2] at hb
    refine ⟨w.heap.size + 2, own3 w.heap.size, rfl, ⟨newD_ok, w.heap.size, w.heap.size + 1, .slice none 0 0, .slice none 0 0, ⟨hb, ?_, ?_, ?_, ⟨#[], 0, m1', by simp, fun _ _ => ⟨rfl, rfl⟩⟩, ⟨#[], 0, m2', by simp, fun p => by simp [newD]⟩, Row.nil _ _ _ _ _, Row.nil _ _ _ _ _, fun g r e => ?_⟩⟩, ?_, fun g r e => (own3_ge e).1⟩
    · exact give_same _ _ _
    · unfold own3; rw [give_other (by omega), give_other (by omega)]; exact give_same _ _ _
    · unfold own3; rw [give_other (by omega)]; exact give_same _ _ _
    · have := own3_ge e; simp; omega
    · exact (((Below.refl _ _).alloc (Nat.le_refl _) _).alloc (by rw [s1]; omega) _).alloc (by rw [s2]; omega) _
  go_enter Tryd.func15, Tryd.ntmps15
  go_wp2
  go_ret
  exact HE.out

end Go.Proofs.YtjlndgkahmcfdaaDoor
