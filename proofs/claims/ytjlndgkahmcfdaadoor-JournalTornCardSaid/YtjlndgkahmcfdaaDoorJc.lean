/- The argument of JournalTorn: a slice of strings with its capacity. No condition. -/
import Derived.Test.YtjlndgkahmcfdaaDoorJg
namespace Go.Proofs.YtjlndgkahmcfdaaDoor
set_option maxRecDepth 8000
open Go.ChangeShapes Go.WideShapes Go.Deep Go.Joins Go.RowKit
section
variable {H : Type} {enc : TypeId × Value → H} {W : World}
theorem texts_in3 {fuel : Nat} {v : Value} {y : DataW H × List MemPlace} (h : DataW.trod enc Tryd.prog W 0 (fun _ => true) true fuel 32 [v] = some y) :
    ∃ (A : Option Addr) (l : List ByteArray) (c : Nat), v = .slice A l.length c ∧ Reads W W.heap.size 1 A l.length (l.map Value.string) ∧ (∀ z ∈ l, z.size ≤ 9223372036854775807) ∧ l.length ≤ 9223372036854775807 ∧ l.length ≤ c ∧ c ≤ 9223372036854775807 := by
  rcases open_strings Tryd.underlying32 Tryd.underlying9 cellsString h with ⟨hcs, _⟩ | ⟨a, len, cap, zs, hcs, _, hl, hm, hz, _, hcell, hwz⟩
  · simp only [List.cons.injEq, and_true] at hcs
    exact ⟨none, [], 0, hcs, Reads.none_, by simp, by simp, by simp, by simp⟩
  · simp only [List.cons.injEq, and_true] at hcs
    have hz' : zs.length = cap := by simpa using hz
    have hlen : (zs.take len).length = len := by rw [List.length_take]; omega
    unfold maxLen at hm
    refine ⟨some a, zs.take len, cap, by rw [hcs, hlen], ?_, fun z hz => hwz z (List.mem_of_mem_take hz), by rw [hlen]; omega, by rw [hlen]; omega, by omega⟩
    rw [hlen]
    refine ⟨by rw [List.length_map, hlen]; omega, fun hpos => ⟨a, rfl, ?_, fun j u hu => ?_⟩⟩
    · have := World.block_lt_of_cell? W _ (hcell 0 (by omega))
      rwa [block_of_add] at this
    · obtain ⟨hj, rfl⟩ := map_at hu
      rw [hlen] at hj
      rw [hcell j (by omega)]
      congr 2
      simp [List.getD, List.getElem?_eq_getElem (show j < zs.length by omega)]

/-- A slice of strings, as lists of bytes. -/
theorem texts_inC {fuel : Nat} {v : Value} {y : DataW H × List MemPlace} (h : DataW.trod enc Tryd.prog W 0 (fun _ => true) true fuel 32 [v] = some y) :
    ∃ (A : Option Addr) (n : Nat) (l : List (List UInt8)) (c : Nat), v = .slice A n c ∧ Reads W W.heap.size 1 A n (l.map strV) ∧ (∀ z ∈ l, z.length ≤ 9223372036854775807) ∧ n ≤ 9223372036854775807 ∧ n ≤ c ∧ c ≤ 9223372036854775807 := by
  obtain ⟨A, l, c, e, hr, hz, hl, hlc, hcm⟩ := texts_in3 h
  refine ⟨A, l.length, l.map (fun s => s.data.toList), c, e, ?_, fun z hm => ?_, hl, hlc, hcm⟩
  · have : (l.map fun s => s.data.toList).map strV = l.map Value.string := by
      rw [List.map_map]
      refine List.map_congr_left (fun s _ => ?_)
      show Value.string (bStr s.data.toList) = Value.string s
      cases s with
      | mk d => simp [bStr]
    rw [this]
    exact hr
  · obtain ⟨s, hs, rfl⟩ := List.mem_map.1 hm
    exact hz s hs
end
end Go.Proofs.YtjlndgkahmcfdaaDoor
