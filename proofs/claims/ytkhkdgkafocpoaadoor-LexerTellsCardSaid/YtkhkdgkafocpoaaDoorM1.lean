/- The walks of the reference's Same and Like at equal lists. Conditions: the slices read as lists of tokens. -/
import Derived.Test.YtkhkdgkafocpoaaDoorL9
namespace Go.Proofs.YtkhkdgkafocpoaaDoor
set_option maxRecDepth 8000
open Go.RowKit

/-- How a function that finds two lists equal ends. -/
def YesEnd (w : World) (e : Ending) (w' : World) : Prop := e = .returned (.bool true) ∧ Below w.heap.size w w'
theorem tok_at' {w : World} {B n k : Nat} {A : Option Addr} {l : List ATok} (h : Reads w B 4 A n (arC l)) (hn : l.length = n) (hk : k < n) :
    ∃ ad t, A = some ad ∧ ad.block < B ∧ l[k]? = some t ∧ w.cell? (ad.add (k * 4)) = some (.int .i64 t.kind) ∧ w.cell? ⟨(ad.add (k * 4)).block, (ad.add (k * 4)).off + 1, none⟩ = some (.string ⟨t.text.toArray⟩) ∧ w.cell? ⟨(ad.add (k * 4)).block, (ad.add (k * 4)).off + 2, none⟩ = some (.int .i64 t.n) ∧ w.cell? ⟨(ad.add (k * 4)).block, (ad.add (k * 4)).off + 3, none⟩ = some (.int .i64 t.pos) := by
  obtain ⟨ad, e, hb, h1, h2, h3, h4⟩ := tok_at h hn hk
  refine ⟨ad, l[k]'(by omega), e, hb, List.getElem?_eq_getElem (by omega), h1, ?_, ?_, ?_⟩
  · rw [add_cell _ _ _ (by omega)]; exact h2
  · rw [add_cell _ _ _ (by omega)]; exact h3
  · rw [add_cell _ _ _ (by omega)]; exact h4
set_option maxHeartbeats 4000000 in
theorem Same_yes (A1 A2 : Option Addr) (n c1 c2 B : Nat) (l : List ATok) (w : World) (h1 : Hid (Reads w B 4 A1 n (arC l))) (h2 : Hid (Reads w B 4 A2 n (arC l))) (hB : B ≤ w.heap.size) (hn : Hid (l.length = n)) (hn4 : n ≤ 1073741824) :
    Calls Tryd.prog 17 #[.slice A1 n c1, .slice A2 n c2] w (YesEnd w) := by
  have HB0 : Hid (Below w.heap.size w w) := Below.refl _ _
  go_enter Tryd.func17, Tryd.ntmps17
  go_wp2_with fail
  go_loopw [5] (fun i wr => ∃ k : Nat, k ≤ n ∧ i = .int .i64 k ∧ Hid (Below w.heap.size w wr)) (fun i _ => n - (RowKit.intOf i).toNat)
  case atStart => exact ⟨0, Nat.zero_le _, rfl, HB0.out⟩
  case round =>
    clear HB0
    obtain ⟨k, hk, rfl, HB⟩ := hrel
    by_cases hlt : k < n
    · have hkc : (k : Int) < (n : Int) := by omega
      obtain ⟨a1, t, rfl, hb1, ht1, q0, q1, q2, q3⟩ := tok_at' (h1.out.below (HB.out.mono hB)) hn.out hlt
      obtain ⟨a2, t2, rfl, hb2, ht2, r0, r1, r2, r3⟩ := tok_at' (h2.out.below (HB.out.mono hB)) hn.out hlt
      obtain rfl : t = t2 := Option.some.inj (ht1.symm.trans ht2)
      clear ht1 ht2 hb1 hb2
      go_wp2_with fail
      go_quiet (fail)
      go_wp2_with fail
      go_roundw
      case rel => exact ⟨k + 1, by omega, by go_num, below_drewN HB.out _⟩
      case measure => simp [RowKit.intOf]; omega
    · obtain rfl : k = n := by omega
      go_wp2_with fail
      go_ret
      exact ⟨rfl, HB.out⟩
set_option maxHeartbeats 4000000 in
theorem Like_yes (A1 A2 : Option Addr) (n c1 c2 B : Nat) (l l2 : List ATok) (w : World) (h1 : Hid (Reads w B 4 A1 n (arC l))) (h2 : Hid (Reads w B 4 A2 n (arC l2))) (hB : B ≤ w.heap.size) (hn : Hid (l.length = n)) (hn4 : n ≤ 1073741824)
    (hn2 : Hid (l2.length = n)) (he : Hid (∀ (k : Nat) (t u : ATok), l[k]? = some t → l2[k]? = some u → t.kind = u.kind ∧ t.text = u.text ∧ t.n = u.n)) :
    Calls Tryd.prog 22 #[.slice A1 n c1, .slice A2 n c2] w (YesEnd w) := by
  have HB0 : Hid (Below w.heap.size w w) := Below.refl _ _
  go_enter Tryd.func22, Tryd.ntmps22
  go_wp2_with fail
  go_loopw [5] (fun i wr => ∃ k : Nat, k ≤ n ∧ i = .int .i64 k ∧ Hid (Below w.heap.size w wr)) (fun i _ => n - (RowKit.intOf i).toNat)
  case atStart => exact ⟨0, Nat.zero_le _, rfl, HB0.out⟩
  case round =>
    clear HB0
    obtain ⟨k, hk, rfl, HB⟩ := hrel
    by_cases hlt : k < n
    · have hkc : (k : Int) < (n : Int) := by omega
      obtain ⟨a1, t, rfl, hb1, ht1, q0, q1, q2, q3⟩ := tok_at' (h1.out.below (HB.out.mono hB)) hn.out hlt
      obtain ⟨a2, u, rfl, hb2, ht2, r0, r1, r2, r3⟩ := tok_at' (h2.out.below (HB.out.mono hB)) hn2.out hlt
      obtain ⟨e1, e2, e3⟩ := he.out k t u ht1 ht2
      rw [← e1] at r0
      rw [← e2] at r1
      rw [← e3] at r2
      clear ht1 ht2 hb1 hb2 e1 e2 e3
      obtain ⟨tk, htk⟩ : ∃ x, t.kind = x := ⟨_, rfl⟩
      obtain ⟨tt, htt⟩ : ∃ x : ByteArray, ⟨t.text.toArray⟩ = x := ⟨_, rfl⟩
      obtain ⟨tn, htn⟩ : ∃ x, t.n = x := ⟨_, rfl⟩
      rw [htk] at q0 r0
      rw [htt] at q1 r1
      rw [htn] at q2 r2
      clear htk htt htn
      go_wp2_with fail
      go_quiet (fail)
      go_wp2_with fail
      go_roundw
      case rel => exact ⟨k + 1, by omega, by go_num, below_drewN HB.out _⟩
      case measure => simp [RowKit.intOf]; omega
    · obtain rfl : k = n := by omega
      go_wp2_with fail
      go_ret
      exact ⟨rfl, HB.out⟩
end Go.Proofs.YtkhkdgkafocpoaaDoor
