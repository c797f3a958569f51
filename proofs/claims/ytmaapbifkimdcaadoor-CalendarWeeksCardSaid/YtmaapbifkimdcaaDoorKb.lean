/- The walks of the search for a month, and of calendar's exported functions. Conditions: the array 'before' is there as its text lays it. -/
import Derived.Test.YtmaapbifkimdcaaDoorKa
import Derived.Deep.Draws
namespace Go.Proofs.YtmaapbifkimdcaaDoor
set_option maxRecDepth 8000
open Go.RowKit

set_option maxHeartbeats 2000000 in
theorem search_any (d m : Nat) (hd : d ≤ 100000) (hm : m ≤ d / 28) (HM : Hid (Mon d m)) (g : Nat) (w : World) (hB : Hid (BefT w)) (hg : Hid (w.cell? ⟨g, 0, none⟩ = some (.int .i64 (d : Int)))) :
    Calls Tryd.prog 28 #[.int .i64 ((d / 28 : Nat) : Int), .func (.func 29) #[] #[.pointer (some ⟨g, 0, none⟩)]] w (IntD ((m : Nat) : Int) w) := by
  obtain ⟨n, hn⟩ : ∃ n, n = d / 28 := ⟨_, rfl⟩
  rw [← hn] at hm ⊢
  have hn2 : n < 3600 := by omega
  clear hn
  have CE : Hid (∀ (i : Nat) (v : Bool) (w' : World), Drew w w' → i < 3600 → decide (d < stP (i + 1)) = v →
      Calls Tryd.prog 29 #[.int .i64 (i : Int), .pointer (some ⟨g, 0, none⟩)] w' fun e w2 => e = .returned (.bool v) ∧ Drew w' w2) := by
    intro i v w' ⟨q, hq⟩ hi hv
    subst hq
    exact ends_any d i hi g _ (Lib.hid (hB.out.on (Drew.below ⟨q, rfl⟩))) hg.out v (Lib.hid hv)
  clear hg
  go_enter Tryd.func28, Tryd.ntmps28
  go_wp2
  go_loopw [5, 6] (fun s5 s6 wr => ∃ (lo hi : Nat), s5 = .int .i64 (lo : Int) ∧ s6 = .int .i64 (hi : Int) ∧ lo ≤ m ∧ m ≤ hi ∧ hi ≤ n ∧ Drew w wr) (fun s5 s6 _ => (RowKit.intOf s6 - RowKit.intOf s5).toNat)
  case atStart => exact ⟨0, n, rfl, rfl, Nat.zero_le _, hm, Nat.le_refl _, Drew.same⟩
  case round =>
    obtain ⟨lo, hi, rfl, rfl, h1, h2, h3, q, rfl⟩ := hrel
    by_cases hlt : lo < hi
    · have hml := mon_le (h := (lo + hi) / 2) HM.out (by omega)
      by_cases hmm : m ≤ (lo + hi) / 2
      · have c := CE.out ((lo + hi) / 2) true (w.drewN q) ⟨q, rfl⟩ (by omega) (decide_eq_true (hml.2 hmm))
        rw [show (((lo + hi) / 2 : Nat) : Int) = ((lo : Int) + (hi : Int)) / 2 by omega] at c
        have C := Lib.hid c
        clear c hml
        go_wp2_with fail
        refine C.out.mono ?_
        rintro e w' ⟨rfl, q2, rfl⟩
        go_wp2_with fail
        go_roundw
        case rel => exact ⟨lo, (lo + hi) / 2, rfl, by go_num, h1, hmm, by omega, q + q2, rfl⟩
        case measure => simp [RowKit.intOf]; omega
      · have c := CE.out ((lo + hi) / 2) false (w.drewN q) ⟨q, rfl⟩ (by omega) (decide_eq_false (fun h => hmm (hml.1 h)))
        rw [show (((lo + hi) / 2 : Nat) : Int) = ((lo : Int) + (hi : Int)) / 2 by omega] at c
        have C := Lib.hid c
        clear c hml
        go_wp2_with fail
        refine C.out.mono ?_
        rintro e w' ⟨rfl, q2, rfl⟩
        go_wp2_with fail
        go_roundw
        case rel => exact ⟨(lo + hi) / 2 + 1, hi, by go_num, rfl, by omega, h2, h3, q + q2, rfl⟩
        case measure => simp [RowKit.intOf]; omega
    · have h4 : lo = m := by omega
      go_wp2_with fail
      go_ret
      exact ⟨ret_int (by omega), q, rfl⟩
/-- How a function that returns one int, and makes memory, ends. -/
def IntB (n : Int) (w : World) (e : Ending) (w' : World) : Prop := e = .returned (.int .i64 n) ∧ Below w.heap.size w w'
set_option maxHeartbeats 1000000 in
theorem monthOf_any (d m : Nat) (hd : d ≤ 100000) (HM : Hid (Mon d m)) (w : World) (hB : Hid (BefT w)) :
    Calls Tryd.prog 21 #[.int .i64 (d : Int)] w (IntB (m : Int) w) := by
  have hm := mon_28 HM.out
  obtain ⟨W0, hW0⟩ : ∃ W0, W0 = w.alloc (.cells #[.int .i64 (d : Int)] 3) := ⟨_, rfl⟩
  have hb0 : Below w.heap.size w W0 := by rw [hW0]; exact (Below.refl _ _).alloc (Nat.le_refl _) _
  have hc0 : W0.cell? ⟨w.heap.size, 0, none⟩ = some (.int .i64 (d : Int)) := by
    rw [hW0, World.cell?_alloc_at _ _ _ _ (by simp)]; rfl
  have c := search_any d m hd hm HM w.heap.size W0 (Lib.hid (hB.out.on hb0)) (Lib.hid hc0)
  rw [show ((d / 28 : Nat) : Int) = (d : Int) / 28 by omega] at c
  have C := Lib.hid c
  have HW0 := Lib.hid hW0
  have HB0 := Lib.hid hb0
  clear c hW0 hb0 hc0
  go_enter Tryd.func21, Tryd.ntmps21
  go_wp2_with fail
  rw [← HW0.out]
  refine C.out.mono ?_
  rintro e w' ⟨rfl, hq⟩
  have HQ : Hid (Below w.heap.size w w') := HB0.out.trans (hq.below.mono HB0.out.size)
  clear hq
  go_wp2_with fail
  go_ret
  exact ⟨rfl, HQ.out⟩
end Go.Proofs.YtmaapbifkimdcaaDoor
