/- The walks of big's Right, Same, Compare and Neg. Conditions: lengths; numbers are ints. -/
import Derived.Test.YtoocdokhljpokaaDoorBu
namespace Go.Proofs.YtoocdokhljpokaaDoor
set_option maxRecDepth 8000
open Go.RowKit

theorem bEq_decide (a b : Int) : (a == b) = decide (a = b) := by
  by_cases h : a = b
  · subst h; simp
  · rw [decide_eq_false h]; simpa using h
/-- Is a big integer right? -/
def rightB (s : Int) (li : List Int) : Bool :=
  if li = [] then decide (s = 0) else decide (s = 1 ∨ s = -1) && decide (li.getLast? ≠ some 0) && decide (∀ d ∈ li, 0 ≤ d ∧ d < 1048576)
def Fit (li : List Int) : Prop := ∀ d ∈ li, -9223372036854775808 ≤ d ∧ d ≤ 9223372036854775807
theorem Fit.at_ {li : List Int} (h : Fit li) {i : Nat} {d : Int} (e : li[i]? = some d) : -9223372036854775808 ≤ d ∧ d ≤ 9223372036854775807 := h d (List.mem_of_getElem? e)
theorem rightB_rep {s : Int} {li : List Int} (h : rightB s li = true) : ∃ l x, li = l.map (fun d : Nat => (d : Int)) ∧ Rep s l x := by
  unfold rightB at h
  by_cases h0 : li = []
  · subst h0
    rw [if_pos rfl] at h
    have : s = 0 := by simpa using h
    subst this
    exact ⟨[], 0, rfl, Rep.zero⟩
  · rw [if_neg h0] at h
    simp only [Bool.and_eq_true, decide_eq_true_eq] at h
    obtain ⟨⟨h1, h2⟩, h3⟩ := h
    have e : li = (li.map Int.toNat).map (fun d : Nat => (d : Int)) := by
      rw [List.map_map]
      conv => lhs; rw [← List.map_id li]
      apply List.map_congr_left
      intro d hd
      have := h3 d hd
      show d = ((d.toNat : Nat) : Int)
      omega
    refine ⟨li.map Int.toNat, _, e, Rep.of ⟨fun x hx => ?_, ?_⟩ h1 (by simpa using h0)⟩
    · obtain ⟨d, hd, rfl⟩ := List.mem_map.1 hx
      have := h3 d hd
      omega
    · unfold NoZ
      rw [List.getLast?_map]
      intro e2
      cases hl : li.getLast? with
      | none => rw [hl] at e2; cases e2
      | some d =>
        rw [hl] at e2 h2
        have hd := h3 d (List.mem_of_getLast? hl)
        have := Option.some.inj e2
        apply h2
        congr 1
        omega
theorem rightB_of {s : Int} {l : List Nat} (hs : s = 1 ∨ s = -1) (hn : Norm l) (hl : l ≠ []) : rightB s (l.map fun d : Nat => (d : Int)) = true := by
  unfold rightB
  rw [if_neg (by simpa using hl), decide_eq_true hs, Bool.true_and, Bool.and_eq_true, decide_eq_true_eq, decide_eq_true_eq]
  constructor
  · rw [List.getLast?_map]
    intro e
    have h2 := hn.2
    unfold NoZ at h2
    cases hl2 : l.getLast? with
    | none => rw [hl2] at e; cases e
    | some d =>
      rw [hl2] at e h2
      have : (d : Int) = 0 := Option.some.inj e
      apply h2
      congr 1
      omega
  · intro d hd
    obtain ⟨k, hk, rfl⟩ := List.mem_map.1 hd
    have := hn.1 k hk
    omega
theorem rep_rightB {s x : Int} {l : List Nat} (h : Rep s l x) : rightB s (l.map fun d : Nat => (d : Int)) = true := by
  rcases h.cases with ⟨h1, h2, -⟩ | ⟨h1, h2, -⟩ | ⟨h1, h2, -⟩
  · exact rightB_of (.inl h1) h.norm h2
  · exact rightB_of (.inr h1) h.norm h2
  · subst h1 h2; rfl
theorem last_at {α : Type} {l : List α} {n : Nat} {d : α} (hl : l.length = n) (hd : l[n - 1]? = some d) : l.getLast? = some d := by rw [List.getLast?_eq_getElem?, hl]; exact hd

set_option maxHeartbeats 2000000 in
theorem Right_any (s : Int) (A : Option Addr) (n c B : Nat) (li : List Int) (w : World) (h : Reads w B 1 A n (iv li)) (hf : Fit li) (hn : n ≤ 1073741824) :
    Calls Tryd.prog 6 #[.agg #[.int .i64 s, .slice A n c]] w fun e w' => e = .returned (.bool (rightB s li)) ∧ Below w.heap.size w w' := by
  have HR := Lib.hid (h.here.past ((Below.refl _ _).alloc (Nat.le_refl _) (.cells #[.int .i64 s, .slice A n c] 24)))
  have HL := Lib.hid h.lenI
  have HF := Lib.hid hf
  have HB : Hid (Below w.heap.size w (w.alloc (.cells #[.int .i64 s, .slice A n c] 24))) := (Below.refl _ _).alloc (Nat.le_refl _) _
  clear h hf
  by_cases h0 : n = 0
  · subst h0
    have hl : li = [] := List.eq_nil_of_length_eq_zero HL.out
    have hr : rightB s li = decide (s = 0) := by rw [hl]; rfl
    rw [hr]
    clear hl hr HR
    go_enter Tryd.func6, Tryd.ntmps6
    go_wp2_with fail
    go_ret
    exact ⟨by simp [bEq_decide], HB.out⟩
  · obtain ⟨ad, d, rfl, hd, g1⟩ := HR.out.atI (i := n - 1) (by omega)
    have hn0 : ((n : Int) == 0) = false := by simp; omega
    have hi0 : (0 : Int) ≤ (n : Int) - 1 := by omega
    have hi1 : (n : Int) - 1 < (n : Int) := by omega
    have ht : ((n : Int) - 1).toNat = n - 1 := by omega
    have hne : li ≠ [] := by intro e; have := HL.out; rw [e] at this; simp at this; omega
    have hlast := last_at HL.out hd
    by_cases hs : s = 1 ∨ s = -1
    · by_cases hd0 : d = 0
      · subst hd0
        have hr : rightB s li = false := by
          unfold rightB
          rw [if_neg hne, decide_eq_true hs, hlast]
          simp
        rw [hr]
        clear hr hd hlast hne
        rcases hs with rfl | rfl
        all_goals
          go_enter Tryd.func6, Tryd.ntmps6
          go_wp2_with fail
          go_ret
          exact ⟨rfl, HB.out⟩
      · have hd0' : ¬ d = 0 := hd0
        have hr : rightB s li = decide (∀ d ∈ li, 0 ≤ d ∧ d < 1048576) := by
          unfold rightB
          rw [if_neg hne, decide_eq_true hs, hlast, decide_eq_true (show some d ≠ some 0 by simpa using hd0)]
          simp
        rw [hr]
        clear hr hd hlast hne hd0
        rcases hs with rfl | rfl
        all_goals
          go_enter Tryd.func6, Tryd.ntmps6
          go_wp2_with fail
          go_loop [4, 35] (fun q i => ∃ (k : Nat) (Q : Int), k ≤ n ∧ i = .int .i64 k ∧ q = .int .i64 Q ∧ Hid (low20 (BitVec.ofInt 64 Q) ↔ ∀ d ∈ li.take k, 0 ≤ d ∧ d < 1048576)) (fun _ i => n - (RowKit.intOf i).toNat)
          case atStart => exact ⟨0, 0, Nat.zero_le _, rfl, rfl, (by show _ ↔ _; rw [low20_iff (by decide) (by decide)]; simp)⟩
          case round =>
            obtain ⟨k, Q, hk, rfl, rfl, HQ⟩ := hrel
            by_cases hlt : k < n
            · have hkc : (k : Int) < (n : Int) := by omega
              obtain ⟨ad', u, e, hu, g2⟩ := HR.out.atI hlt
              cases e
              have HU := Lib.hid hu
              clear hu g1 hi0 hi1 ht
              go_wp2_with fail
              go_round
              case rel => exact ⟨k + 1, _, by omega, by go_num, rfl, by
                show _ ↔ _
                have hfu := HF.out.at_ HU.out
                rw [or_low, HQ.out, low20_iff hfu.1 hfu.2, List.take_add_one, HU.out]
                simp only [List.mem_append, Option.toList, List.mem_singleton]
                constructor
                · rintro ⟨h1, h2⟩ z (hz | rfl)
                  · exact h1 z hz
                  · exact h2
                · intro h
                  exact ⟨fun z hz => h z (.inl hz), h u (.inr rfl)⟩⟩
              case measure => simp [RowKit.intOf]; omega
            · obtain rfl : k = n := by omega
              clear g1 hi0 hi1 ht
              have hfin : (bits .andNot .i64 Q 1048575 == 0) = decide (∀ d ∈ li, 0 ≤ d ∧ d < 1048576) := by
                have h1 := HQ.out
                rw [List.take_of_length_le (by rw [HL.out]; exact Nat.le_refl _), ← not_low] at h1
                by_cases h2 : bits .andNot .i64 Q 1048575 = 0
                · rw [decide_eq_true (h1.1 h2), h2]; rfl
                · rw [decide_eq_false (fun h3 => h2 (h1.2 h3))]; simpa using h2
              have HFI := Lib.hid hfin
              clear hfin
              go_wp2_with fail
              go_ret
              exact ⟨by show Ending.returned (.bool (bits .andNot .i64 Q 1048575 == 0)) = _; rw [HFI.out], HB.out⟩
    · have hs1 : ¬ s = 1 := fun h => hs (.inl h)
      have hs2 : ¬ s = -1 := fun h => hs (.inr h)
      have hr : rightB s li = false := by
        unfold rightB
        rw [if_neg hne, decide_eq_false hs]
        rfl
      rw [hr]
      clear hr hs hd hlast hne
      go_enter Tryd.func6, Tryd.ntmps6
      go_wp2_with fail
      go_ret
      exact ⟨rfl, HB.out⟩
end Go.Proofs.YtoocdokhljpokaaDoor
