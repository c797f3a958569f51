/- The walks of Same (the program's, the reference's), few, Neg. Conditions: lengths. -/
import Derived.Test.YtoocdokhljpokaaDoorC1
namespace Go.Proofs.YtoocdokhljpokaaDoor
set_option maxRecDepth 8000
open Go.RowKit

/-- The boxes of two arguments. -/
def TwoC (w w' : World) (s1 : Int) (A1 : Option Addr) (n1 c1 : Nat) (s2 : Int) (A2 : Option Addr) (n2 c2 : Nat) : Prop :=
  Blk w' w.heap.size 24 #[.int .i64 s1, .slice A1 n1 c1] ∧ Blk w' (w.heap.size + 1) 24 #[.int .i64 s2, .slice A2 n2 c2] ∧ Below w.heap.size w w'
theorem TwoC.new (w : World) (s1 : Int) (A1 : Option Addr) (n1 c1 : Nat) (s2 : Int) (A2 : Option Addr) (n2 c2 : Nat) :
    TwoC w ((w.alloc (.cells #[.int .i64 s1, .slice A1 n1 c1] 24)).alloc (.cells #[.int .i64 s2, .slice A2 n2 c2] 24)) s1 A1 n1 c1 s2 A2 n2 c2 := by
  refine ⟨(Blk.new w _ _).alloc _, ?_, ((Below.refl _ _).alloc (Nat.le_refl _) _).alloc (by simp) _⟩
  have := (Blk.new (w.alloc (.cells #[.int .i64 s1, .slice A1 n1 c1] 24)) 24 #[.int .i64 s2, .slice A2 n2 c2])
  simpa using this
theorem map_cast_inj : ∀ {a b : List Nat}, (a.map fun d : Nat => (d : Int)) = (b.map fun d : Nat => (d : Int)) → a = b
  | [], [], _ => rfl
  | [], _ :: _, h => by cases h
  | _ :: _, [], h => by cases h
  | x :: a, y :: b, h => by
    simp only [List.map_cons, List.cons.injEq] at h
    rw [map_cast_inj h.2, show x = y by omega]
/-- The same fields. -/
def sameB (s1 : Int) (l1 : List Int) (s2 : Int) (l2 : List Int) : Bool := decide (s1 = s2) && decide (l1 = l2)
theorem sameB_rep {s1 s2 x y : Int} {l1 l2 : List Nat} (r1 : Rep s1 l1 x) (r2 : Rep s2 l2 y) : sameB s1 (l1.map fun d : Nat => (d : Int)) s2 (l2.map fun d : Nat => (d : Int)) = decide (x = y) := by
  unfold sameB
  by_cases h : x = y
  · subst h
    obtain ⟨rfl, rfl⟩ := r1.inj r2
    simp
  · rw [decide_eq_false h, Bool.and_eq_false_iff, decide_eq_false_iff_not, decide_eq_false_iff_not]
    by_cases h1 : s1 = s2
    · refine .inr fun h2 => h ?_
      have h3 : l1 = l2 := map_cast_inj h2
      rw [r1.eq, r2.eq, h1, h3]
    · exact .inl h1
set_option maxHeartbeats 4000000 in
theorem refSame_any (s1 s2 : Int) (A1 A2 : Option Addr) (n1 n2 c1 c2 B1 B2 : Nat) (l1 l2 : List Int) (w : World) (h1 : Reads w B1 1 A1 n1 (iv l1)) (h2 : Reads w B2 1 A2 n2 (iv l2)) (hn1 : n1 ≤ 1073741824) (hn2 : n2 ≤ 1073741824) {r : Bool} (hr : sameB s1 l1 s2 l2 = r) :
    Calls Tryd.prog 15 #[.agg #[.int .i64 s1, .slice A1 n1 c1], .agg #[.int .i64 s2, .slice A2 n2 c2]] w fun e w' => e = .returned (.bool r) ∧ Below w.heap.size w w' := by
  have K := Lib.hid (TwoC.new w s1 A1 n1 c1 s2 A2 n2 c2)
  have H1 := Lib.hid (h1.past K.out.2.2)
  have H2 := Lib.hid (h2.past K.out.2.2)
  have L1 := Lib.hid h1.lenI
  have L2 := Lib.hid h2.lenI
  clear h1 h2
  by_cases hs : s1 = s2
  · subst hs
    by_cases hne : n1 = n2
    · subst hne
      have HR : Hid (decide (l1 = l2) = r) := by show _ = _; rw [← hr]; simp [sameB]
      clear hr
      obtain ⟨w5, hw5⟩ : ∃ w5, w5 = ((w.alloc (.cells #[.int .i64 s1, .slice A1 n1 c1] 24)).alloc (.cells #[.int .i64 s1, .slice A2 n1 c2] 24)) := ⟨_, rfl⟩
      go_enter Tryd.func15, Tryd.ntmps15
      go_wp2_with fail
      rw [← hw5] at K H1 H2 ⊢
      clear hw5
      go_loopw [5] (fun i wr => ∃ k : Nat, k ≤ n1 ∧ i = .int .i64 k ∧ Hid (l1.take k = l2.take k) ∧ Drew w5 wr) (fun i _ => n1 - (RowKit.intOf i).toNat)
      case atStart => exact ⟨0, Nat.zero_le _, rfl, rfl, Drew.refl _⟩
      case round =>
        obtain ⟨k, hk, rfl, HE, dd, rfl⟩ := hrel
        have hz0 : w5.cell? ⟨w.heap.size, 1, none⟩ = some (.slice A1 n1 c1) := (K.out.1.cell 1).trans rfl
        have hz1 : w5.cell? ⟨w.heap.size + 1, 1, none⟩ = some (.slice A2 n1 c2) := (K.out.2.1.cell 1).trans rfl
        have hy0 : (w5.drewN dd).cell? ⟨w.heap.size, 1, none⟩ = some (.slice A1 n1 c1) := (K.out.1.cell 1).trans rfl
        have hy1 : (w5.drewN dd).cell? ⟨w.heap.size + 1, 1, none⟩ = some (.slice A2 n1 c2) := (K.out.2.1.cell 1).trans rfl
        by_cases hlt : k < n1
        · have hkc : (k : Int) < (n1 : Int) := by omega
          obtain ⟨ad1, u, rfl, hu, g1⟩ := H1.out.atI hlt
          obtain ⟨ad2, v, rfl, hv, g2⟩ := H2.out.atI hlt
          have g1d : (w5.drewN dd).cell? (ad1.add k) = some (.int .i64 u) := g1
          have g2d : (w5.drewN dd).cell? (ad2.add k) = some (.int .i64 v) := g2
          by_cases huv : u = v
          · subst huv
            have HE2 : Hid (l1.take (k + 1) = l2.take (k + 1)) := by show _ = _; rw [List.take_add_one, List.take_add_one, hu, hv, HE.out]
            clear hu hv
            go_wp2_with fail
            go_quiet (fail)
            go_wp2_with fail
            go_roundw
            case rel => exact ⟨k + 1, by omega, by go_num, HE2, _, rfl⟩
            case measure => simp [RowKit.intOf]; omega
          · have huv' : ¬ u = v := huv
            have hres : r = false := by
              rw [← HR.out]
              exact decide_eq_false (fun e => by rw [e, hv] at hu; exact huv (Option.some.inj hu).symm)
            subst hres
            have HB := Lib.hid (K.out.2.2.trans ((Drew.below ⟨dd, rfl⟩).mono K.out.2.2.size))
            clear hu hv
            go_wp2_with fail
            go_quiet (fail)
            go_wp2_with fail
            go_ret
            exact ⟨rfl, below_drewN HB.out _⟩
        · obtain rfl : k = n1 := by omega
          have hres : r = true := by
            rw [← HR.out]
            have := HE.out
            rw [List.take_of_length_le (by rw [L1.out]; exact Nat.le_refl _), List.take_of_length_le (by rw [L2.out]; exact Nat.le_refl _)] at this
            exact decide_eq_true this
          subst hres
          have HB := Lib.hid (K.out.2.2.trans ((Drew.below ⟨dd, rfl⟩).mono K.out.2.2.size))
          go_wp2_with fail
          go_ret
          exact ⟨rfl, HB.out⟩
    · have hne' : ¬ (n1 : Int) = (n2 : Int) := by omega
      have hres : r = false := by
        rw [← hr]
        unfold sameB
        rw [decide_eq_false (show ¬ l1 = l2 from fun e => by have := L1.out; rw [e, L2.out] at this; omega)]
        simp
      subst hres
      have HB := Lib.hid K.out.2.2
      clear hr K H1 H2
      go_enter Tryd.func15, Tryd.ntmps15
      go_wp2_with fail
      go_ret
      exact ⟨rfl, HB.out⟩
  · have hs' : ¬ s1 = s2 := hs
    have hres : r = false := by
      rw [← hr]
      unfold sameB
      rw [decide_eq_false hs]
      rfl
    subst hres
    have HB := Lib.hid K.out.2.2
    clear hr K H1 H2 hs
    go_enter Tryd.func15, Tryd.ntmps15
    go_wp2_with fail
    go_ret
    exact ⟨rfl, HB.out⟩
end Go.Proofs.YtoocdokhljpokaaDoor
