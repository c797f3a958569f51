/- The walks of Same (the program's, the reference's), few, Neg. Conditions: lengths. -/
import Derived.Test.YtikfjmdeeknalaaGreatDoorC1
namespace Go.Proofs.YtikfjmdeeknalaaGreatDoor
set_option maxRecDepth 8000
open Go.RowKit

/-- The boxes of two arguments. -/
def TwoC (w w' : World) (s1 : Int) (A1 : Option Addr) (n1 c1 : Nat) (s2 : Int) (A2 : Option Addr) (n2 c2 : Nat) : Prop :=
  Blk w' w.heap.size 24 #[.int .i64 s1, .slice A1 n1 c1] ∧ Blk w' (w.heap.size + 1) 24 #[.int .i64 s2, .slice A2 n2 c2] ∧ Below w.heap.size w w'
theorem TwoC.new (w : World) (s1 : Int) (A1 : Option Addr) (n1 c1 : Nat) (s2 : Int) (A2 : Option Addr) (n2 c2 : Nat) :
    TwoC w ((w.alloc (.cells #[.int .i64 s1, .slice A1 n1 c1] 24)).alloc (.cells #[.int .i64 s2, .slice A2 n2 c2] 24)) s1 A1 n1 c1 s2 A2 n2 c2 := by
  refine ⟨(Blk.new w _ _).alloc _, ?_, ((Below.refl _ _).alloc (Nat.le_refl _) _).alloc (by simp) _⟩
  have := (Blk.new (w.alloc (.cells #[.int .i64 s1, .slice A1 n1 c1] 24)) 24 #[.int .i64 s2, .slice A2 n2 c2])
  simpa using this
theorem map_cast_inj : ∀ {a b : List Nat}, (a.map fun d : Nat => (d : Int)) = (b.map fun d : Nat => (d : Int)) → a = b
  | [], [], _ => rfl
  | [], _ :: _, h => by cases h
  | _ :: _, [], h => by cases h
  | x :: a, y :: b, h => by
    simp only [List.map_cons, List.cons.injEq] at h
    rw [map_cast_inj h.2, show x = y by omega]
/-- The same fields. -/
def sameB (s1 : Int) (l1 : List Int) (s2 : Int) (l2 : List Int) : Bool := decide (s1 = s2) && decide (l1 = l2)
theorem sameB_rep {s1 s2 x y : Int} {l1 l2 : List Nat} (r1 : Rep s1 l1 x) (r2 : Rep s2 l2 y) : sameB s1 (l1.map fun d : Nat => (d : Int)) s2 (l2.map fun d : Nat => (d : Int)) = decide (x = y) := by
  unfold sameB
  by_cases h : x = y
  · subst h
    obtain ⟨rfl, rfl⟩ := r1.inj r2
    simp
  · rw [decide_eq_false h, Bool.and_eq_false_iff, decide_eq_false_iff_not, decide_eq_false_iff_not]
    by_cases h1 : s1 = s2
    · refine .inr fun h2 => h ?_
      have h3 : l1 = l2 := map_cast_inj h2
      rw [r1.eq, r2.eq, h1, h3]
    · exact .inl h1
set_option maxHeartbeats 4000000 in
theorem refSame_any (s1 s2 : Int) (A1 A2 : Option Addr) (n1 n2 c1 c2 B1 B2 : Nat) (l1 l2 : List Int) (w : World) (h1 : Reads w B1 1 A1 n1 (iv l1)) (h2 : Reads w B2 1 A2 n2 (iv l2)) (hn1 : n1 ≤ 1073741824) (hn2 : n2 ≤ 1073741824) {r : Bool} (hr : sameB s1 l1 s2 l2 = r) :
    Calls Tryz.prog 21 #[.agg #[.int .i64 s1, .slice A1 n1 c1], .agg #[.int .i64 s2, .slice A2 n2 c2]] w fun e w' => e = .returned (.bool r) ∧ Below w.heap.size w w' := by
  have K := Lib.hid (TwoC.new w s1 A1 n1 c1 s2 A2 n2 c2)
  have H1 := Lib.hid (h1.past K.out.2.2)
  have H2 := Lib.hid (h2.past K.out.2.2)
  have L1 := Lib.hid h1.lenI
  have L2 := Lib.hid h2.lenI
  clear h1 h2
  by_cases hs : s1 = s2
  · subst hs
    by_cases hne : n1 = n2
    · subst hne
      have HR : Hid (decide (l1 = l2) = r) := by show _ = _; rw [← hr]; simp [sameB]
      clear hr
      obtain ⟨w5, hw5⟩ : ∃ w5, w5 = ((w.alloc (.cells #[.int .i64 s1, .slice A1 n1 c1] 24)).alloc (.cells #[.int .i64 s1, .slice A2 n1 c2] 24)) := ⟨_, rfl⟩
      go_enter Tryz.func21, Tryz.ntmps21
      go_wp2_with fail
      rw [← hw5] at K H1 H2 ⊢
      clear hw5
      go_loopw [5] (fun i wr => ∃ k : Nat, k ≤ n1 ∧ i = .int .i64 k ∧ Hid (l1.take k = l2.take k) ∧ Drew w5 wr) (fun i _ => n1 - (RowKit.intOf i).toNat)
      case atStart => exact ⟨0, Nat.zero_le _, rfl, rfl, Drew.refl _⟩
      case round =>
        obtain ⟨k, hk, rfl, HE, dd, rfl⟩ := hrel
        have hz0 : w5.cell? ⟨w.heap.size, 1, none⟩ = some (.slice A1 n1 c1) := (K.out.1.cell 1).trans rfl
        have hz1 : w5.cell? ⟨w.heap.size + 1, 1, none⟩ = some (.slice A2 n1 c2) := (K.out.2.1.cell 1).trans rfl
        have hy0 : (w5.drewN dd).cell? ⟨w.heap.size, 1, none⟩ = some (.slice A1 n1 c1) := (K.out.1.cell 1).trans rfl
        have hy1 : (w5.drewN dd).cell? ⟨w.heap.size + 1, 1, none⟩ = some (.slice A2 n1 c2) := (K.out.2.1.cell 1).trans rfl
        by_cases hlt : k < n1
        · have hkc : (k : Int) < (n1 : Int) := by omega
          obtain ⟨ad1, u, rfl, hu, g1⟩ := H1.out.atI hlt
          obtain ⟨ad2, v, rfl, hv, g2⟩ := H2.out.atI hlt
          have g1d : (w5.drewN dd).cell? (ad1.add k) = some (.int .i64 u) := g1
          have g2d : (w5.drewN dd).cell? (ad2.add k) = some (.int .i64 v) := g2
          by_cases huv : u = v
          · subst huv
            have HE2 : Hid (l1.take (k + 1) = l2.take (k + 1)) := by show _ = _; rw [List.take_add_one, List.take_add_one, hu, hv, HE.out]
            clear hu hv
            go_wp2_with fail
            go_quiet (fail)
            go_wp2_with fail
            go_roundw
            case rel => exact ⟨k + 1, by omega, by go_num, HE2, _, rfl⟩
            case measure => simp [RowKit.intOf]; omega
          · have huv' : ¬ u = v := huv
            have hres : r = false := by
              rw [← HR.out]
              exact decide_eq_false (fun e => by rw [e, hv] at hu; exact huv (Option.some.inj hu).symm)
            subst hres
            have HB := Lib.hid (K.out.2.2.trans ((Drew.below ⟨dd, rfl⟩).mono K.out.2.2.size))
            clear hu hv
            go_wp2_with fail
            go_quiet (fail)
            go_wp2_with fail
            go_ret
            exact ⟨rfl, below_drewN HB.out _⟩
        · obtain rfl : k = n1 := by omega
          have hres : r = true := by
            rw [← HR.out]
            have := HE.out
            rw [List.take_of_length_le (by rw [L1.out]; exact Nat.le_refl _), List.take_of_length_le (by rw [L2.out]; exact Nat.le_refl _)] at this
            exact decide_eq_true this
          subst hres
          have HB := Lib.hid (K.out.2.2.trans ((Drew.below ⟨dd, rfl⟩).mono K.out.2.2.size))
          go_wp2_with fail
          go_ret
          exact ⟨rfl, HB.out⟩
    · have hne' : ¬ (n1 : Int) = (n2 : Int) := by omega
      have hres : r = false := by
        rw [← hr]
        unfold sameB
        rw [decide_eq_false (show ¬ l1 = l2 from fun e => by have := L1.out; rw [e, L2.out] at this; omega)]
        simp
      subst hres
      have HB := Lib.hid K.out.2.2
      clear hr K H1 H2
      go_enter Tryz.func21, Tryz.ntmps21
      go_wp2_with fail
      go_ret
      exact ⟨rfl, HB.out⟩
  · have hs' : ¬ s1 = s2 := hs
    have hres : r = false := by
      rw [← hr]
      unfold sameB
      rw [decide_eq_false hs]
      rfl
    subst hres
    have HB := Lib.hid K.out.2.2
    clear hr K H1 H2 hs
    go_enter Tryz.func21, Tryz.ntmps21
    go_wp2_with fail
    go_ret
    exact ⟨rfl, HB.out⟩
end Go.Proofs.YtikfjmdeeknalaaGreatDoor

/- The walks of slices.Equal, big's Same and Neg, and the law's few. Conditions: lengths. -/
namespace Go.Proofs.YtikfjmdeeknalaaGreatDoor
set_option maxRecDepth 8000
open Go.RowKit

set_option maxHeartbeats 4000000 in
theorem Equal_any (A1 A2 : Option Addr) (n1 n2 c1 c2 B1 B2 : Nat) (l1 l2 : List Int) (w : World) (h1 : Reads w B1 1 A1 n1 (iv l1)) (h2 : Reads w B2 1 A2 n2 (iv l2)) (hn1 : n1 ≤ 1073741824) (hn2 : n2 ≤ 1073741824) {r : Bool} (hr : decide (l1 = l2) = r) :
    Calls Tryz.prog 141 #[.slice A1 n1 c1, .slice A2 n2 c2] w fun e w' => e = .returned (.bool r) ∧ Drew w w' := by
  have H1 := Lib.hid h1
  have H2 := Lib.hid h2
  have L1 := Lib.hid h1.lenI
  have L2 := Lib.hid h2.lenI
  clear h1 h2
  by_cases hne : n1 = n2
  · subst hne
    have HR := Lib.hid hr
    clear hr
    go_enter Tryz.func141, Tryz.ntmps141
    go_wp2_with fail
    go_loopw [13] (fun i wr => ∃ k : Nat, k ≤ n1 ∧ i = .int .i64 k ∧ Hid (l1.take k = l2.take k) ∧ Drew w wr) (fun i _ => n1 - (RowKit.intOf i).toNat)
    case atStart => exact ⟨0, Nat.zero_le _, rfl, rfl, Drew.refl _⟩
    case round =>
      obtain ⟨k, hk, rfl, HE, dd, rfl⟩ := hrel
      by_cases hlt : k < n1
      · have hkc : (k : Int) < (n1 : Int) := by omega
        obtain ⟨ad1, u, rfl, hu, g1⟩ := H1.out.atI hlt
        obtain ⟨ad2, v, rfl, hv, g2⟩ := H2.out.atI hlt
        have g1d : (w.drewN dd).cell? (ad1.add k) = some (.int .i64 u) := g1
        have g2d : (w.drewN dd).cell? (ad2.add k) = some (.int .i64 v) := g2
        by_cases huv : u = v
        · subst huv
          have HE2 : Hid (l1.take (k + 1) = l2.take (k + 1)) := by show _ = _; rw [List.take_add_one, List.take_add_one, hu, hv, HE.out]
          clear hu hv
          go_wp2_with fail
          go_quiet (fail)
          go_wp2_with fail
          go_roundw
          case rel => exact ⟨k + 1, by omega, by go_num, HE2, _, rfl⟩
          case measure => simp [RowKit.intOf]; omega
        · have huv' : ¬ u = v := huv
          have hres : r = false := by
            rw [← HR.out]
            exact decide_eq_false (fun e => by rw [e, hv] at hu; exact huv (Option.some.inj hu).symm)
          subst hres
          clear hu hv
          go_wp2_with fail
          go_quiet (fail)
          go_wp2_with fail
          go_ret
          exact ⟨rfl, Drew.more ⟨_, rfl⟩⟩
      · obtain rfl : k = n1 := by omega
        have hres : r = true := by
          rw [← HR.out]
          have := HE.out
          rw [List.take_of_length_le (by rw [L1.out]; exact Nat.le_refl _), List.take_of_length_le (by rw [L2.out]; exact Nat.le_refl _)] at this
          exact decide_eq_true this
        subst hres
        go_wp2_with fail
        go_ret
        exact ⟨rfl, ⟨dd, rfl⟩⟩
  · have hne' : ¬ (n1 : Int) = (n2 : Int) := by omega
    have hres : r = false := by
      rw [← hr]
      exact decide_eq_false (fun e => by have := L1.out; rw [e, L2.out] at this; omega)
    subst hres
    clear hr
    go_enter Tryz.func141, Tryz.ntmps141
    go_wp2_with fail
    go_ret
    exact ⟨rfl, Drew.refl _⟩
set_option maxHeartbeats 2000000 in
theorem Same_any (s1 s2 : Int) (A1 A2 : Option Addr) (n1 n2 c1 c2 B1 B2 : Nat) (l1 l2 : List Int) (w : World) (h1 : Reads w B1 1 A1 n1 (iv l1)) (h2 : Reads w B2 1 A2 n2 (iv l2)) (hn1 : n1 ≤ 1073741824) (hn2 : n2 ≤ 1073741824) {r : Bool} (hr : sameB s1 l1 s2 l2 = r) :
    Calls Tryz.prog 34 #[.agg #[.int .i64 s1, .slice A1 n1 c1], .agg #[.int .i64 s2, .slice A2 n2 c2]] w fun e w' => e = .returned (.bool r) ∧ Below w.heap.size w w' := by
  have K := Lib.hid (TwoC.new w s1 A1 n1 c1 s2 A2 n2 c2)
  have H1 := Lib.hid (h1.past K.out.2.2)
  have H2 := Lib.hid (h2.past K.out.2.2)
  clear h1 h2
  by_cases hs : s1 = s2
  · subst hs
    have HR : Hid (decide (l1 = l2) = r) := by show _ = _; rw [← hr]; simp [sameB]
    clear hr
    obtain ⟨w5, hw5⟩ : ∃ w5, w5 = ((w.alloc (.cells #[.int .i64 s1, .slice A1 n1 c1] 24)).alloc (.cells #[.int .i64 s1, .slice A2 n2 c2] 24)) := ⟨_, rfl⟩
    go_enter Tryz.func34, Tryz.ntmps34
    go_wp2_with fail
    rw [← hw5] at K H1 H2 ⊢
    clear hw5
    refine (Equal_any A1 A2 n1 n2 c1 c2 _ _ l1 l2 w5 H1.out H2.out hn1 hn2 HR.out).mono ?_
    rintro e w6 ⟨rfl, hd⟩
    have HB := Lib.hid (K.out.2.2.trans (hd.below.mono K.out.2.2.size))
    clear hd K
    go_wp2_with fail
    go_ret
    exact ⟨rfl, HB.out⟩
  · have hs' : ¬ s1 = s2 := hs
    have hres : r = false := by
      rw [← hr]
      unfold sameB
      rw [decide_eq_false hs]
      rfl
    subst hres
    have HB := Lib.hid K.out.2.2
    clear hr K H1 H2 hs
    go_enter Tryz.func34, Tryz.ntmps34
    go_wp2_with fail
    go_ret
    exact ⟨rfl, HB.out⟩
set_option maxHeartbeats 1000000 in
theorem few_any (s : Int) (A : Option Addr) (n c : Nat) (m : Int) (w : World) :
    Calls Tryz.prog 14 #[.agg #[.int .i64 s, .slice A n c], .int .i64 m] w fun e w' => e = .returned (.bool (decide ((n : Int) ≤ m))) ∧ Below w.heap.size w w' := by
  have HB : Hid (Below w.heap.size w (w.alloc (.cells #[.int .i64 s, .slice A n c] 24))) := (Below.refl _ _).alloc (Nat.le_refl _) _
  go_enter Tryz.func14, Tryz.ntmps14
  go_wp2_with fail
  go_ret
  exact ⟨rfl, HB.out⟩

/-- The boxes of an argument and a result. -/
structure OneR (w w' : World) (s : Int) (A : Option Addr) (n c : Nat) : Prop where
  k1 : Blk w' w.heap.size 24 #[.int .i64 s, .slice A n c]
  k3 : Blk w' (w.heap.size + 1) 24 #[.int .i64 0, .slice none 0 0]
  bl : Below w.heap.size w w'
theorem OneR.new (w : World) (s : Int) (A : Option Addr) (n c : Nat) : OneR w ((w.alloc (.cells #[.int .i64 s, .slice A n c] 24)).alloc (.cells #[.int .i64 0, .slice none 0 0] 24)) s A n c := by
  refine ⟨(Blk.new w _ _).alloc _, ?_, ((Below.refl _ _).alloc (Nat.le_refl _) _).alloc (by simp) _⟩
  have := Blk.new (w.alloc (.cells #[.int .i64 s, .slice A n c] 24)) 24 #[.int .i64 0, .slice none 0 0]
  simpa using this
section
variable {w w' w2 : World} {s : Int} {A : Option Addr} {n c : Nat}
theorem OneR.past (h : OneR w w' s A n c) (hb : Below w'.heap.size w' w2) : OneR w w2 s A n c := ⟨h.k1.below hb h.k1.lt, h.k3.below hb h.k3.lt, h.bl.trans (hb.mono h.bl.size)⟩
theorem OneR.drew (h : OneR w w' s A n c) : OneR w w'.drew s A n c := h.past (Below.refl _ _).drew
theorem OneR.cells (h : OneR w w' s A n c) : w'.cell? ⟨w.heap.size, 0, none⟩ = some (.int .i64 s) ∧ w'.cell? ⟨w.heap.size, 1, none⟩ = some (.slice A n c) ∧ w'.cell? ⟨w.heap.size + 1, 0, none⟩ = some (.int .i64 0) ∧ w'.cell? ⟨w.heap.size + 1, 1, none⟩ = some (.slice none 0 0) ∧ w'.frozen? ⟨w.heap.size + 1, 0, none⟩ = false ∧ w'.frozen? ⟨w.heap.size + 1, 1, none⟩ = false :=
  ⟨(h.k1.cell 0).trans rfl, (h.k1.cell 1).trans rfl, (h.k3.cell 0).trans rfl, (h.k3.cell 1).trans rfl, h.k3.frozen 0, h.k3.frozen 1⟩
theorem OneR.held (h : OneR w w' s A n c) (u v : Value) :
    ((w'.setCell ⟨w.heap.size + 1, 0, none⟩ u).setCell ⟨w.heap.size + 1, 1, none⟩ v).cell? ⟨w.heap.size, 0, none⟩ = some (.int .i64 s) ∧ ((w'.setCell ⟨w.heap.size + 1, 0, none⟩ u).setCell ⟨w.heap.size + 1, 1, none⟩ v).cell? ⟨w.heap.size, 1, none⟩ = some (.slice A n c) := by
  have q1 := (h.k1.far (p := ⟨w.heap.size + 1, 0, none⟩) (by show _ ≠ w.heap.size + 1; omega) u).far (p := ⟨w.heap.size + 1, 1, none⟩) (by show _ ≠ w.heap.size + 1; omega) v
  exact ⟨(q1.cell 0).trans rfl, (q1.cell 1).trans rfl⟩
theorem OneR.stored (h : OneR w w' s A n c) {x t : Int} {l : List Nat} {A2 : Option Addr} {c2 : Nat} (hne : 0 < l.length → ∀ ad, A2 = some ad → w.heap.size + 1 < ad.block) (hR : Reads w' w'.heap.size 1 A2 l.length (dv l)) (hrep : Rep t l x) (hc : l.length ≤ c2) :
    BigEnd w x (.returned (.agg #[.int .i64 t, .slice A2 l.length c2])) ((w'.setCell ⟨w.heap.size + 1, 0, none⟩ (.int .i64 t)).setCell ⟨w.heap.size + 1, 1, none⟩ (.slice A2 l.length c2)) :=
  BigEnd.stored (by omega) hne hR h.bl hrep hc _
theorem OneR.lt (h : OneR w w' s A n c) : w.heap.size + 1 < w'.heap.size := h.k3.lt
end
theorem neg_sign {s x : Int} {l : List Nat} (r : Rep s l x) : -s = 1 ∨ -s = -1 ∨ l = [] := by
  rcases r.sign with ⟨e, -⟩ | ⟨e, -⟩ | ⟨-, e⟩
  · exact .inr (.inl (by omega))
  · exact .inl (by omega)
  · exact .inr (.inr e)
set_option maxHeartbeats 4000000 in
theorem Neg_any (s : Int) (A : Option Addr) (n c B : Nat) (l : List Nat) (x : Int) (w : World) (h : Reads w B 1 A n (dv l)) (r : Rep s l x) (hn : n ≤ 1073741824) :
    Calls Tryz.prog 37 #[.agg #[.int .i64 s, .slice A n c]] w (BigEnd w (-x)) := by
  have R := Lib.hid r
  have K := Lib.hid (OneR.new w s A n c)
  have H := Lib.hid (h.past K.out.bl)
  have hs : -1 ≤ s ∧ s ≤ 1 := by rcases r.sign with ⟨e, -⟩ | ⟨e, -⟩ | ⟨e, -⟩ <;> omega
  have hwr : IntKind.i64.wrap (-s) = -s := IntWalk.i64_in _ (by omega)
  obtain ⟨hs1, hs2⟩ := hs
  clear h r
  go_enter Tryz.func37, Tryz.ntmps37
  go_wp2_with fail
  refine (right_rep R.out A n c _ _ H.out (by omega)).mono ?_
  rintro e w5 ⟨rfl, b4⟩
  have K5 := Lib.hid (K.out.past b4)
  have H5 := Lib.hid (H.out.past b4)
  obtain ⟨y0, y1, y4, y5, y6, y7⟩ := K5.out.cells
  clear b4 K H
  go_wp2_with fail
  go_region_held3 (fun w' => w'.cell? ⟨w.heap.size, 0, none⟩ = some (.int .i64 s) ∧ w'.cell? ⟨w.heap.size, 1, none⟩ = some (.slice A n c))
    (first | exact ⟨y0, y1⟩ | exact ⟨x0, x1⟩ | exact ⟨z0, z1⟩ | exact K7.out.held _ _)
    (first | (go_at_call 142; refine (cloneD_any A n c _ l _ H5.out.drew hn).mono ?_; rintro e w6 ⟨A2, c2, rfl, hc, hR, hF, hB⟩; have K6 := Lib.hid (K5.out.drew.past hB); obtain ⟨x0, x1, -, -, -, -⟩ := K6.out.cells; have HC := Lib.hid hc; have HR := Lib.hid hR; have HF := Lib.hid hF; clear hc hR hF hB) | (go_at_call 125; refine (signed_any (-s) A2 _ c2 _ l _ HR.out R.out.norm (neg_sign R.out) HC.out).mono ?_; rintro e w7 ⟨s', A', c', rfl, hc', hrep, hA, hB⟩; have K7 := Lib.hid (K6.out.past hB); obtain ⟨z0, z1, z4, z5, z6, z7⟩ := K7.out.cells; have HC7 := Lib.hid hc'; have HREP := Lib.hid hrep; have HA := Lib.hid hA; have HB7 := Lib.hid hB; clear hc' hrep hA hB))
  all_goals
    have hne : Hid (0 < l.length → ∀ ad, A' = some ad → w.heap.size + 1 < ad.block) := fun hp ad e => by
      obtain ⟨g, e2, hg, -⟩ := HF.out hp
      rw [HA.out hp, e2] at e
      cases e
      exact Nat.lt_of_lt_of_le K5.out.lt hg
    have hrd : Hid (Reads w7 w7.heap.size 1 A' l.length (dv l)) := ⟨HR.out.1, fun hp => by rw [HA.out hp]; exact ((HR.out.past HB7.out).here).2 hp⟩
    have hx : -s * (dval l : Int) = -x := by rw [R.out.eq, Int.neg_mul]
    have HE := Lib.hid (K7.out.stored hne.out hrd.out (hx ▸ HREP.out) HC7.out)
    obtain ⟨e0, e1⟩ := two_cells K7.out.k3 (.int .i64 s') (.slice A' l.length c')
    clear hx hne hrd
    go_wp2_with fail
    refine bodyPost_ret (v := .agg #[.int .i64 s', .slice A' l.length c']) (by simp [results, Tryz.results37, go_sem, e0, e1]) rfl ?_
    exact HE.out
end Go.Proofs.YtikfjmdeeknalaaGreatDoor
