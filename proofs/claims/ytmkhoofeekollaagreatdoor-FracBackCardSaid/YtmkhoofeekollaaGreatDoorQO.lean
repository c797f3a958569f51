/- The walks of frac's Same, of the reference's Same, SameBig and Few, and of the law's right. Conditions: sizes. -/
import Derived.Test.YtmkhoofeekollaaGreatDoorQI
import Derived.Test.YtmkhoofeekollaaGreatDoorQL
import Derived.Test.YtmkhoofeekollaaGreatDoorF6
import Derived.Deep.DeepCutAuto
namespace Go.Proofs.YtmkhoofeekollaaGreatDoor
set_option maxRecDepth 20000
open Go.RowKit

set_option maxHeartbeats 4000000 in
theorem sameBig_any (s1 s2 : Int) (A1 A2 : Option Addr) (n1 n2 c1 c2 B1 B2 : Nat) (l1 l2 : List Int) (w : World) (h1 : Reads w B1 1 A1 n1 (iv l1)) (h2 : Reads w B2 1 A2 n2 (iv l2)) (hn1 : n1 ≤ 1073741824) (hn2 : n2 ≤ 1073741824) {r : Bool} (hr : sameB s1 l1 s2 l2 = r) :
    Calls Tryz.prog 35 #[.agg #[.int .i64 s1, .slice A1 n1 c1], .agg #[.int .i64 s2, .slice A2 n2 c2]] w fun e w' => e = .returned (.bool r) ∧ Below w.heap.size w w' := by
  have K := Lib.hid (TwoC.new w s1 A1 n1 c1 s2 A2 n2 c2)
  have H1 := Lib.hid (h1.past K.out.2.2)
  have H2 := Lib.hid (h2.past K.out.2.2)
  have L1 := Lib.hid h1.lenI
  have L2 := Lib.hid h2.lenI
  clear h1 h2
  by_cases hs : s1 = s2
  · subst hs
    by_cases hne : n1 = n2
    · subst hne
      have HR : Hid (decide (l1 = l2) = r) := by show _ = _; rw [← hr]; simp [sameB]
      clear hr
      obtain ⟨w5, hw5⟩ : ∃ w5, w5 = ((w.alloc (.cells #[.int .i64 s1, .slice A1 n1 c1] 24)).alloc (.cells #[.int .i64 s1, .slice A2 n1 c2] 24)) := ⟨_, rfl⟩
      go_enter Tryz.func35, Tryz.ntmps35
      go_wp2_with fail
      rw [← hw5] at K H1 H2 ⊢
      clear hw5
      go_loopw [5] (fun i wr => ∃ k : Nat, k ≤ n1 ∧ i = .int .i64 k ∧ Hid (l1.take k = l2.take k) ∧ Drew w5 wr) (fun i _ => n1 - (RowKit.intOf i).toNat)
      case atStart => exact ⟨0, Nat.zero_le _, rfl, rfl, Drew.refl _⟩
      case round =>
        obtain ⟨k, hk, rfl, HE, dd, rfl⟩ := hrel
        have hz0 : w5.cell? ⟨w.heap.size, 1, none⟩ = some (.slice A1 n1 c1) := (K.out.1.cell 1).trans rfl
        have hz1 : w5.cell? ⟨w.heap.size + 1, 1, none⟩ = some (.slice A2 n1 c2) := (K.out.2.1.cell 1).trans rfl
        have hy0 : (w5.drewN dd).cell? ⟨w.heap.size, 1, none⟩ = some (.slice A1 n1 c1) := (K.out.1.cell 1).trans rfl
        have hy1 : (w5.drewN dd).cell? ⟨w.heap.size + 1, 1, none⟩ = some (.slice A2 n1 c2) := (K.out.2.1.cell 1).trans rfl
        by_cases hlt : k < n1
        · have hkc : (k : Int) < (n1 : Int) := by omega
          obtain ⟨ad1, u, rfl, hu, g1⟩ := H1.out.atI hlt
          obtain ⟨ad2, v, rfl, hv, g2⟩ := H2.out.atI hlt
          have g1d : (w5.drewN dd).cell? (ad1.add k) = some (.int .i64 u) := g1
          have g2d : (w5.drewN dd).cell? (ad2.add k) = some (.int .i64 v) := g2
          by_cases huv : u = v
          · subst huv
            have HE2 : Hid (l1.take (k + 1) = l2.take (k + 1)) := by show _ = _; rw [List.take_add_one, List.take_add_one, hu, hv, HE.out]
            clear hu hv
            go_wp2_with fail
            go_quiet (fail)
            go_wp2_with fail
            go_roundw
            case rel => exact ⟨k + 1, by omega, by go_num, HE2, _, rfl⟩
            case measure => simp [RowKit.intOf]; omega
          · have huv' : ¬ u = v := huv
            have hres : r = false := by
              rw [← HR.out]
              exact decide_eq_false (fun e => by rw [e, hv] at hu; exact huv (Option.some.inj hu).symm)
            subst hres
            have HB := Lib.hid (K.out.2.2.trans ((Drew.below ⟨dd, rfl⟩).mono K.out.2.2.size))
            clear hu hv
            go_wp2_with fail
            go_quiet (fail)
            go_wp2_with fail
            go_ret
            exact ⟨rfl, below_drewN HB.out _⟩
        · obtain rfl : k = n1 := by omega
          have hres : r = true := by
            rw [← HR.out]
            have := HE.out
            rw [List.take_of_length_le (by rw [L1.out]; exact Nat.le_refl _), List.take_of_length_le (by rw [L2.out]; exact Nat.le_refl _)] at this
            exact decide_eq_true this
          subst hres
          have HB := Lib.hid (K.out.2.2.trans ((Drew.below ⟨dd, rfl⟩).mono K.out.2.2.size))
          go_wp2_with fail
          go_ret
          exact ⟨rfl, HB.out⟩
    · have hne' : ¬ (n1 : Int) = (n2 : Int) := by omega
      have hres : r = false := by
        rw [← hr]
        unfold sameB
        rw [decide_eq_false (show ¬ l1 = l2 from fun e => by have := L1.out; rw [e, L2.out] at this; omega)]
        simp
      subst hres
      have HB := Lib.hid K.out.2.2
      clear hr K H1 H2
      go_enter Tryz.func35, Tryz.ntmps35
      go_wp2_with fail
      go_ret
      exact ⟨rfl, HB.out⟩
  · have hs' : ¬ s1 = s2 := hs
    have hres : r = false := by
      rw [← hr]
      unfold sameB
      rw [decide_eq_false hs]
      rfl
    subst hres
    have HB := Lib.hid K.out.2.2
    clear hr K H1 H2 hs
    go_enter Tryz.func35, Tryz.ntmps35
    go_wp2_with fail
    go_ret
    exact ⟨rfl, HB.out⟩
end Go.Proofs.YtmkhoofeekollaaGreatDoor

/- The walks of slices.Equal, big's Same and Neg, and the law's few. Conditions: lengths. -/
namespace Go.Proofs.YtmkhoofeekollaaGreatDoor
set_option maxRecDepth 8000
open Go.RowKit

section
variable {w : World} {j k : Nat} {x y s1 s2 : Int} {A1 A2 : Option Addr} {n1 n2 : Nat}
theorem sameBig_B (h1 : Bg w j x s1 A1 n1) (h2 : Bg w k y s2 A2 n2) (hj : j ≤ 1048576) (hk : k ≤ 1048576) (c1 c2 : Nat) {r : Bool} (hr : decide (x = y) = r) :
    Calls Tryz.prog 35 #[.agg #[.int .i64 s1, .slice A1 n1 c1], .agg #[.int .i64 s2, .slice A2 n2 c2]] w fun e w' => e = .returned (.bool r) ∧ Below w.heap.size w w' := by
  have e1 := h1.len
  have e2 := h2.len
  obtain ⟨z1, l1, g1, r1, m1⟩ := h1
  obtain ⟨z2, l2, g2, r2, m2⟩ := h2
  exact sameBig_any s1 s2 A1 A2 n1 n2 c1 c2 _ _ _ _ w (dv_read m1) (dv_read m2) (by omega) (by omega) (by rw [sameB_rep r1 r2]; exact hr)
end
set_option maxHeartbeats 4000000 in
theorem frSame_any {w : World} {k : Nat} {p q p2 q2 : Int} (r r2 : FrR) (h1 : Bg w k p r.s1 r.A1 r.n1) (h2 : Bg w k q r.s2 r.A2 r.n2) (h3 : Bg w k p2 r2.s1 r2.A1 r2.n1) (h4 : Bg w k q2 r2.s2 r2.A2 r2.n2) (hk : k ≤ 1000000) {b1 b2 : Bool} (e1 : decide (p = p2) = b1) (e2 : decide (q = q2) = b2) :
    Calls Tryz.prog 43 #[frV r, frV r2] w fun e w' => e = .returned (.bool (b1 && b2)) ∧ Below w.heap.size w w' := by
  have S := Lib.hid (DuoF.new w r r2)
  obtain ⟨W0, hW0⟩ : ∃ W0, W0 = ((w.alloc (.cells (frC r) 26)).alloc (.cells (frC r2) 26)) := ⟨_, rfl⟩
  rw [← hW0] at S
  have M1 := Lib.hid (same_B (h1.past S.out.bl) (h3.past S.out.bl) (by omega) (by omega) r.c1 r2.c1 e1)
  have M2 := Lib.hid (fun W (hb : Below w.heap.size w W) => same_B (h2.past hb) (h4.past hb) (by omega) (by omega) r.c2 r2.c2 e2)
  clear h1 h2 h3 h4 e1 e2
  obtain ⟨s1, A1, n1, c1, s2, A2, n2, c2⟩ := r
  obtain ⟨s3, A3, n3, c3, s4, A4, n4, c4⟩ := r2
  dsimp only [frV, frC] at *
  obtain ⟨⟨ka0, ka1, ka2, ka3⟩, kb0, kb1, kb2, kb3⟩ := S.out.cells
  dsimp only at ka0 ka1 ka2 ka3 kb0 kb1 kb2 kb3
  cases b1
  · clear M2
    go_enter Tryz.func43, Tryz.ntmps43
    go_wp2_with fail
    rw [← hW0]
    clear hW0
    go_wp2_with fail
    refine M1.out.mono ?_
    rintro e w1 ⟨rfl, hb⟩
    have B1 := Lib.hid (S.out.bl.trans (hb.mono S.out.bl.size))
    clear hb
    go_wp2_with fail
    go_ret
    exact ⟨by simp, B1.out⟩
  · go_enter Tryz.func43, Tryz.ntmps43
    go_wp2_with fail
    rw [← hW0]
    clear hW0
    go_wp2_with fail
    refine M1.out.mono ?_
    rintro e w1 ⟨rfl, hb⟩
    have S1 := Lib.hid (S.out.call hb)
    clear ka0 ka1 ka2 ka3 kb0 kb1 kb2 kb3 hb S M1
    obtain ⟨⟨ka0, ka1, ka2, ka3⟩, kb0, kb1, kb2, kb3⟩ := S1.out.cells
    dsimp only at ka0 ka1 ka2 ka3 kb0 kb1 kb2 kb3
    go_wp2_with fail
    refine (M2.out _ S1.out.bl).mono ?_
    rintro e w2 ⟨rfl, hb⟩
    have B2 := Lib.hid (S1.out.bl.trans (hb.mono S1.out.bl.size))
    clear hb
    go_wp2_with fail
    go_ret
    exact ⟨by simp, B2.out⟩
set_option maxHeartbeats 4000000 in
theorem frSame5_any {w : World} {k : Nat} {p q p2 q2 : Int} (r r2 : FrR) (h1 : Bg w k p r.s1 r.A1 r.n1) (h2 : Bg w k q r.s2 r.A2 r.n2) (h3 : Bg w k p2 r2.s1 r2.A1 r2.n1) (h4 : Bg w k q2 r2.s2 r2.A2 r2.n2) (hk : k ≤ 1000000) {b1 b2 : Bool} (e1 : decide (p = p2) = b1) (e2 : decide (q = q2) = b2) :
    Calls Tryz.prog 16 #[frV r, frV r2] w fun e w' => e = .returned (.bool (b1 && b2)) ∧ Below w.heap.size w w' := by
  have S := Lib.hid (DuoF.new w r r2)
  obtain ⟨W0, hW0⟩ : ∃ W0, W0 = ((w.alloc (.cells (frC r) 26)).alloc (.cells (frC r2) 26)) := ⟨_, rfl⟩
  rw [← hW0] at S
  have M1 := Lib.hid (sameBig_B (h1.past S.out.bl) (h3.past S.out.bl) (by omega) (by omega) r.c1 r2.c1 e1)
  have M2 := Lib.hid (fun W (hb : Below w.heap.size w W) => sameBig_B (h2.past hb) (h4.past hb) (by omega) (by omega) r.c2 r2.c2 e2)
  clear h1 h2 h3 h4 e1 e2
  obtain ⟨s1, A1, n1, c1, s2, A2, n2, c2⟩ := r
  obtain ⟨s3, A3, n3, c3, s4, A4, n4, c4⟩ := r2
  dsimp only [frV, frC] at *
  obtain ⟨⟨ka0, ka1, ka2, ka3⟩, kb0, kb1, kb2, kb3⟩ := S.out.cells
  dsimp only at ka0 ka1 ka2 ka3 kb0 kb1 kb2 kb3
  cases b1
  · clear M2
    go_enter Tryz.func16, Tryz.ntmps16
    go_wp2_with fail
    rw [← hW0]
    clear hW0
    go_wp2_with fail
    refine M1.out.mono ?_
    rintro e w1 ⟨rfl, hb⟩
    have B1 := Lib.hid (S.out.bl.trans (hb.mono S.out.bl.size))
    clear hb
    go_wp2_with fail
    go_ret
    exact ⟨by simp, B1.out⟩
  · go_enter Tryz.func16, Tryz.ntmps16
    go_wp2_with fail
    rw [← hW0]
    clear hW0
    go_wp2_with fail
    refine M1.out.mono ?_
    rintro e w1 ⟨rfl, hb⟩
    have S1 := Lib.hid (S.out.call hb)
    clear ka0 ka1 ka2 ka3 kb0 kb1 kb2 kb3 hb S M1
    obtain ⟨⟨ka0, ka1, ka2, ka3⟩, kb0, kb1, kb2, kb3⟩ := S1.out.cells
    dsimp only at ka0 ka1 ka2 ka3 kb0 kb1 kb2 kb3
    go_wp2_with fail
    refine (M2.out _ S1.out.bl).mono ?_
    rintro e w2 ⟨rfl, hb⟩
    have B2 := Lib.hid (S1.out.bl.trans (hb.mono S1.out.bl.size))
    clear hb
    go_wp2_with fail
    go_ret
    exact ⟨by simp, B2.out⟩
theorem frac_eq {x y : Rat} : (decide (x.num = y.num) && decide ((x.den : Int) = (y.den : Int))) = decide (x = y) := by
  by_cases h : x = y
  · subst h; simp
  · rw [decide_eq_false h]
    by_cases h1 : x.num = y.num
    · have : ¬ (x.den : Int) = (y.den : Int) := fun e => h (Rat.ext h1 (by omega))
      rw [decide_eq_false this, Bool.and_false]
    · rw [decide_eq_false h1]; rfl
theorem same_R {w : World} {k : Nat} {x y : Rat} (r r2 : FrR) (h1 : Fg w k x r) (h2 : Fg w k y r2) (hk : k ≤ 1000000) {o : Bool} (ho : decide (x = y) = o) :
    Calls Tryz.prog 43 #[frV r, frV r2] w fun e w' => e = .returned (.bool o) ∧ Below w.heap.size w w' := by
  have := frSame_any r r2 h1.1 h1.2 h2.1 h2.2 hk rfl rfl
  rwa [frac_eq, ho] at this
theorem same5_R {w : World} {k : Nat} {x y : Rat} (r r2 : FrR) (h1 : Fg w k x r) (h2 : Fg w k y r2) (hk : k ≤ 1000000) {o : Bool} (ho : decide (x = y) = o) :
    Calls Tryz.prog 16 #[frV r, frV r2] w fun e w' => e = .returned (.bool o) ∧ Below w.heap.size w w' := by
  have := frSame5_any r r2 h1.1 h1.2 h2.1 h2.2 hk rfl rfl
  rwa [frac_eq, ho] at this
set_option maxHeartbeats 2000000 in
theorem few5_T (r : FrR) (m : Int) (w : World) (h1 : (r.n1 : Int) ≤ m) (h2 : (r.n2 : Int) ≤ m) : Calls Tryz.prog 12 #[frV r, .int .i64 m] w fun e w' => e = .returned (.bool true) ∧ Below w.heap.size w w' := by
  have HB : Hid (Below w.heap.size w (w.alloc (.cells (frC r) 26))) := (Below.refl _ _).alloc (Nat.le_refl _) _
  obtain ⟨s1, A1, n1, c1, s2, A2, n2, c2⟩ := r
  dsimp only [frV, frC] at *
  go_enter Tryz.func12, Tryz.ntmps12
  go_wp2_with fail
  go_ret
  exact ⟨rfl, HB.out⟩
set_option maxHeartbeats 2000000 in
theorem few5_F (r : FrR) (m : Int) (w : World) (h : m < (r.n1 : Int) ∨ m < (r.n2 : Int)) : Calls Tryz.prog 12 #[frV r, .int .i64 m] w fun e w' => e = .returned (.bool false) ∧ Below w.heap.size w w' := by
  have HB : Hid (Below w.heap.size w (w.alloc (.cells (frC r) 26))) := (Below.refl _ _).alloc (Nat.le_refl _) _
  obtain ⟨s1, A1, n1, c1, s2, A2, n2, c2⟩ := r
  dsimp only [frV, frC] at *
  by_cases h1 : m < (n1 : Int)
  · clear h
    go_enter Tryz.func12, Tryz.ntmps12
    go_wp2_with fail
    go_ret
    exact ⟨rfl, HB.out⟩
  · have h2 : m < (n2 : Int) := by omega
    have h3 : (n1 : Int) ≤ m := by omega
    have h4 : decide ((n2 : Int) ≤ m) = false := decide_eq_false (by omega)
    clear h h1
    go_enter Tryz.func12, Tryz.ntmps12
    go_wp2_with fail
    go_ret
    exact ⟨rfl, HB.out⟩
end Go.Proofs.YtmkhoofeekollaaGreatDoor

/- The walks of frac's Text and Read. Conditions: sizes, lengths; the tables of math/bits and strconv as their texts lay them; the variable MaxLen of internal/bytealg holds an int. -/
namespace Go.Proofs.YtmkhoofeekollaaGreatDoor
set_option maxRecDepth 20000
open Go.RowKit

set_option maxHeartbeats 2000000 in
theorem OrE_any (A : Option Addr) (a b : Int) (c B : Nat) (w : World) (h : Reads w B 1 A 2 (iv [a, b])) :
    Calls Tryz.prog 65 #[.slice A 2 c] w fun e w' => e = .returned (.int .i64 (orI a b)) ∧ w = w' := by
  have HR := Lib.hid h
  clear h
  go_enter Tryz.func65, Tryz.ntmps65
  go_wp2_with fail
  go_loop [8] (fun i => ∃ k : Nat, k ≤ 2 ∧ i = .int .i64 k ∧ Hid (∀ j, j < k → [a, b][j]? = some 0)) (fun i => 2 - (RowKit.intOf i).toNat)
  case atStart => exact ⟨0, by omega, rfl, fun j hj => by omega⟩
  case round =>
    obtain ⟨k, hk, rfl, HZ⟩ := hrel
    by_cases hlt : k < 2
    · have hkc : (k : Int) < 2 := by omega
      obtain ⟨ad, u, rfl, hu, g1⟩ := HR.out.atI hlt
      have HU := Lib.hid hu
      clear hu
      by_cases hu0 : u = 0
      · subst hu0
        go_wp2_with fail
        go_round
        case rel => exact ⟨k + 1, by omega, by go_num, fun j hj => by
          by_cases e : j = k
          · subst e; exact HU.out
          · exact HZ.out j (by omega)⟩
        case measure => simp [RowKit.intOf]; omega
      · have hu1 : ¬ u = 0 := hu0
        have hres : Hid (orI a b = u) := by
          have h1 := HU.out
          have h2 := HZ.out
          show _ = _
          have hcs : k = 0 ∨ k = 1 := by omega
          rcases hcs with rfl | rfl
          · have : a = u := by simpa using h1
            subst this
            unfold orI
            rw [if_neg hu0]
          · have e1 : b = u := by simpa using h1
            have e2 : a = 0 := by have := h2 0 (by omega); simpa using this
            unfold orI
            rw [if_pos e2, e1]
        go_wp2_with fail
        go_ret
        exact ⟨by rw [hres.out]; rfl, rfl⟩
    · obtain rfl : k = 2 := by omega
      have hres : Hid (orI a b = 0) := by
        have h2 := HZ.out
        show _ = _
        have e1 : a = 0 := by have := h2 0 (by omega); simpa using this
        have e2 : b = 0 := by have := h2 1 (by omega); simpa using this
        unfold orI
        rw [if_pos e1, e2]
      clear HR
      go_wp2_with fail
      go_ret
      exact ⟨by rw [hres.out]; rfl, rfl⟩

theorem two_newE (w : World) (a b : Int) : Reads (w.alloc (.cells #[.int .i64 a, .int .i64 b] 32)) (w.heap.size + 1) 1 (some ⟨w.heap.size, 0, none⟩) 2 (iv [a, b]) := by
  have hk := Blk.new w 32 #[.int .i64 a, .int .i64 b]
  refine ⟨rfl, fun _ => ⟨_, rfl, Nat.lt_succ_self _, fun j u hj => ?_⟩⟩
  have hlt := (List.getElem?_eq_some_iff.1 hj).1
  have hcs : j = 0 ∨ j = 1 := by
    have : j < 2 := hlt
    omega
  rcases hcs with rfl | rfl
  · cases hj; exact (hk.cell 0).trans rfl
  · cases hj; exact (hk.cell 1).trans rfl
theorem dec_len (k : Nat) : ∀ n : Nat, n < 10 ^ (k + 1) → (Lib.decDigits n).length ≤ k + 1 := by
  induction k with
  | zero =>
    intro n h
    rw [dc_small (by omega)]
    exact Nat.le_refl _
  | succ k ih =>
    intro n h
    by_cases h10 : n < 10
    · rw [dc_small h10]
      simp
    · rw [dc_big h10, List.length_append, List.length_singleton]
      have := ih (n / 10) (by rw [Nat.pow_succ] at h; omega)
      omega
set_option exponentiation.threshold 500 in
theorem itoa_len {x : Int} (h : Sz 60 x) : (Lib.itoa x).length ≤ 390 := by
  have h1 : (1048576 : Nat) ^ 60 ≤ 10 ^ (380 + 1) := by decide
  have h2 : x.natAbs < 10 ^ (380 + 1) := Nat.lt_of_lt_of_le h h1
  have h3 := dec_len 380 _ h2
  rcases Int.lt_or_le x 0 with hz | hz
  · obtain ⟨u, rfl⟩ : ∃ u : Nat, x = -(u : Int) := ⟨x.natAbs, by omega⟩
    rw [Int.natAbs_neg, Int.natAbs_natCast] at h3
    rw [Lib.itoa_neg u (by omega), List.length_cons]
    omega
  · obtain ⟨u, rfl⟩ : ∃ u : Nat, x = u := ⟨x.toNat, by omega⟩
    rw [Int.natAbs_natCast] at h3
    rw [Lib.itoa_nonneg]
    omega
/-- The variable that strings.Cut reads. -/
def MaxL (w : World) : Prop := ∃ m, w.cell? ⟨0, 0, none⟩ = some (.int .i64 m)
theorem MaxL.on {w w' : World} (h : MaxL w) {B : Nat} (hb : Below B w w') (hB : 0 < B) : MaxL w' := by
  obtain ⟨m, h⟩ := h
  exact ⟨m, (hb.cell (p := ⟨0, 0, none⟩) hB).trans h⟩
theorem MaxL.pos {w : World} (h : MaxL w) : 0 < w.heap.size := by
  obtain ⟨m, h⟩ := h
  exact World.block_lt_of_cell? _ _ h
section
variable {w : World} {k : Nat} {x y : Rat}
/-- A fraction's text. -/
def txtF (x : Rat) : List UInt8 := Lib.itoa x.num ++ [47] ++ Lib.itoa (x.den : Int)
set_option maxHeartbeats 8000000 in
theorem text_R (r : FrR) (h1 : Fg w k x r) (hT : TabZ w) (hS : Tab w) (hk : k ≤ 60) :
    Calls Tryz.prog 28 #[frV r] w fun e w' => e = .returned (.string ⟨(txtF x).toArray⟩) ∧ Below w.heap.size w w' := by
  have HB : Hid (Below w.heap.size w (w.alloc (.cells (frC r) 26))) := (Below.refl _ _).alloc (Nat.le_refl _) _
  have KA : Hid (Blk (w.alloc (.cells (frC r) 26)) w.heap.size 26 (frC r)) := Blk.new w _ _
  have R1 := Lib.hid (right_T r (h1.past HB.out) (hT.on HB.out) (by omega))
  have T1 := Lib.hid (fun W (hb : Below w.heap.size w W) => text_B ((h1.past hb).1) (by omega) (hS.on hb) r.c1)
  have T2 := Lib.hid (fun W (hb : Below w.heap.size w W) => text_B ((h1.past hb).2) (by omega) (hS.on hb) r.c2)
  obtain ⟨u1, hu1⟩ : ∃ u : ByteArray, u = ⟨(Lib.itoa x.num).toArray⟩ := ⟨_, rfl⟩
  obtain ⟨u2, hu2⟩ : ∃ u : ByteArray, u = ⟨(Lib.itoa (x.den : Int)).toArray⟩ := ⟨_, rfl⟩
  have HE : Hid ((⟨(txtF x).toArray⟩ : ByteArray) = u1 ++ ⟨#[47]⟩ ++ u2) := by
    show _ = _
    rw [hu1, hu2]
    apply ByteArray.ext
    simp [txtF, ByteArray.data_append]
  have hz1 : u1.size ≤ 390 := by rw [hu1]; simpa [ByteArray.size] using itoa_len (h1.1.1.more hk)
  have hz2 : u2.size ≤ 390 := by rw [hu2]; simpa [ByteArray.size] using itoa_len (h1.2.1.more hk)
  have hz3 : (u1 ++ (⟨#[47]⟩ : ByteArray)).size = u1.size + 1 := by rw [ByteArray.size_append]; rfl
  have hz4 : ¬ 9223372036854775807 < u1.size + 1 := by omega
  have hz5 : ¬ 9223372036854775807 < u1.size + 1 + u2.size := by omega
  rw [← hu1] at T1
  rw [← hu2] at T2
  obtain ⟨s1, A1, n1, c1, s2, A2, n2, c2⟩ := r
  dsimp only [frV, frC] at *
  clear h1 hT hS hu1 hu2
  go_enter Tryz.func28, Tryz.ntmps28
  go_wp2_with fail
  refine R1.out.mono ?_
  rintro e w1 ⟨rfl, hb⟩
  have B1 := Lib.hid (HB.out.trans (hb.mono HB.out.size))
  obtain ⟨ka0, ka1, ka2, ka3, -, -, -, -⟩ := fr_cells (KA.out.below hb KA.out.lt)
  have D1 := Lib.hid (fun (W : World) (hb : Below w1.heap.size w1 W) => T1.out W (B1.out.trans (hb.mono B1.out.size)))
  have D2 := Lib.hid (fun (W : World) (hb : Below w1.heap.size w1 W) => T2.out W (B1.out.trans (hb.mono B1.out.size)))
  clear hb KA R1 T1 T2
  go_upto_region 3 with (fail)
  have HC := Lib.hid (fun (w' : World) (h : Below w1.heap.size w1 w') => (⟨(h.cell (p := ⟨w.heap.size, 0, none⟩) (World.block_lt_of_cell? _ _ ka0)).trans ka0, (h.cell (p := ⟨w.heap.size, 1, none⟩) (World.block_lt_of_cell? _ _ ka1)).trans ka1, (h.cell (p := ⟨w.heap.size, 2, none⟩) (World.block_lt_of_cell? _ _ ka2)).trans ka2, (h.cell (p := ⟨w.heap.size, 3, none⟩) (World.block_lt_of_cell? _ _ ka3)).trans ka3⟩ : w'.cell? ⟨w.heap.size, 0, none⟩ = some (.int .i64 s1) ∧ w'.cell? ⟨w.heap.size, 1, none⟩ = some (.slice A1 n1 c1) ∧ w'.cell? ⟨w.heap.size, 2, none⟩ = some (.int .i64 s2) ∧ w'.cell? ⟨w.heap.size, 3, none⟩ = some (.slice A2 n2 c2)))
  clear ka0 ka1 ka2 ka3
  have Bv0 := Lib.hid (Below.refl w1.heap.size w1).drew
  refine wp_region_held_drew (S := fun w' => Below w1.heap.size w1 w') (by kernel_rfl) Bv0.out (fun hHeld => ?_)
  obtain ⟨vw0, hw⟩ : ∃ W, W = w1.drew := ⟨_, rfl⟩
  rw [← hw] at hHeld Bv0 ⊢
  clear hw
  refine take_at (i := 0) (v := ?vv1) rfl (by kernel_rfl) (by kernel_rfl) (by kernel_rfl) (fun _ _ _ h => h) (Or.inl ⟨by rfl, ?vy1⟩) (by assumption) ?vr1
  case vy1 => (intro w hSw; (try dsimp only at hSw); go_simp; (try with_reducible rfl))
  simp only [Act.put, uA, uB, uC]
  refine take_at (i := 1) (v := ?vv2) rfl (by kernel_rfl) (by kernel_rfl) (by kernel_rfl) (fun _ _ _ h => h) (Or.inl ⟨by rfl, ?vy2⟩) (by assumption) ?vr2
  case vy2 => (intro w hSw; (try dsimp only at hSw); obtain ⟨cc0, cc1, cc2, cc3⟩ := HC.out _ hSw; go_simp; (try with_reducible rfl))
  simp only [Act.put, uA, uB, uC]
  refine take_at (i := 4) (v := ?vv3) rfl (by kernel_rfl) (by kernel_rfl) (by kernel_rfl) (fun _ _ _ h => h) (Or.inl ⟨by rfl, ?vy3⟩) (by assumption) ?vr3
  case vy3 => (intro w hSw; (try dsimp only at hSw); go_simp; (try with_reducible rfl))
  simp only [Act.put, uA, uB, uC]
  refine take_at (i := 5) (v := ?vv4) rfl (by kernel_rfl) (by kernel_rfl) (by kernel_rfl) (fun _ _ _ h => h) (Or.inl ⟨by rfl, ?vy4⟩) (by assumption) ?vr4
  case vy4 => (intro w hSw; (try dsimp only at hSw); obtain ⟨cc0, cc1, cc2, cc3⟩ := HC.out _ hSw; go_simp; (try with_reducible rfl))
  simp only [Act.put, uA, uB, uC]
  refine wpAnyH_ready (rs := [2]) (by kernel_rfl) (by simp) ?_
  refine cons_at (i := 2) rfl (fun K hK => ?_) AllReadyH.nil
  go_simp
  refine (D1.out _ Bv0.out).mono ?_
  rintro e vw5 ⟨rfl, hb⟩
  try dsimp only
  have X5 := Lib.hid hb
  have Bv6 := Lib.hid (Bv0.out.trans (X5.out.mono Bv0.out.size))
  refine hK.out _ _ ?_ (fun hHeld => ?_)
  · exact Bv6.out
  clear Bv0 X5 hb
  clear hK K
  (try simp only [Act.put, uA, uB, uC])
  refine take_at (i := 3) (v := ?vv7) rfl (by kernel_rfl) (by kernel_rfl) (by kernel_rfl) (fun _ _ _ h => h) (Or.inl ⟨by rfl, ?vy7⟩) (by assumption) ?vr7
  case vy7 => (intro w hSw; (try dsimp only at hSw); go_simp; (try with_reducible rfl))
  simp only [Act.put, uA, uB, uC]
  refine wpAnyH_ready (rs := [6]) (by kernel_rfl) (by simp) ?_
  refine cons_at (i := 6) rfl (fun K hK => ?_) AllReadyH.nil
  go_simp
  refine (D2.out _ Bv6.out).mono ?_
  rintro e vw8 ⟨rfl, hb⟩
  try dsimp only
  have X8 := Lib.hid hb
  have Bv9 := Lib.hid (Bv6.out.trans (X8.out.mono Bv6.out.size))
  refine hK.out _ _ ?_ (fun hHeld => ?_)
  · exact Bv9.out
  clear Bv6 X8 hb
  clear hK K
  (try simp only [Act.put, uA, uB, uC])
  refine take_at (i := 7) (v := ?vv10) rfl (by kernel_rfl) (by kernel_rfl) (by kernel_rfl) (fun _ _ _ h => h) (Or.inl ⟨by rfl, ?vy10⟩) (by assumption) ?vr10
  case vy10 => (intro w hSw; (try dsimp only at hSw); go_simp; (try with_reducible rfl))
  simp only [Act.put, uA, uB, uC]
  refine take_at (i := 8) (v := ?vv11) rfl (by kernel_rfl) (by kernel_rfl) (by kernel_rfl) (fun _ _ _ h => h) (Or.inl ⟨by rfl, ?vy11⟩) (by assumption) ?vr11
  case vy11 => (intro w hSw; (try dsimp only at hSw); go_simp; (try with_reducible rfl))
  simp only [Act.put, uA, uB, uC]
  refine wpAnyH_done (by kernel_rfl) ?_ _
  go_wp2_with fail
  go_ret
  exact ⟨by rw [HE.out]; rfl, B1.out.trans (Bv9.out.mono B1.out.size)⟩
set_option maxHeartbeats 8000000 in
theorem read_two (s : ByteArray) {p q : Int} (hs : s.size ≤ 402) (hT : TabZ w) (hM : MaxL w) (t1 : txtOk (Lib.cut s.data.toList [47]).1 = some p) (t2 : txtOk (Lib.cut s.data.toList [47]).2.1 = some q) (z1 : (Lib.cut s.data.toList [47]).1.length ≤ 402) (z2 : (Lib.cut s.data.toList [47]).2.1.length ≤ 402)
    (hx : x.num = p ∧ (x.den : Int) = q) :
    Calls Tryz.prog 27 #[.string s] w (OkR w 67 x) := by
  obtain ⟨W, hW⟩ : ∃ W, W = w.alloc (.cells #[.int .i64 0, .slice none 0 0, .int .i64 0, .slice none 0 0] 26) := ⟨_, rfl⟩
  have HB : Hid (Below w.heap.size w W) := by show Below _ _ _; rw [hW]; exact bal (Below.refl _ _)
  have K : Hid (Blk W w.heap.size 26 #[.int .i64 0, .slice none 0 0, .int .i64 0, .slice none 0 0]) := by show Blk _ _ _ _; rw [hW]; exact Blk.new _ _ _
  obtain ⟨m, hm⟩ := hM.on HB.out hM.pos
  have C := Lib.hid (Tryz.strings_Cut s ⟨#[47]⟩ m W (by omega) hm)
  rw [show (⟨#[47]⟩ : ByteArray).data.toList = [47] from rfl] at C
  obtain ⟨T1, hT1⟩ : ∃ T : ByteArray, T = ⟨(Lib.cut s.data.toList [47]).1.toArray⟩ := ⟨_, rfl⟩
  obtain ⟨T2, hT2⟩ : ∃ T : ByteArray, T = ⟨(Lib.cut s.data.toList [47]).2.1.toArray⟩ := ⟨_, rfl⟩
  obtain ⟨found, hfd⟩ : ∃ b : Bool, b = (Lib.cut s.data.toList [47]).2.2 := ⟨_, rfl⟩
  rw [← hT1, ← hT2, ← hfd] at C
  have R1 := Lib.hid (fun w => read_F T1 p w (by rw [hT1]; simpa [ByteArray.size] using z1) (by rw [hT1]; simpa using t1))
  have R2 := Lib.hid (fun w => read_F T2 q w (by rw [hT2]; simpa [ByteArray.size] using z2) (by rw [hT2]; simpa using t2))
  have HT := Lib.hid hT

  clear hT hM t1 t2 z1 z2 hT1 hT2 hfd hm hs
  go_enter Tryz.func27, Tryz.ntmps27
  go_wp2_with fail
  rw [← hW]
  clear hW
  refine C.out.mono ?_
  rintro e w1 ⟨rfl, d, rfl⟩
  have B1 : Hid (Below w.heap.size w (W.drewN d)) := below_drewN HB.out d
  have K1 : Hid (Blk (W.drewN d) w.heap.size 26 #[.int .i64 0, .slice none 0 0, .int .i64 0, .slice none 0 0]) := K.out.drewN d
  obtain ⟨w1, hw1⟩ : ∃ w1, w1 = W.drewN d := ⟨_, rfl⟩
  rw [← hw1] at B1 K1 ⊢
  have hlt1 := Lib.hid K1.out.lt
  clear hw1 C K HB
  go_wp2_with fail
  refine (R1.out _).mono ?_
  rintro e w2 ⟨s1, A1, n1, c1, rfl, hc1, hg1, hf1, hb⟩
  have B2 := Lib.hid (B1.out.trans (hb.mono B1.out.size))
  have K2 := Lib.hid (K1.out.below hb K1.out.lt)
  have G1 := Lib.hid (hg1.al (o := .cells #[.int .i64 s1, .slice A1 n1 c1] 24))
  have F1 : Hid (Fresh w1 A1 n1) := hf1
  have C1 := Lib.hid hc1
  have X2 := Lib.hid hb.size
  obtain ⟨w3, hw3⟩ : ∃ w3, w3 = w2.alloc (.cells #[.int .i64 s1, .slice A1 n1 c1] 24) := ⟨_, rfl⟩
  obtain ⟨b7, hb7⟩ : ∃ b, b = w2.heap.size := ⟨_, rfl⟩
  have X3 := Lib.hid (bal (Below.refl w2.heap.size w2) (o := .cells #[.int .i64 s1, .slice A1 n1 c1] 24))
  have J3 := Lib.hid (Blk.new w2 24 #[.int .i64 s1, .slice A1 n1 c1])
  rw [← hw3] at X3 J3 G1
  rw [← hb7] at J3
  have B3 := Lib.hid (B2.out.trans (X3.out.mono B2.out.size))
  have K3 := Lib.hid (K2.out.below X3.out K2.out.lt)
  clear hc1 hg1 hf1 hb R1 B2 K2
  go_upto_region 3 with (fail)
  rw [← hw3, ← hb7]
  have X3s := Lib.hid X3.out.size
  clear hw3 hb7 X3
  go_wp2_with fail
  refine (R2.out _).mono ?_
  rintro e w4 ⟨s2, A2, n2, c2, rfl, hc2, hg2, hf2, hb⟩
  have B4 := Lib.hid (B3.out.trans (hb.mono B3.out.size))
  have K4 := Lib.hid (K3.out.below hb K3.out.lt)
  have J4 := Lib.hid (J3.out.below hb J3.out.lt)
  have G14 := Lib.hid ((G1.out.past hb).al (o := .cells #[.int .i64 s2, .slice A2 n2 c2] 24))
  have G24 := Lib.hid (hg2.al (o := .cells #[.int .i64 s2, .slice A2 n2 c2] 24))
  have F2 : Hid (Fresh w3 A2 n2) := hf2
  have C2 := Lib.hid hc2
  obtain ⟨w5, hw5⟩ : ∃ w5, w5 = w4.alloc (.cells #[.int .i64 s2, .slice A2 n2 c2] 24) := ⟨_, rfl⟩
  obtain ⟨b9, hb9⟩ : ∃ b, b = w4.heap.size := ⟨_, rfl⟩
  have X5 := Lib.hid (bal (Below.refl w4.heap.size w4) (o := .cells #[.int .i64 s2, .slice A2 n2 c2] 24))
  have J5 := Lib.hid (Blk.new w4 24 #[.int .i64 s2, .slice A2 n2 c2])
  rw [← hw5] at X5 J5 G14 G24
  rw [← hb9] at J5
  have B5 := Lib.hid (B4.out.trans (X5.out.mono B4.out.size))
  have K5 := Lib.hid (K4.out.below X5.out K4.out.lt)
  have I5 := Lib.hid (J4.out.below X5.out J4.out.lt)
  clear hc2 hg2 hf2 hb R2 B4 K4 J4 J3 G1
  go_upto_region 4 with (fail)
  rw [← hw5, ← hb9]
  clear hw5 hb9 X5
  obtain ⟨i0, i1, -, -⟩ := sm_cells I5.out
  obtain ⟨j0, j1, -, -⟩ := sm_cells J5.out
  go_upto_region 5 with (fail)
  obtain ⟨w6, hw6⟩ : ∃ w6, w6 = w5.alloc (.cells #[.int .i64 s1, .slice A1 n1 c1, .int .i64 s2, .slice A2 n2 c2] 26) := ⟨_, rfl⟩
  obtain ⟨b11, hb11⟩ : ∃ b, b = w5.heap.size := ⟨_, rfl⟩
  have X6 := Lib.hid (bal (Below.refl w5.heap.size w5) (o := .cells #[.int .i64 s1, .slice A1 n1 c1, .int .i64 s2, .slice A2 n2 c2] 26))
  have J6 := Lib.hid (Blk.new w5 26 #[.int .i64 s1, .slice A1 n1 c1, .int .i64 s2, .slice A2 n2 c2])
  rw [← hw6] at X6 J6
  rw [← hb11] at J6
  have B6 := Lib.hid (B5.out.trans (X6.out.mono B5.out.size))
  have K6 := Lib.hid (K5.out.below X6.out K5.out.lt)
  have G16 := Lib.hid (G14.out.past X6.out)
  have G26 := Lib.hid (G24.out.past X6.out)
  rw [← hw6, ← hb11]
  clear hw6 hb11 i0 i1 j0 j1 I5 J5 G14 G24 X6 K5
  go_wp2_with fail
  refine (OrE_any _ 0 0 _ _ _ (two_newE w6 0 0)).mono ?_
  rintro e w_ ⟨rfl, rfl⟩
  obtain ⟨w7, hw7⟩ : ∃ w7, w7 = w6.alloc (.cells #[.int .i64 0, .int .i64 0] 32) := ⟨_, rfl⟩
  have X7 := Lib.hid (bal (Below.refl w6.heap.size w6) (o := .cells #[.int .i64 0, .int .i64 0] 32))
  rw [← hw7] at X7 ⊢
  have B7 := Lib.hid (B6.out.trans (X7.out.mono B6.out.size))
  have K7 := Lib.hid (K6.out.below X7.out K6.out.lt)
  have J7 := Lib.hid (J6.out.below X7.out J6.out.lt)
  have G17 := Lib.hid (G16.out.past X7.out)
  have G27 := Lib.hid (G26.out.past X7.out)
  clear hw7 B6 K6 J6 G16 G26 X7
  obtain ⟨j0, j1, j2, j3, -, -, -, -⟩ := fr_cells J7.out
  have HR := Lib.hid (right_T (k := 67) (x := x) ⟨s1, A1, n1, c1, s2, A2, n2, c2⟩ ⟨by rw [hx.1]; exact G17.out, by rw [hx.2]; exact G27.out⟩ (HT.out.on B7.out) (by decide))
  dsimp only [frV] at HR
  go_wp2_with fail
  refine HR.out.mono ?_
  rintro e w8 ⟨rfl, hb⟩
  have B8 := Lib.hid (B7.out.trans (hb.mono B7.out.size))
  have K8 := Lib.hid (K7.out.below hb K7.out.lt)
  have X2' := X2.out
  have hfr1 : Hid (Fresh w1 A1 n1) := F1.out
  have hfr2 : Hid (Fresh w1 A2 n2) := fun hp ad e => Nat.le_trans (Nat.le_trans X2.out X3s.out) (F2.out hp ad e)
  have J8 := Lib.hid (J7.out.below hb J7.out.lt)
  clear j0 j1 j2 j3
  obtain ⟨j0, j1, j2, j3, -, -, -, -⟩ := fr_cells J8.out
  obtain ⟨kr0, kr1, kr2, kr3, q0, q1, q2, q3⟩ := fr_cells K8.out
  obtain ⟨wf, hwf, r0, r1, r2, r3, kE⟩ := fr_end K8.out (Nat.le_refl _) hlt1.out B8.out (G17.out.past hb) (G27.out.past hb) hfr1.out hfr2.out C1.out C2.out ⟨hx.1, hx.2⟩
  have HE := Lib.hid kE.ok
  clear kE hb X2' HR hx
  go_wp2_with fail
  rw [← hwf]
  clear hwf
  exact bodyPost_ret (v := .tuple #[.agg #[.int .i64 s1, .slice A1 n1 c1, .int .i64 s2, .slice A2 n2 c2], .int .i64 0]) (by simp [results, Tryz.results27, go_sem, r0, r1, r2, r3]) rfl HE.out
set_option maxHeartbeats 8000000 in
theorem read_not (s : ByteArray) {p q : Int} (hs : s.size ≤ 402) (hT : TabZ w) (hM : MaxL w) (t1 : txtOk (Lib.cut s.data.toList [47]).1 = some p) (t2 : txtOk (Lib.cut s.data.toList [47]).2.1 = some q) (z1 : (Lib.cut s.data.toList [47]).1.length ≤ 402) (z2 : (Lib.cut s.data.toList [47]).2.1.length ≤ 402)
    (hx : ¬ (0 < q ∧ Int.gcd p q = 1)) :
    Calls Tryz.prog 27 #[.string s] w (fun e w' => e = .returned (.tuple #[.agg #[.int .i64 0, .slice none 0 0, .int .i64 0, .slice none 0 0], .int .i64 2]) ∧ Below w.heap.size w w') := by
  obtain ⟨W, hW⟩ : ∃ W, W = w.alloc (.cells #[.int .i64 0, .slice none 0 0, .int .i64 0, .slice none 0 0] 26) := ⟨_, rfl⟩
  have HB : Hid (Below w.heap.size w W) := by show Below _ _ _; rw [hW]; exact bal (Below.refl _ _)
  have K : Hid (Blk W w.heap.size 26 #[.int .i64 0, .slice none 0 0, .int .i64 0, .slice none 0 0]) := by show Blk _ _ _ _; rw [hW]; exact Blk.new _ _ _
  obtain ⟨m, hm⟩ := hM.on HB.out hM.pos
  have C := Lib.hid (Tryz.strings_Cut s ⟨#[47]⟩ m W (by omega) hm)
  rw [show (⟨#[47]⟩ : ByteArray).data.toList = [47] from rfl] at C
  obtain ⟨T1, hT1⟩ : ∃ T : ByteArray, T = ⟨(Lib.cut s.data.toList [47]).1.toArray⟩ := ⟨_, rfl⟩
  obtain ⟨T2, hT2⟩ : ∃ T : ByteArray, T = ⟨(Lib.cut s.data.toList [47]).2.1.toArray⟩ := ⟨_, rfl⟩
  obtain ⟨found, hfd⟩ : ∃ b : Bool, b = (Lib.cut s.data.toList [47]).2.2 := ⟨_, rfl⟩
  rw [← hT1, ← hT2, ← hfd] at C
  have R1 := Lib.hid (fun w => read_F T1 p w (by rw [hT1]; simpa [ByteArray.size] using z1) (by rw [hT1]; simpa using t1))
  have R2 := Lib.hid (fun w => read_F T2 q w (by rw [hT2]; simpa [ByteArray.size] using z2) (by rw [hT2]; simpa using t2))
  have HT := Lib.hid hT

  clear hT hM t1 t2 z1 z2 hT1 hT2 hfd hm hs
  go_enter Tryz.func27, Tryz.ntmps27
  go_wp2_with fail
  rw [← hW]
  clear hW
  refine C.out.mono ?_
  rintro e w1 ⟨rfl, d, rfl⟩
  have B1 : Hid (Below w.heap.size w (W.drewN d)) := below_drewN HB.out d
  have K1 : Hid (Blk (W.drewN d) w.heap.size 26 #[.int .i64 0, .slice none 0 0, .int .i64 0, .slice none 0 0]) := K.out.drewN d
  obtain ⟨w1, hw1⟩ : ∃ w1, w1 = W.drewN d := ⟨_, rfl⟩
  rw [← hw1] at B1 K1 ⊢
  have hlt1 := Lib.hid K1.out.lt
  clear hw1 C K HB
  go_wp2_with fail
  refine (R1.out _).mono ?_
  rintro e w2 ⟨s1, A1, n1, c1, rfl, hc1, hg1, hf1, hb⟩
  have B2 := Lib.hid (B1.out.trans (hb.mono B1.out.size))
  have K2 := Lib.hid (K1.out.below hb K1.out.lt)
  have G1 := Lib.hid (hg1.al (o := .cells #[.int .i64 s1, .slice A1 n1 c1] 24))
  have F1 : Hid (Fresh w1 A1 n1) := hf1
  have C1 := Lib.hid hc1
  have X2 := Lib.hid hb.size
  obtain ⟨w3, hw3⟩ : ∃ w3, w3 = w2.alloc (.cells #[.int .i64 s1, .slice A1 n1 c1] 24) := ⟨_, rfl⟩
  obtain ⟨b7, hb7⟩ : ∃ b, b = w2.heap.size := ⟨_, rfl⟩
  have X3 := Lib.hid (bal (Below.refl w2.heap.size w2) (o := .cells #[.int .i64 s1, .slice A1 n1 c1] 24))
  have J3 := Lib.hid (Blk.new w2 24 #[.int .i64 s1, .slice A1 n1 c1])
  rw [← hw3] at X3 J3 G1
  rw [← hb7] at J3
  have B3 := Lib.hid (B2.out.trans (X3.out.mono B2.out.size))
  have K3 := Lib.hid (K2.out.below X3.out K2.out.lt)
  clear hc1 hg1 hf1 hb R1 B2 K2
  go_upto_region 3 with (fail)
  rw [← hw3, ← hb7]
  have X3s := Lib.hid X3.out.size
  clear hw3 hb7 X3
  go_wp2_with fail
  refine (R2.out _).mono ?_
  rintro e w4 ⟨s2, A2, n2, c2, rfl, hc2, hg2, hf2, hb⟩
  have B4 := Lib.hid (B3.out.trans (hb.mono B3.out.size))
  have K4 := Lib.hid (K3.out.below hb K3.out.lt)
  have J4 := Lib.hid (J3.out.below hb J3.out.lt)
  have G14 := Lib.hid ((G1.out.past hb).al (o := .cells #[.int .i64 s2, .slice A2 n2 c2] 24))
  have G24 := Lib.hid (hg2.al (o := .cells #[.int .i64 s2, .slice A2 n2 c2] 24))
  have F2 : Hid (Fresh w3 A2 n2) := hf2
  have C2 := Lib.hid hc2
  obtain ⟨w5, hw5⟩ : ∃ w5, w5 = w4.alloc (.cells #[.int .i64 s2, .slice A2 n2 c2] 24) := ⟨_, rfl⟩
  obtain ⟨b9, hb9⟩ : ∃ b, b = w4.heap.size := ⟨_, rfl⟩
  have X5 := Lib.hid (bal (Below.refl w4.heap.size w4) (o := .cells #[.int .i64 s2, .slice A2 n2 c2] 24))
  have J5 := Lib.hid (Blk.new w4 24 #[.int .i64 s2, .slice A2 n2 c2])
  rw [← hw5] at X5 J5 G14 G24
  rw [← hb9] at J5
  have B5 := Lib.hid (B4.out.trans (X5.out.mono B4.out.size))
  have K5 := Lib.hid (K4.out.below X5.out K4.out.lt)
  have I5 := Lib.hid (J4.out.below X5.out J4.out.lt)
  clear hc2 hg2 hf2 hb R2 B4 K4 J4 J3 G1
  go_upto_region 4 with (fail)
  rw [← hw5, ← hb9]
  clear hw5 hb9 X5
  obtain ⟨i0, i1, -, -⟩ := sm_cells I5.out
  obtain ⟨j0, j1, -, -⟩ := sm_cells J5.out
  go_upto_region 5 with (fail)
  obtain ⟨w6, hw6⟩ : ∃ w6, w6 = w5.alloc (.cells #[.int .i64 s1, .slice A1 n1 c1, .int .i64 s2, .slice A2 n2 c2] 26) := ⟨_, rfl⟩
  obtain ⟨b11, hb11⟩ : ∃ b, b = w5.heap.size := ⟨_, rfl⟩
  have X6 := Lib.hid (bal (Below.refl w5.heap.size w5) (o := .cells #[.int .i64 s1, .slice A1 n1 c1, .int .i64 s2, .slice A2 n2 c2] 26))
  have J6 := Lib.hid (Blk.new w5 26 #[.int .i64 s1, .slice A1 n1 c1, .int .i64 s2, .slice A2 n2 c2])
  rw [← hw6] at X6 J6
  rw [← hb11] at J6
  have B6 := Lib.hid (B5.out.trans (X6.out.mono B5.out.size))
  have K6 := Lib.hid (K5.out.below X6.out K5.out.lt)
  have G16 := Lib.hid (G14.out.past X6.out)
  have G26 := Lib.hid (G24.out.past X6.out)
  rw [← hw6, ← hb11]
  clear hw6 hb11 i0 i1 j0 j1 I5 J5 G14 G24 X6 K5
  go_wp2_with fail
  refine (OrE_any _ 0 0 _ _ _ (two_newE w6 0 0)).mono ?_
  rintro e w_ ⟨rfl, rfl⟩
  obtain ⟨w7, hw7⟩ : ∃ w7, w7 = w6.alloc (.cells #[.int .i64 0, .int .i64 0] 32) := ⟨_, rfl⟩
  have X7 := Lib.hid (bal (Below.refl w6.heap.size w6) (o := .cells #[.int .i64 0, .int .i64 0] 32))
  rw [← hw7] at X7 ⊢
  have B7 := Lib.hid (B6.out.trans (X7.out.mono B6.out.size))
  have K7 := Lib.hid (K6.out.below X7.out K6.out.lt)
  have J7 := Lib.hid (J6.out.below X7.out J6.out.lt)
  have G17 := Lib.hid (G16.out.past X7.out)
  have G27 := Lib.hid (G26.out.past X7.out)
  clear hw7 B6 K6 J6 G16 G26 X7
  obtain ⟨j0, j1, j2, j3, -, -, -, -⟩ := fr_cells J7.out
  have HR : Hid (Calls Tryz.prog 13 #[frV ⟨s1, A1, n1, c1, s2, A2, n2, c2⟩] w7 fun e w' => e = .returned (.bool false) ∧ Below w7.heap.size w7 w') := by
    show Calls _ _ _ _ _
    by_cases hs2 : s2 = 1
    · refine right_both ⟨s1, A1, n1, c1, s2, A2, n2, c2⟩ G17.out G27.out hs2 (HT.out.on B7.out) (by decide) (by decide) (decide_eq_false fun hg => hx ⟨?_, hg⟩)
      rcases G27.out.sign with ⟨-, h⟩ | ⟨h, -⟩ | ⟨h, -⟩ <;> omega
    · exact right_sign ⟨s1, A1, n1, c1, s2, A2, n2, c2⟩ hs2 w7
  dsimp only [frV] at HR
  go_wp2_with fail
  refine HR.out.mono ?_
  rintro e w8 ⟨rfl, hb⟩
  have B8 := Lib.hid (B7.out.trans (hb.mono B7.out.size))
  have K8 := Lib.hid (K7.out.below hb K7.out.lt)
  clear j0 j1 j2 j3 hb
  obtain ⟨kr0, kr1, kr2, kr3, q0, q1, q2, q3⟩ := fr_cells K8.out
  have K4 := (((K8.out.set_ 0 (.int .i64 0)).set_ 1 (.slice none 0 0)).set_ 2 (.int .i64 0)).set_ 3 (.slice none 0 0)
  obtain ⟨r0, r1, r2, r3, -, -, -, -⟩ := fr_cells (a := .int .i64 0) (b := .slice none 0 0) (c := .int .i64 0) (d := .slice none 0 0) (by simpa using K4)
  clear K4 HR
  go_wp2_with fail
  exact bodyPost_ret (v := .tuple #[.agg #[.int .i64 0, .slice none 0 0, .int .i64 0, .slice none 0 0], .int .i64 2]) (by simp [results, Tryz.results27, go_sem, r0, r1, r2, r3]) rfl ⟨rfl, below_set (below_set (below_set (below_set B8.out (Nat.le_refl _) _ _) (Nat.le_refl _) _ _) (Nat.le_refl _) _ _) (Nat.le_refl _) _ _⟩
end
end Go.Proofs.YtmkhoofeekollaaGreatDoor

/- Words on memory for the laws of frac; the walk of the law's right. Conditions: sizes; the table of math/bits as its text lays it. -/
namespace Go.Proofs.YtmkhoofeekollaaGreatDoor
set_option maxRecDepth 20000
open Go.RowKit

theorem Blk.set4 {w : World} {g : Nat} {t : TypeId} {o1 o2 o3 o4 : Value} (h : Blk w g t #[o1, o2, o3, o4]) {a b c d : Value} : Blk ((((w.setCell ⟨g, 0, none⟩ a).setCell ⟨g, 1, none⟩ b).setCell ⟨g, 2, none⟩ c).setCell ⟨g, 3, none⟩ d) g t #[a, b, c, d] := by
  have := (((h.set_ 0 a).set_ 1 b).set_ 2 c).set_ 3 d
  simpa using this
theorem Blk.far4 {w : World} {g g' : Nat} {t : TypeId} {cs : Array Value} (h : Blk w g t cs) (hne : g ≠ g') {a b c d : Value} : Blk ((((w.setCell ⟨g', 0, none⟩ a).setCell ⟨g', 1, none⟩ b).setCell ⟨g', 2, none⟩ c).setCell ⟨g', 3, none⟩ d) g t cs :=
  (((h.far (p := ⟨g', 0, none⟩) hne a).far (p := ⟨g', 1, none⟩) hne b).far (p := ⟨g', 2, none⟩) hne c).far (p := ⟨g', 3, none⟩) hne d
theorem Bg.far4 {w : World} {k g : Nat} {x s : Int} {A : Option Addr} {n : Nat} (h : Bg w k x s A n) (hne : 0 < n → ∀ ad, A = some ad → ad.block ≠ g) {a b c d : Value} : Bg ((((w.setCell ⟨g, 0, none⟩ a).setCell ⟨g, 1, none⟩ b).setCell ⟨g, 2, none⟩ c).setCell ⟨g, 3, none⟩ d) k x s A n :=
  h.apart (only_setCell (p := ⟨g, 3, none⟩) (only_setCell (p := ⟨g, 2, none⟩) (only_setCell (p := ⟨g, 1, none⟩) (only_setCell (p := ⟨g, 0, none⟩) (grown_refl w (some g)) (.inl rfl) a) (.inl rfl) b) (.inl rfl) c) (.inl rfl) d) hne
theorem below_4 {B g : Nat} {a w : World} (h : Below B a w) (hg : B ≤ g) {u v x y : Value} : Below B a ((((w.setCell ⟨g, 0, none⟩ u).setCell ⟨g, 1, none⟩ v).setCell ⟨g, 2, none⟩ x).setCell ⟨g, 3, none⟩ y) := below_set (below_set (below_set (below_set h hg _ _) hg _ _) hg _ _) hg _ _
/-- The digits of a fraction do not lie in this block. -/
def Off (r : FrR) (g : Nat) : Prop := (0 < r.n1 → ∀ ad, r.A1 = some ad → ad.block ≠ g) ∧ (0 < r.n2 → ∀ ad, r.A2 = some ad → ad.block ≠ g)
theorem Fg.far4 {w : World} {k g : Nat} {x : Rat} {r : FrR} (h : Fg w k x r) (hne : Off r g) {a b c d : Value} : Fg ((((w.setCell ⟨g, 0, none⟩ a).setCell ⟨g, 1, none⟩ b).setCell ⟨g, 2, none⟩ c).setCell ⟨g, 3, none⟩ d) k x r :=
  ⟨h.1.far4 hne.1, h.2.far4 hne.2⟩
theorem Fg.off_new {w : World} {k : Nat} {x : Rat} {r : FrR} (h : Fg w k x r) {g : Nat} (hg : w.heap.size ≤ g) : Off r g :=
  ⟨fun hp ad e => by have := h.1.lt hp e; omega, fun hp ad e => by have := h.2.lt hp e; omega⟩
theorem off_old {w : World} {r : FrR} (f1 : Fresh w r.A1 r.n1) (f2 : Fresh w r.A2 r.n2) {g : Nat} (hg : g < w.heap.size) : Off r g :=
  ⟨fun hp ad e => by have := f1 hp ad e; omega, fun hp ad e => by have := f2 hp ad e; omega⟩
theorem Fg.al {w : World} {k : Nat} {x : Rat} {r : FrR} (h : Fg w k x r) {o : Obj} : Fg (w.alloc o) k x r := ⟨h.1.al, h.2.al⟩
/-- The result's box of a fraction is filled with one that lay there before. -/
theorem fr_put {w w1 : World} {g : Nat} {t : TypeId} {o1 o2 o3 o4 : Value} (h : Blk w1 g t #[o1, o2, o3, o4]) (hg : w.heap.size ≤ g) (hb : Below w.heap.size w w1) (a b c d : Value) :
    ∃ wf, wf = (((w1.setCell ⟨g, 0, none⟩ a).setCell ⟨g, 1, none⟩ b).setCell ⟨g, 2, none⟩ c).setCell ⟨g, 3, none⟩ d ∧
      wf.cell? ⟨g, 0, none⟩ = some a ∧ wf.cell? ⟨g, 1, none⟩ = some b ∧ wf.cell? ⟨g, 2, none⟩ = some c ∧ wf.cell? ⟨g, 3, none⟩ = some d ∧ Below w.heap.size w wf := by
  have K := h.set4 (a := a) (b := b) (c := c) (d := d)
  exact ⟨_, rfl, K.cell 0, K.cell 1, K.cell 2, K.cell 3, below_4 hb hg⟩
section
variable {w : World} {k : Nat} {x y : Rat}
set_option maxHeartbeats 4000000 in
theorem right5_R (r : FrR) (h1 : Fg w k x r) (hT : TabZ w) (hk : k ≤ 1000000) :
    Calls Tryz.prog 14 #[frV r, .int .i64 0] w fun e w' => e = .returned (.tuple #[frV r, .bool true]) ∧ Below w.heap.size w w' := by
  have S := Lib.hid (UnoF.new w r)
  obtain ⟨W0, hW0⟩ : ∃ W0, W0 = ((w.alloc (.cells (frC r) 26)).alloc (.cells #[.int .i64 0, .slice none 0 0, .int .i64 0, .slice none 0 0] 26)) := ⟨_, rfl⟩
  rw [← hW0] at S
  have R1 := Lib.hid (fun W (hb : Below w.heap.size w W) => right_T r (h1.past hb) (hT.on hb) hk)
  clear h1 hT
  obtain ⟨s1, A1, n1, c1, s2, A2, n2, c2⟩ := r
  dsimp only [frV, frC] at *
  obtain ⟨ka0, ka1, ka2, ka3⟩ := S.out.cells
  dsimp only at ka0 ka1 ka2 ka3
  go_enter Tryz.func14, Tryz.ntmps14
  go_wp2_with fail
  rw [← hW0]
  clear hW0
  have D1 := Lib.hid (fun (W : World) (hb : Below W0.heap.size W0 W) => R1.out W (S.out.call hb).bl)
  have hres := S.out.k3.lt
  clear R1
  have HC := Lib.hid (fun (w' : World) (h : Below W0.heap.size W0 w') => (⟨(h.cell (p := ⟨w.heap.size, 0, none⟩) (World.block_lt_of_cell? _ _ ka0)).trans ka0, (h.cell (p := ⟨w.heap.size, 1, none⟩) (World.block_lt_of_cell? _ _ ka1)).trans ka1, (h.cell (p := ⟨w.heap.size, 2, none⟩) (World.block_lt_of_cell? _ _ ka2)).trans ka2, (h.cell (p := ⟨w.heap.size, 3, none⟩) (World.block_lt_of_cell? _ _ ka3)).trans ka3⟩ : w'.cell? ⟨w.heap.size, 0, none⟩ = some (.int .i64 s1) ∧ w'.cell? ⟨w.heap.size, 1, none⟩ = some (.slice A1 n1 c1) ∧ w'.cell? ⟨w.heap.size, 2, none⟩ = some (.int .i64 s2) ∧ w'.cell? ⟨w.heap.size, 3, none⟩ = some (.slice A2 n2 c2)))
  clear ka0 ka1 ka2 ka3
  have Bv0 := Lib.hid (Below.refl W0.heap.size W0).drew
  have Tv0 := Lib.hid (S.out.call (Below.refl W0.heap.size W0).drew)
  refine wp_region_held_drew (S := fun w' => w'.cell? ⟨w.heap.size, 0, none⟩ = some (.int .i64 s1) ∧ w'.cell? ⟨w.heap.size, 1, none⟩ = some (.slice A1 n1 c1) ∧ w'.cell? ⟨w.heap.size, 2, none⟩ = some (.int .i64 s2) ∧ w'.cell? ⟨w.heap.size, 3, none⟩ = some (.slice A2 n2 c2)) (by kernel_rfl) (HC.out _ Bv0.out) (fun hHeld => ?_)
  obtain ⟨vw0, hw⟩ : ∃ W, W = W0.drew := ⟨_, rfl⟩
  rw [← hw] at hHeld Bv0 Tv0 ⊢
  clear hw
  refine take_at (i := 0) (v := ?vv1) rfl (by kernel_rfl) (by kernel_rfl) (by kernel_rfl) (fun _ _ _ h => h) (Or.inl ⟨by rfl, ?vy1⟩) (by assumption) ?vr1
  case vy1 => (intro w hSw; (try dsimp only at hSw); obtain ⟨cc0, cc1, cc2, cc3⟩ := hSw; go_simp; (try with_reducible rfl))
  simp only [Act.put, uA, uB, uC]
  refine take_at (i := 1) (v := ?vv2) rfl (by kernel_rfl) (by kernel_rfl) (by kernel_rfl) (fun _ _ _ h => h) (Or.inl ⟨by rfl, ?vy2⟩) (by assumption) ?vr2
  case vy2 => (intro w hSw; (try dsimp only at hSw); go_simp; (try with_reducible rfl))
  simp only [Act.put, uA, uB, uC]
  refine take_at (i := 2) (v := ?vv3) rfl (by kernel_rfl) (by kernel_rfl) (by kernel_rfl) (fun _ _ _ h => h) (Or.inl ⟨by rfl, ?vy3⟩) (by assumption) ?vr3
  case vy3 => (intro w hSw; (try dsimp only at hSw); go_simp; (try with_reducible rfl))
  simp only [Act.put, uA, uB, uC]
  refine take_at (i := 3) (v := ?vv4) rfl (by kernel_rfl) (by kernel_rfl) (by kernel_rfl) (fun _ _ _ h => h) (Or.inl ⟨by rfl, ?vy4⟩) (by assumption) ?vr4
  case vy4 => (intro w hSw; (try dsimp only at hSw); go_simp; (try with_reducible rfl))
  simp only [Act.put, uA, uB, uC]
  refine take_at (i := 4) (v := ?vv5) rfl (by kernel_rfl) (by kernel_rfl) (by kernel_rfl) (fun _ _ _ h => h) (Or.inl ⟨by rfl, ?vy5⟩) (by assumption) ?vr5
  case vy5 => (intro w hSw; (try dsimp only at hSw); obtain ⟨cc0, cc1, cc2, cc3⟩ := hSw; go_simp; (try with_reducible rfl))
  simp only [Act.put, uA, uB, uC]
  refine wpAnyH_ready (rs := [5]) (by kernel_rfl) (by simp) ?_
  refine cons_at (i := 5) rfl (fun K hK => ?_) AllReadyH.nil
  go_simp
  refine (D1.out _ Bv0.out).mono ?_
  rintro e vw6 ⟨rfl, hb⟩
  try dsimp only
  have X6 := Lib.hid hb
  have Bv7 := Lib.hid (Bv0.out.trans (X6.out.mono Bv0.out.size))
  have Tv7 := Lib.hid (Tv0.out.call X6.out)
  refine hK.out _ _ ?_ (fun hHeld => ?_)
  · exact HC.out _ Bv7.out
  clear Bv0 Tv0 X6 hb
  clear hK K
  (try simp only [Act.put, uA, uB, uC])
  refine take_at (i := 6) (v := ?vv8) rfl (by kernel_rfl) (by kernel_rfl) (by kernel_rfl) (fun _ _ _ h => h) (Or.inl ⟨by rfl, ?vy8⟩) (by assumption) ?vr8
  case vy8 => (intro w hSw; (try dsimp only at hSw); go_simp; (try with_reducible rfl))
  simp only [Act.put, uA, uB, uC]
  refine wpAnyH_ready (rs := [7]) (by kernel_rfl) (by simp) ?_
  refine cons_at (i := 7) rfl (fun K hK => ?_) AllReadyH.nil
  obtain ⟨f0, f1, f2, f3, f4, f5, f6, f7⟩ := fr_cells Tv7.out.k3
  go_simp
  clear f0 f1 f2 f3 f4 f5 f6 f7
  obtain ⟨wf, hwf, r0, r1, r2, r3, kE⟩ := fr_put Tv7.out.k3 (by omega) Tv7.out.bl (.int .i64 s1) (.slice A1 n1 c1) (.int .i64 s2) (.slice A2 n2 c2)
  have HE := Lib.hid kE
  clear kE
  refine hK.out _ _ ?_ (fun hHeld => ?_)
  · obtain ⟨cc0, cc1, cc2, cc3⟩ := HC.out _ Bv7.out
    exact ⟨stc4 cc0 (by dsimp only; omega), stc4 cc1 (by dsimp only; omega), stc4 cc2 (by dsimp only; omega), stc4 cc3 (by dsimp only; omega)⟩
  clear hK K
  (try simp only [Act.put, uA, uB, uC])
  refine take_at (i := 8) (v := ?vv10) rfl (by kernel_rfl) (by kernel_rfl) (by kernel_rfl) (fun _ _ _ h => h) (Or.inl ⟨by rfl, ?vy10⟩) (by assumption) ?vr10
  case vy10 => (intro w hSw; (try dsimp only at hSw); go_simp; (try with_reducible rfl))
  simp only [Act.put, uA, uB, uC]
  refine wpAnyH_done (by kernel_rfl) ?_ _
  go_wp2_with fail
  rw [← hwf]
  clear hwf
  exact bodyPost_ret (v := .tuple #[.agg #[.int .i64 s1, .slice A1 n1 c1, .int .i64 s2, .slice A2 n2 c2], .bool true]) (by simp [results, Tryz.results14, go_sem, r0, r1, r2, r3]) rfl ⟨rfl, HE.out⟩
end
end Go.Proofs.YtmkhoofeekollaaGreatDoor
