/- The walks of big's sum, Add, Sub at right big integers. Conditions: lengths. -/
import Derived.Test.YtikfjmdeeknalaaGreatDoorBx
namespace Go.Proofs.YtikfjmdeeknalaaGreatDoor
set_option maxRecDepth 8000
open Go.RowKit

theorem Rep.low {s x : Int} {l : List Nat} (h : Rep s l x) (hl : l.length ≤ 3) : -1152921504606846976 < x ∧ x < 1152921504606846976 := by
  have h1 := dval_lt h.norm.1
  have h2 : 1048576 ^ l.length ≤ 1048576 ^ 3 := Nat.pow_le_pow_right (by decide) hl
  have h3 : (1048576 : Nat) ^ 3 = 1152921504606846976 := by rfl
  rw [h3] at h2
  rcases h.cases with ⟨-, -, a3, a4⟩ | ⟨-, -, a3, a4⟩ | ⟨-, -, a3⟩ <;> omega
set_option maxHeartbeats 4000000 in
theorem sum_few (s1 s2 : Int) (A1 A2 : Option Addr) (n1 n2 c1 c2 B1 B2 : Nat) (l1 l2 : List Nat) (x y : Int) (w : World) (h1 : Reads w B1 1 A1 n1 (dv l1)) (h2 : Reads w B2 1 A2 n2 (dv l2)) (r1 : Rep s1 l1 x) (r2 : Rep s2 l2 y) (hn1 : n1 ≤ 3) (hn2 : n2 ≤ 3) :
    Calls Tryz.prog 120 #[.agg #[.int .i64 s1, .slice A1 n1 c1], .agg #[.int .i64 s2, .slice A2 n2 c2]] w (BigEnd w (x + y)) := by
  have K := Lib.hid (Three.new w s1 A1 n1 c1 s2 A2 n2 c2)
  have H1 := Lib.hid (h1.past K.out.bl)
  have H2 := Lib.hid (h2.past K.out.bl)
  have R1 := Lib.hid r1
  have R2 := Lib.hid r2
  have b1 := r1.low (by rw [h1.lenD]; exact hn1)
  have b2 := r2.low (by rw [h2.lenD]; exact hn2)
  have e1 := r1.eq
  have e2 := r2.eq
  obtain ⟨D1, hD1⟩ : ∃ D : Int, ((dval l1 : Nat) : Int) = D := ⟨_, rfl⟩
  obtain ⟨D2, hD2⟩ : ∃ D : Int, ((dval l2 : Nat) : Int) = D := ⟨_, rfl⟩
  rw [hD1] at e1
  rw [hD2] at e2
  have w1 : IntKind.i64.wrap (s1 * D1) = x := by rw [← e1]; exact IntWalk.i64_in _ (by omega)
  have w2 : IntKind.i64.wrap (s2 * D2) = y := by rw [← e2]; exact IntWalk.i64_in _ (by omega)
  have w3 : IntKind.i64.wrap (x + y) = x + y := IntWalk.i64_in _ (by omega)
  have HB : Hid (-9223372036854775808 ≤ x + y ∧ x + y ≤ 9223372036854775807) := by constructor <;> omega
  have HJ1 : Hid (∀ wx, Reads wx B1 1 A1 n1 (dv l1) → Calls Tryz.prog 145 #[.slice A1 n1 c1] wx fun e w' => e = .returned (.int .i64 D1) ∧ wx = w') := fun wx h => by rw [← hD1]; exact join_any A1 n1 c1 B1 l1 wx h r1.norm.1 hn1
  have HJ2 : Hid (∀ wx, Reads wx B2 1 A2 n2 (dv l2) → Calls Tryz.prog 145 #[.slice A2 n2 c2] wx fun e w' => e = .returned (.int .i64 D2) ∧ wx = w') := fun wx h => by rw [← hD2]; exact join_any A2 n2 c2 B2 l2 wx h r2.norm.1 hn2
  have hc1 : (n1 : Int) ≤ 3 := by omega
  have hc2 : (n2 : Int) ≤ 3 := by omega
  obtain ⟨y0, y1, y2, y3, y4, y5, y6, y7⟩ := K.out.cells
  clear h1 h2 r1 r2 b1 b2 e1 e2 hD1 hD2
  go_enter Tryz.func120, Tryz.ntmps120
  go_wp2_with fail
  obtain ⟨w5, hw5⟩ : ∃ w5, w5 = (((w.alloc (.cells #[.int .i64 s1, .slice A1 n1 c1] 24)).alloc (.cells #[.int .i64 s2, .slice A2 n2 c2] 24)).alloc (.cells #[.int .i64 0, .slice none 0 0] 24)) := ⟨_, rfl⟩
  rw [← hw5] at K H1 H2 y0 y1 y2 y3 y4 y5 y6 y7 ⊢
  clear hw5
  go_region_held3 (fun w' => w'.cell? ⟨w.heap.size, 0, none⟩ = some (.int .i64 s1) ∧ w'.cell? ⟨w.heap.size, 1, none⟩ = some (.slice A1 n1 c1) ∧ w'.cell? ⟨w.heap.size + 1, 0, none⟩ = some (.int .i64 s2) ∧ w'.cell? ⟨w.heap.size + 1, 1, none⟩ = some (.slice A2 n2 c2))
    (first | exact ⟨y0, y1, y2, y3⟩ | exact ⟨z0, z1, z2, z3⟩ | exact K7.out.held _ _)
    (first | (go_at_call_of 145 (Value.slice A1 n1 c1); refine (HJ1.out _ (by exact H1.out)).mono ?_; rintro e w' ⟨rfl, rfl⟩) | (go_at_call_of 145 (Value.slice A2 n2 c2); refine (HJ2.out _ (by exact H2.out)).mono ?_; rintro e w' ⟨rfl, rfl⟩) | (go_at_call 39; refine (Of_any (x + y) _ HB.out.1 HB.out.2).mono ?_; rintro e w7 ⟨s', l, A', c', rfl, hc', hrep, hR, hF, hB⟩; have K7 := Lib.hid (K.out.drew.past hB); obtain ⟨z0, z1, z2, z3, z4, z5, z6, z7⟩ := K7.out.cells; have HC7 := Lib.hid hc'; have HREP := Lib.hid hrep; have HR := Lib.hid hR; have HF := Lib.hid hF; clear hc' hrep hR hB hF))
  all_goals
    have HE := Lib.hid (K7.out.stored (fun hp ad e => Nat.lt_of_lt_of_le K.out.lt (HF.out hp ad e)) HR.out HREP.out HC7.out)
    obtain ⟨e0, e1⟩ := two_cells K7.out.k3 (.int .i64 s') (.slice A' l.length c')
    go_wp2_with fail
    refine bodyPost_ret (v := .agg #[.int .i64 s', .slice A' l.length c']) (by simp [results, Tryz.results120, go_sem, e0, e1]) rfl ?_
    exact HE.out
theorem turn_sign {s1 s2 x y : Int} {l1 l2 : List Nat} (r1 : Rep s1 l1 x) (r2 : Rep s2 l2 y) (h : s1 * s2 < 0) {l : List Nat} : (s1 = 1 ∨ s1 = -1 ∨ l = []) ∧ (s2 = 1 ∨ s2 = -1 ∨ l = []) := by
  rcases r1.sign with ⟨e, -⟩ | ⟨e, -⟩ | ⟨e, -⟩
  · rcases r2.sign with ⟨f, -⟩ | ⟨f, -⟩ | ⟨f, -⟩
    · exact ⟨.inl e, .inl f⟩
    · exact ⟨.inl e, .inr (.inl f)⟩
    · rw [e, f] at h; simp at h
  · rcases r2.sign with ⟨f, -⟩ | ⟨f, -⟩ | ⟨f, -⟩
    · exact ⟨.inr (.inl e), .inl f⟩
    · exact ⟨.inr (.inl e), .inr (.inl f)⟩
    · rw [e, f] at h; simp at h
  · rw [e] at h; simp at h
theorem turn_two {s1 s2 x y : Int} {l1 l2 : List Nat} (r1 : Rep s1 l1 x) (r2 : Rep s2 l2 y) (h : s1 * s2 < 0) : (s1 = 1 ∧ s2 = -1 ∨ s1 = -1 ∧ s2 = 1) ∧ l1 ≠ [] ∧ l2 ≠ [] := by
  rcases r1.sign with ⟨e, a⟩ | ⟨e, a⟩ | ⟨e, a⟩
  · rcases r2.sign with ⟨f, b⟩ | ⟨f, b⟩ | ⟨f, b⟩
    · rw [e, f] at h; simp at h
    · exact ⟨.inl ⟨e, f⟩, a, b⟩
    · rw [e, f] at h; simp at h
  · rcases r2.sign with ⟨f, b⟩ | ⟨f, b⟩ | ⟨f, b⟩
    · exact ⟨.inr ⟨e, f⟩, a, b⟩
    · rw [e, f] at h; simp at h
    · rw [e, f] at h; simp at h
  · rw [e] at h; simp at h
theorem len_le {a b : List Nat} (ha : Norm a) (hb : Norm b) (h : dval b ≤ dval a) : b.length ≤ a.length := by
  rcases Nat.lt_or_ge a.length b.length with h1 | h1
  · have := dval_short ha.1 hb h1; omega
  · exact h1
theorem turn_ge {s1 s2 x y : Int} {l1 l2 : List Nat} (r1 : Rep s1 l1 x) (r2 : Rep s2 l2 y) (h : s1 * s2 < 0) (ho : dval l2 ≤ dval l1) : -1 ≤ s1 * s2 ∧ (∀ l : List Nat, dval l = dval l1 - dval l2 → s1 * (dval l : Int) = x + y) ∧ l2.length ≤ l1.length ∧ 0 < l1.length := by
  obtain ⟨h1, h2, h3⟩ := turn_two r1 r2 h
  have e1 := r1.eq
  have e2 := r2.eq
  refine ⟨?_, fun l hl => ?_, len_le r1.norm r2.norm ho, List.length_pos_iff.2 h2⟩
  · rcases h1 with ⟨e, f⟩ | ⟨e, f⟩ <;> (rw [e, f]; decide)
  · rw [e1, e2, hl]
    rcases h1 with ⟨e, f⟩ | ⟨e, f⟩ <;> (rw [e, f]; omega)
theorem turn_lt {s1 s2 x y : Int} {l1 l2 : List Nat} (r1 : Rep s1 l1 x) (r2 : Rep s2 l2 y) (h : s1 * s2 < 0) (ho : dval l1 < dval l2) : -1 ≤ s1 * s2 ∧ (∀ l : List Nat, dval l = dval l2 - dval l1 → s2 * (dval l : Int) = x + y) ∧ l1.length ≤ l2.length ∧ 0 < l2.length := by
  obtain ⟨h1, h2, h3⟩ := turn_two r1 r2 h
  have e1 := r1.eq
  have e2 := r2.eq
  refine ⟨?_, fun l hl => ?_, len_le r2.norm r1.norm (by omega), List.length_pos_iff.2 h3⟩
  · rcases h1 with ⟨e, f⟩ | ⟨e, f⟩ <;> (rw [e, f]; decide)
  · rw [e1, e2, hl]
    rcases h1 with ⟨e, f⟩ | ⟨e, f⟩ <;> (rw [e, f]; omega)
set_option maxHeartbeats 8000000 in
theorem sum_ge (s1 s2 : Int) (A1 A2 : Option Addr) (n1 n2 c1 c2 B1 B2 : Nat) (l1 l2 : List Nat) (x y : Int) (w : World) (h1 : Reads w B1 1 A1 n1 (dv l1)) (h2 : Reads w B2 1 A2 n2 (dv l2)) (r1 : Rep s1 l1 x) (r2 : Rep s2 l2 y) (hn1 : n1 ≤ 1048576) (hn2 : n2 ≤ 1048576) (hmany : 3 < n1 ∨ n1 ≤ 3 ∧ 3 < n2) (hneg : s1 * s2 < 0) (hord : dval l2 ≤ dval l1) :
    Calls Tryz.prog 120 #[.agg #[.int .i64 s1, .slice A1 n1 c1], .agg #[.int .i64 s2, .slice A2 n2 c2]] w (BigEnd w (x + y)) := by
  have K := Lib.hid (Three.new w s1 A1 n1 c1 s2 A2 n2 c2)
  have H1 := Lib.hid (h1.past K.out.bl)
  have H2 := Lib.hid (h2.past K.out.bl)
  have R1 := Lib.hid r1
  have R2 := Lib.hid r2
  have L1 := Lib.hid h1.lenD
  have L2 := Lib.hid h2.lenD
  obtain ⟨hp0, hx, hlen⟩ := turn_ge r1 r2 hneg hord
  rw [h1.lenD, h2.lenD] at hlen
  have hp1 : s1 * s2 ≤ 1 := by omega
  obtain ⟨r, hr⟩ : ∃ r, ordN (dval l1) (dval l2) = r := ⟨_, rfl⟩
  have hrs : 0 ≤ r := by rw [← hr]; unfold ordN; rw [if_neg (by omega)]; split <;> omega
  have HO := Lib.hid hr
  have HORD := Lib.hid hord
  have HX := Lib.hid hx
  have HLE := Lib.hid hlen.1
  have HPO := Lib.hid hlen.2
  have HS : Hid (∀ l : List Nat, (s1 = 1 ∨ s1 = -1 ∨ l = []) ∧ (s2 = 1 ∨ s2 = -1 ∨ l = [])) := fun l => turn_sign r1 r2 hneg
  obtain ⟨y0, y1, y2, y3, y4, y5, y6, y7⟩ := K.out.cells
  clear h1 h2 r1 r2 hr hord hx hlen
  rcases hmany with hm | ⟨hm, hm2⟩
  all_goals
    first | (have hc1 : ¬ (n1 : Int) ≤ 3 := by omega) | skip
    first | (have hc1 : (n1 : Int) ≤ 3 := by omega) | skip
    first | (have hc2 : ¬ (n2 : Int) ≤ 3 := by omega) | skip
    go_enter Tryz.func120, Tryz.ntmps120
    go_wp2_with fail
    obtain ⟨w5, hw5⟩ : ∃ w5, w5 = (((w.alloc (.cells #[.int .i64 s1, .slice A1 n1 c1] 24)).alloc (.cells #[.int .i64 s2, .slice A2 n2 c2] 24)).alloc (.cells #[.int .i64 0, .slice none 0 0] 24)) := ⟨_, rfl⟩
    rw [← hw5] at K H1 H2 y0 y1 y2 y3 y4 y5 y6 y7 ⊢
    clear hw5
    refine (compare_any A1 A2 n1 n2 c1 c2 _ _ l1 l2 w5 H1.out H2.out R1.out.norm R2.out.norm (by omega) (by omega) HO.out).mono ?_
    rintro e w6 ⟨rfl, hd⟩
    have K6 := Lib.hid (K.out.past hd.below)
    have H16 := Lib.hid (H1.out.past hd.below)
    have H26 := Lib.hid (H2.out.past hd.below)
    clear hd K H1 H2 y0 y1 y2 y3 y4 y5 y6 y7
    obtain ⟨y0, y1, y2, y3, y4, y5, y6, y7⟩ := K6.out.cells
    go_wp2_with fail
    go_region_held3 (fun w' => w'.cell? ⟨w.heap.size, 0, none⟩ = some (.int .i64 s1) ∧ w'.cell? ⟨w.heap.size, 1, none⟩ = some (.slice A1 n1 c1) ∧ w'.cell? ⟨w.heap.size + 1, 0, none⟩ = some (.int .i64 s2) ∧ w'.cell? ⟨w.heap.size + 1, 1, none⟩ = some (.slice A2 n2 c2))
      (first | exact ⟨y0, y1, y2, y3⟩ | exact ⟨x0, x1, x2, x3⟩ | exact ⟨z0, z1, z2, z3⟩ | exact K8.out.held _ _)
      (first | (go_at_call 130; refine (subtract_any A1 A2 n1 n2 c1 c2 _ _ l1 l2 _ (by exact H16.out) (by exact H26.out) R1.out.norm.1 R2.out.norm.1 HORD.out HLE.out HPO.out (by omega)).mono ?_; rintro e w7 ⟨l, hN, hV, A, c, rfl, hc, hR, hF, hB⟩; have K7 := Lib.hid (K6.out.drew.past hB); obtain ⟨x0, x1, x2, x3, -, -, -, -⟩ := K7.out.cells; have HN := Lib.hid hN; have HV := Lib.hid hV; have HC := Lib.hid hc; have HR := Lib.hid hR; have HF := Lib.hid hF; clear hN hV hc hR hF hB) | (go_at_call 125; refine (signed_any s1 A _ c _ l _ (by exact HR.out) HN.out (HS.out l).1 HC.out).mono ?_; rintro e w8 ⟨s', A', c', rfl, hc', hrep, hA, hB⟩; have K8 := Lib.hid (K7.out.past hB); obtain ⟨z0, z1, z2, z3, z4, z5, z6, z7⟩ := K8.out.cells; have HC7 := Lib.hid hc'; have HREP := Lib.hid hrep; have HA := Lib.hid hA; have HB7 := Lib.hid hB; clear hc' hrep hA hB))
    all_goals
      have hne : Hid (0 < l.length → ∀ ad, A' = some ad → w.heap.size + 1 + 1 < ad.block) := fun hp ad e => by
        obtain ⟨g, e2, hg, -⟩ := HF.out hp
        rw [HA.out hp, e2] at e
        cases e
        exact Nat.lt_of_lt_of_le K6.out.lt hg
      have hrd : Hid (Reads w8 w8.heap.size 1 A' l.length (dv l)) := ⟨HR.out.1, fun hp => by rw [HA.out hp]; exact ((HR.out.past HB7.out).here).2 hp⟩
      have hx := HX.out l HV.out
      have HE := Lib.hid (K8.out.stored hne.out hrd.out (hx ▸ HREP.out) HC7.out)
      obtain ⟨e0, e1⟩ := two_cells K8.out.k3 (.int .i64 s') (.slice A' l.length c')
      clear hx hne hrd
      go_wp2_with fail
      refine bodyPost_ret (v := .agg #[.int .i64 s', .slice A' l.length c']) (by simp [results, Tryz.results120, go_sem, e0, e1]) rfl ?_
      exact HE.out
set_option maxHeartbeats 8000000 in
theorem sum_lt (s1 s2 : Int) (A1 A2 : Option Addr) (n1 n2 c1 c2 B1 B2 : Nat) (l1 l2 : List Nat) (x y : Int) (w : World) (h1 : Reads w B1 1 A1 n1 (dv l1)) (h2 : Reads w B2 1 A2 n2 (dv l2)) (r1 : Rep s1 l1 x) (r2 : Rep s2 l2 y) (hn1 : n1 ≤ 1048576) (hn2 : n2 ≤ 1048576) (hmany : 3 < n1 ∨ n1 ≤ 3 ∧ 3 < n2) (hneg : s1 * s2 < 0) (hord : dval l1 < dval l2) :
    Calls Tryz.prog 120 #[.agg #[.int .i64 s1, .slice A1 n1 c1], .agg #[.int .i64 s2, .slice A2 n2 c2]] w (BigEnd w (x + y)) := by
  have K := Lib.hid (Three.new w s1 A1 n1 c1 s2 A2 n2 c2)
  have H1 := Lib.hid (h1.past K.out.bl)
  have H2 := Lib.hid (h2.past K.out.bl)
  have R1 := Lib.hid r1
  have R2 := Lib.hid r2
  have L1 := Lib.hid h1.lenD
  have L2 := Lib.hid h2.lenD
  obtain ⟨hp0, hx, hlen⟩ := turn_lt r1 r2 hneg hord
  rw [h1.lenD, h2.lenD] at hlen
  have hp1 : s1 * s2 ≤ 1 := by omega
  obtain ⟨r, hr⟩ : ∃ r, ordN (dval l1) (dval l2) = r := ⟨_, rfl⟩
  have hrs : r < 0 := by rw [← hr]; unfold ordN; rw [if_pos hord]; omega
  have HO := Lib.hid hr
  have HORD := Lib.hid hord
  have HX := Lib.hid hx
  have HLE := Lib.hid hlen.1
  have HPO := Lib.hid hlen.2
  have HS : Hid (∀ l : List Nat, (s1 = 1 ∨ s1 = -1 ∨ l = []) ∧ (s2 = 1 ∨ s2 = -1 ∨ l = [])) := fun l => turn_sign r1 r2 hneg
  obtain ⟨y0, y1, y2, y3, y4, y5, y6, y7⟩ := K.out.cells
  clear h1 h2 r1 r2 hr hord hx hlen
  rcases hmany with hm | ⟨hm, hm2⟩
  all_goals
    first | (have hc1 : ¬ (n1 : Int) ≤ 3 := by omega) | skip
    first | (have hc1 : (n1 : Int) ≤ 3 := by omega) | skip
    first | (have hc2 : ¬ (n2 : Int) ≤ 3 := by omega) | skip
    go_enter Tryz.func120, Tryz.ntmps120
    go_wp2_with fail
    obtain ⟨w5, hw5⟩ : ∃ w5, w5 = (((w.alloc (.cells #[.int .i64 s1, .slice A1 n1 c1] 24)).alloc (.cells #[.int .i64 s2, .slice A2 n2 c2] 24)).alloc (.cells #[.int .i64 0, .slice none 0 0] 24)) := ⟨_, rfl⟩
    rw [← hw5] at K H1 H2 y0 y1 y2 y3 y4 y5 y6 y7 ⊢
    clear hw5
    refine (compare_any A1 A2 n1 n2 c1 c2 _ _ l1 l2 w5 H1.out H2.out R1.out.norm R2.out.norm (by omega) (by omega) HO.out).mono ?_
    rintro e w6 ⟨rfl, hd⟩
    have K6 := Lib.hid (K.out.past hd.below)
    have H16 := Lib.hid (H1.out.past hd.below)
    have H26 := Lib.hid (H2.out.past hd.below)
    clear hd K H1 H2 y0 y1 y2 y3 y4 y5 y6 y7
    obtain ⟨y0, y1, y2, y3, y4, y5, y6, y7⟩ := K6.out.cells
    go_wp2_with fail
    go_region_held3 (fun w' => w'.cell? ⟨w.heap.size, 0, none⟩ = some (.int .i64 s1) ∧ w'.cell? ⟨w.heap.size, 1, none⟩ = some (.slice A1 n1 c1) ∧ w'.cell? ⟨w.heap.size + 1, 0, none⟩ = some (.int .i64 s2) ∧ w'.cell? ⟨w.heap.size + 1, 1, none⟩ = some (.slice A2 n2 c2))
      (first | exact ⟨y0, y1, y2, y3⟩ | exact ⟨x0, x1, x2, x3⟩ | exact ⟨z0, z1, z2, z3⟩ | exact K8.out.held _ _)
      (first | (go_at_call 130; refine (subtract_any A2 A1 n2 n1 c2 c1 _ _ l2 l1 _ (by exact H26.out) (by exact H16.out) R2.out.norm.1 R1.out.norm.1 (Nat.le_of_lt HORD.out) HLE.out HPO.out (by omega)).mono ?_; rintro e w7 ⟨l, hN, hV, A, c, rfl, hc, hR, hF, hB⟩; have K7 := Lib.hid (K6.out.drew.past hB); obtain ⟨x0, x1, x2, x3, -, -, -, -⟩ := K7.out.cells; have HN := Lib.hid hN; have HV := Lib.hid hV; have HC := Lib.hid hc; have HR := Lib.hid hR; have HF := Lib.hid hF; clear hN hV hc hR hF hB) | (go_at_call 125; refine (signed_any s2 A _ c _ l _ (by exact HR.out) HN.out (HS.out l).2 HC.out).mono ?_; rintro e w8 ⟨s', A', c', rfl, hc', hrep, hA, hB⟩; have K8 := Lib.hid (K7.out.past hB); obtain ⟨z0, z1, z2, z3, z4, z5, z6, z7⟩ := K8.out.cells; have HC7 := Lib.hid hc'; have HREP := Lib.hid hrep; have HA := Lib.hid hA; have HB7 := Lib.hid hB; clear hc' hrep hA hB))
    all_goals
      have hne : Hid (0 < l.length → ∀ ad, A' = some ad → w.heap.size + 1 + 1 < ad.block) := fun hp ad e => by
        obtain ⟨g, e2, hg, -⟩ := HF.out hp
        rw [HA.out hp, e2] at e
        cases e
        exact Nat.lt_of_lt_of_le K6.out.lt hg
      have hrd : Hid (Reads w8 w8.heap.size 1 A' l.length (dv l)) := ⟨HR.out.1, fun hp => by rw [HA.out hp]; exact ((HR.out.past HB7.out).here).2 hp⟩
      have hx := HX.out l HV.out
      have HE := Lib.hid (K8.out.stored hne.out hrd.out (hx ▸ HREP.out) HC7.out)
      obtain ⟨e0, e1⟩ := two_cells K8.out.k3 (.int .i64 s') (.slice A' l.length c')
      clear hx hne hrd
      go_wp2_with fail
      refine bodyPost_ret (v := .agg #[.int .i64 s', .slice A' l.length c']) (by simp [results, Tryz.results120, go_sem, e0, e1]) rfl ?_
      exact HE.out
end Go.Proofs.YtikfjmdeeknalaaGreatDoor

/- The walks of big's sum with like signs, of sum, Add and Sub at right big integers. Conditions: lengths. -/
namespace Go.Proofs.YtikfjmdeeknalaaGreatDoor
set_option maxRecDepth 8000
open Go.RowKit

/-- The first one that is not 0. -/
def orI (a b : Int) : Int := if a = 0 then b else a
set_option maxHeartbeats 2000000 in
theorem Or_any (A : Option Addr) (a b : Int) (c B : Nat) (w : World) (h : Reads w B 1 A 2 (iv [a, b])) :
    Calls Tryz.prog 195 #[.slice A 2 c] w fun e w' => e = .returned (.int .i64 (orI a b)) ∧ w = w' := by
  have HR := Lib.hid h
  clear h
  go_enter Tryz.func195, Tryz.ntmps195
  go_wp2_with fail
  go_loop [8] (fun i => ∃ k : Nat, k ≤ 2 ∧ i = .int .i64 k ∧ Hid (∀ j, j < k → [a, b][j]? = some 0)) (fun i => 2 - (RowKit.intOf i).toNat)
  case atStart => exact ⟨0, by omega, rfl, fun j hj => by omega⟩
  case round =>
    obtain ⟨k, hk, rfl, HZ⟩ := hrel
    by_cases hlt : k < 2
    · have hkc : (k : Int) < 2 := by omega
      obtain ⟨ad, u, rfl, hu, g1⟩ := HR.out.atI hlt
      have HU := Lib.hid hu
      clear hu
      by_cases hu0 : u = 0
      · subst hu0
        go_wp2_with fail
        go_round
        case rel => exact ⟨k + 1, by omega, by go_num, fun j hj => by
          by_cases e : j = k
          · subst e; exact HU.out
          · exact HZ.out j (by omega)⟩
        case measure => simp [RowKit.intOf]; omega
      · have hu1 : ¬ u = 0 := hu0
        have hres : Hid (orI a b = u) := by
          have h1 := HU.out
          have h2 := HZ.out
          show _ = _
          have hcs : k = 0 ∨ k = 1 := by omega
          rcases hcs with rfl | rfl
          · have : a = u := by simpa using h1
            subst this
            unfold orI
            rw [if_neg hu0]
          · have e1 : b = u := by simpa using h1
            have e2 : a = 0 := by have := h2 0 (by omega); simpa using this
            unfold orI
            rw [if_pos e2, e1]
        go_wp2_with fail
        go_ret
        exact ⟨by rw [hres.out]; rfl, rfl⟩
    · obtain rfl : k = 2 := by omega
      have hres : Hid (orI a b = 0) := by
        have h2 := HZ.out
        show _ = _
        have e1 : a = 0 := by have := h2 0 (by omega); simpa using this
        have e2 : b = 0 := by have := h2 1 (by omega); simpa using this
        unfold orI
        rw [if_pos e1, e2]
      clear HR
      go_wp2_with fail
      go_ret
      exact ⟨by rw [hres.out]; rfl, rfl⟩

theorem like_signs {s1 s2 x y : Int} {l1 l2 : List Nat} (r1 : Rep s1 l1 x) (r2 : Rep s2 l2 y) (h : 0 ≤ s1 * s2) : s1 * s2 ≤ 1 ∧ (∀ l : List Nat, dval l = dval l1 + dval l2 → orI s1 s2 * (dval l : Int) = x + y) ∧ (∀ l : List Nat, Norm l → dval l = dval l1 + dval l2 → orI s1 s2 = 1 ∨ orI s1 s2 = -1 ∨ l = []) := by
  have e1 := r1.eq
  have e2 := r2.eq
  rcases r1.sign with ⟨e, a⟩ | ⟨e, a⟩ | ⟨e, a⟩ <;> rcases r2.sign with ⟨f, b⟩ | ⟨f, b⟩ | ⟨f, b⟩ <;> subst e f <;> simp [orI] at h ⊢ <;> (try subst a) <;> (try subst b) <;> simp [dval] at e1 e2 ⊢
  all_goals first
    | (intro l hl; rw [hl, e1, e2]; omega)
    | (subst e1 e2; intro l hn hl; exact (dval_zero hn).1 hl)
    | (intro l hn hl; exact (dval_zero hn).1 hl)
    | (constructor; (intro l hl; omega); (intro l hn hl; exact (dval_zero hn).1 hl))
theorem two_new (w : World) (a b : Int) : Reads (w.alloc (.cells #[.int .i64 a, .int .i64 b] 3)) (w.heap.size + 1) 1 (some ⟨w.heap.size, 0, none⟩) 2 (iv [a, b]) := by
  have hk := Blk.new w 3 #[.int .i64 a, .int .i64 b]
  refine ⟨rfl, fun _ => ⟨_, rfl, Nat.lt_succ_self _, fun j u hj => ?_⟩⟩
  have hlt := (List.getElem?_eq_some_iff.1 hj).1
  have hcs : j = 0 ∨ j = 1 := by
    have : j < 2 := hlt
    omega
  rcases hcs with rfl | rfl
  · cases hj; exact (hk.cell 0).trans rfl
  · cases hj; exact (hk.cell 1).trans rfl
set_option maxHeartbeats 16000000 in
theorem sum_like (s1 s2 : Int) (A1 A2 : Option Addr) (n1 n2 c1 c2 B1 B2 : Nat) (l1 l2 : List Nat) (x y : Int) (w : World) (h1 : Reads w B1 1 A1 n1 (dv l1)) (h2 : Reads w B2 1 A2 n2 (dv l2)) (r1 : Rep s1 l1 x) (r2 : Rep s2 l2 y) (hn1 : n1 ≤ 1048576) (hn2 : n2 ≤ 1048576) (hmany : 3 < n1 ∨ n1 ≤ 3 ∧ 3 < n2) (hpos : 0 ≤ s1 * s2) :
    Calls Tryz.prog 120 #[.agg #[.int .i64 s1, .slice A1 n1 c1], .agg #[.int .i64 s2, .slice A2 n2 c2]] w (BigEnd w (x + y)) := by
  have K := Lib.hid (Three.new w s1 A1 n1 c1 s2 A2 n2 c2)
  have H1 := Lib.hid (h1.past K.out.bl)
  have H2 := Lib.hid (h2.past K.out.bl)
  have R1 := Lib.hid r1
  have R2 := Lib.hid r2
  obtain ⟨hp1, hx, hs⟩ := like_signs r1 r2 hpos
  have HX := Lib.hid hx
  have HS := Lib.hid hs
  obtain ⟨y0, y1, y2, y3, y4, y5, y6, y7⟩ := K.out.cells
  clear h1 h2 r1 r2 hx hs
  rcases hmany with hm | ⟨hm, hm2⟩
  all_goals
    first | (have hc1 : ¬ (n1 : Int) ≤ 3 := by omega) | skip
    first | (have hc1 : (n1 : Int) ≤ 3 := by omega) | skip
    first | (have hc2 : ¬ (n2 : Int) ≤ 3 := by omega) | skip
    go_enter Tryz.func120, Tryz.ntmps120
    go_wp2_with fail
    obtain ⟨w5, hw5⟩ : ∃ w5, w5 = (((w.alloc (.cells #[.int .i64 s1, .slice A1 n1 c1] 24)).alloc (.cells #[.int .i64 s2, .slice A2 n2 c2] 24)).alloc (.cells #[.int .i64 0, .slice none 0 0] 24)) := ⟨_, rfl⟩
    rw [← hw5] at K H1 H2 y0 y1 y2 y3 y4 y5 y6 y7 ⊢
    clear hw5
    have KA := Lib.hid (K.out.past (((Below.refl w5.heap.size w5).alloc (Nat.le_refl _) (.cells #[.int .i64 s1, .int .i64 s2] 3))))
    have RA := Lib.hid (two_new w5 s1 s2)
    have H1A := Lib.hid (H1.out.past (((Below.refl w5.heap.size w5).alloc (Nat.le_refl _) (.cells #[.int .i64 s1, .int .i64 s2] 3))))
    have H2A := Lib.hid (H2.out.past (((Below.refl w5.heap.size w5).alloc (Nat.le_refl _) (.cells #[.int .i64 s1, .int .i64 s2] 3))))
    obtain ⟨u0, u1, u2, u3, -, -, -, -⟩ := KA.out.cells
    go_region_held3 (fun w' => w'.cell? ⟨w.heap.size, 0, none⟩ = some (.int .i64 s1) ∧ w'.cell? ⟨w.heap.size, 1, none⟩ = some (.slice A1 n1 c1) ∧ w'.cell? ⟨w.heap.size + 1, 0, none⟩ = some (.int .i64 s2) ∧ w'.cell? ⟨w.heap.size + 1, 1, none⟩ = some (.slice A2 n2 c2))
      (first | exact ⟨y0, y1, y2, y3⟩ | exact ⟨u0, u1, u2, u3⟩ | exact ⟨x0, x1, x2, x3⟩ | exact ⟨v0, v1, v2, v3⟩ | exact ⟨z0, z1, z2, z3⟩ | exact K8.out.held _ _)
      (first
        | (go_at_call 129; refine (add_any A1 A2 n1 n2 c1 c2 _ _ l1 l2 _ H1.out.drew H2.out.drew R1.out.norm.1 R2.out.norm.1 (by omega) (by omega)).mono ?_; rintro e w7 ⟨l, hN, hV, A, c, rfl, hc, hR, hF, hB⟩; have K7 := Lib.hid (K.out.drew.past hB); have RB := True.intro; have K7A := Lib.hid (K7.out.past (((Below.refl w7.heap.size w7).alloc (Nat.le_refl _) (.cells #[.int .i64 s1, .int .i64 s2] 3)))); obtain ⟨x0, x1, x2, x3, -, -, -, -⟩ := K7.out.cells; obtain ⟨v0, v1, v2, v3, -, -, -, -⟩ := K7A.out.cells; have HN := Lib.hid hN; have HV := Lib.hid hV; have HC := Lib.hid hc; have HR := Lib.hid hR; have HRA := Lib.hid (hR.past (((Below.refl w7.heap.size w7).alloc (Nat.le_refl _) (.cells #[.int .i64 s1, .int .i64 s2] 3)))); have HF : Hid (0 < l.length → ∃ g, A = some ⟨g, 0, none⟩ ∧ w.heap.size + 1 + 1 < g) := (fun hp => (hF hp).elim fun g hg => ⟨g, hg.1, Nat.lt_of_lt_of_le K.out.lt hg.2.1⟩); clear hN hV hc hR hF hB)
        | (go_at_call 129; refine (add_any A1 A2 n1 n2 c1 c2 _ _ l1 l2 _ H1A.out.drew H2A.out.drew R1.out.norm.1 R2.out.norm.1 (by omega) (by omega)).mono ?_; rintro e w7 ⟨l, hN, hV, A, c, rfl, hc, hR, hF, hB⟩; have K7 := Lib.hid (KA.out.drew.past hB); have RB := Lib.hid (RA.out.drew.past hB); have K7A := Lib.hid (K7.out.past (((Below.refl w7.heap.size w7).alloc (Nat.le_refl _) (.cells #[.int .i64 s1, .int .i64 s2] 3)))); obtain ⟨x0, x1, x2, x3, -, -, -, -⟩ := K7.out.cells; obtain ⟨v0, v1, v2, v3, -, -, -, -⟩ := K7A.out.cells; have HN := Lib.hid hN; have HV := Lib.hid hV; have HC := Lib.hid hc; have HR := Lib.hid hR; have HRA := Lib.hid (hR.past (((Below.refl w7.heap.size w7).alloc (Nat.le_refl _) (.cells #[.int .i64 s1, .int .i64 s2] 3)))); have HF : Hid (0 < l.length → ∃ g, A = some ⟨g, 0, none⟩ ∧ w.heap.size + 1 + 1 < g) := (fun hp => (hF hp).elim fun g hg => ⟨g, hg.1, Nat.lt_of_lt_of_le KA.out.lt hg.2.1⟩); clear hN hV hc hR hF hB)
        | (go_at_call 195; first | (refine (Or_any _ s1 s2 _ _ _ RA.out.drew).mono ?_; rintro e w' ⟨rfl, rfl⟩) | (refine (Or_any _ s1 s2 _ _ _ RB.out).mono ?_; rintro e w' ⟨rfl, rfl⟩) | (refine (Or_any _ s1 s2 _ _ _ (two_new w7 s1 s2)).mono ?_; rintro e w' ⟨rfl, rfl⟩))
        | (go_at_call 125; first | (refine (signed_any (orI s1 s2) A _ c _ l _ HR.out HN.out (HS.out l HN.out HV.out) HC.out).mono ?_; rintro e w8 ⟨s', A', c', rfl, hc', hrep, hA, hB⟩; have K8 := Lib.hid (K7.out.past hB); have HR8 := Lib.hid (HR.out.past hB); obtain ⟨z0, z1, z2, z3, z4, z5, z6, z7⟩ := K8.out.cells; have HC7 := Lib.hid hc'; have HREP := Lib.hid hrep; have HA := Lib.hid hA; clear hc' hrep hA hB) | (refine (signed_any (orI s1 s2) A _ c _ l _ HRA.out HN.out (HS.out l HN.out HV.out) HC.out).mono ?_; rintro e w8 ⟨s', A', c', rfl, hc', hrep, hA, hB⟩; have K8 := Lib.hid (K7A.out.past hB); have HR8 := Lib.hid (HRA.out.past hB); obtain ⟨z0, z1, z2, z3, z4, z5, z6, z7⟩ := K8.out.cells; have HC7 := Lib.hid hc'; have HREP := Lib.hid hrep; have HA := Lib.hid hA; clear hc' hrep hA hB)))
    all_goals
      have hne : Hid (0 < l.length → ∀ ad, A' = some ad → w.heap.size + 1 + 1 < ad.block) := fun hp ad e => by
        obtain ⟨g, e2, hg⟩ := HF.out hp
        rw [HA.out hp, e2] at e
        cases e
        exact hg
      have hrd : Hid (Reads w8 w8.heap.size 1 A' l.length (dv l)) := ⟨HR8.out.1, fun hp => by rw [HA.out hp]; exact HR8.out.here.2 hp⟩
      have hx := HX.out l HV.out
      have HE := Lib.hid (K8.out.stored hne.out hrd.out (hx ▸ HREP.out) HC7.out)
      obtain ⟨e0, e1⟩ := two_cells K8.out.k3 (.int .i64 s') (.slice A' l.length c')
      clear hx hne hrd
      go_wp2_with fail
      refine bodyPost_ret (v := .agg #[.int .i64 s', .slice A' l.length c']) (by simp [results, Tryz.results120, go_sem, e0, e1]) rfl ?_
      exact HE.out
theorem sum_any (s1 s2 : Int) (A1 A2 : Option Addr) (n1 n2 c1 c2 B1 B2 : Nat) (l1 l2 : List Nat) (x y : Int) (w : World) (h1 : Reads w B1 1 A1 n1 (dv l1)) (h2 : Reads w B2 1 A2 n2 (dv l2)) (r1 : Rep s1 l1 x) (r2 : Rep s2 l2 y) (hn1 : n1 ≤ 1048576) (hn2 : n2 ≤ 1048576) :
    Calls Tryz.prog 120 #[.agg #[.int .i64 s1, .slice A1 n1 c1], .agg #[.int .i64 s2, .slice A2 n2 c2]] w (BigEnd w (x + y)) := by
  by_cases hf : n1 ≤ 3 ∧ n2 ≤ 3
  · exact sum_few s1 s2 A1 A2 n1 n2 c1 c2 B1 B2 l1 l2 x y w h1 h2 r1 r2 hf.1 hf.2
  · have hm : 3 < n1 ∨ n1 ≤ 3 ∧ 3 < n2 := by omega
    by_cases hp : 0 ≤ s1 * s2
    · exact sum_like s1 s2 A1 A2 n1 n2 c1 c2 B1 B2 l1 l2 x y w h1 h2 r1 r2 hn1 hn2 hm hp
    · by_cases ho : dval l2 ≤ dval l1
      · exact sum_ge s1 s2 A1 A2 n1 n2 c1 c2 B1 B2 l1 l2 x y w h1 h2 r1 r2 hn1 hn2 hm (by omega) ho
      · exact sum_lt s1 s2 A1 A2 n1 n2 c1 c2 B1 B2 l1 l2 x y w h1 h2 r1 r2 hn1 hn2 hm (by omega) (by omega)
end Go.Proofs.YtikfjmdeeknalaaGreatDoor

/- The walks of big's Add and Sub at right big integers. Conditions: lengths. -/
namespace Go.Proofs.YtikfjmdeeknalaaGreatDoor
set_option maxRecDepth 8000
open Go.RowKit

theorem Rep.neg {s x : Int} {l : List Nat} (h : Rep s l x) : Rep (-s) l (-x) := by
  refine ⟨h.norm, by rw [h.eq, Int.neg_mul], ?_⟩
  rcases h.sign with ⟨a, b⟩ | ⟨a, b⟩ | ⟨a, b⟩
  · exact .inr (.inl ⟨by omega, b⟩)
  · exact .inl ⟨by omega, b⟩
  · exact .inr (.inr ⟨by omega, b⟩)
set_option maxHeartbeats 4000000 in
theorem Add_any (s1 s2 : Int) (A1 A2 : Option Addr) (n1 n2 c1 c2 B1 B2 : Nat) (l1 l2 : List Nat) (x y : Int) (w : World) (h1 : Reads w B1 1 A1 n1 (dv l1)) (h2 : Reads w B2 1 A2 n2 (dv l2)) (r1 : Rep s1 l1 x) (r2 : Rep s2 l2 y) (hn1 : n1 ≤ 1048576) (hn2 : n2 ≤ 1048576) :
    Calls Tryz.prog 15 #[.agg #[.int .i64 s1, .slice A1 n1 c1], .agg #[.int .i64 s2, .slice A2 n2 c2]] w (BigOk w (x + y)) := by
  have H1 := Lib.hid h1
  have H2 := Lib.hid h2
  have R1 := Lib.hid r1
  have R2 := Lib.hid r2
  have K := Lib.hid (Three.new w s1 A1 n1 c1 s2 A2 n2 c2)
  have hs0 : -1 ≤ s2 ∧ s2 ≤ 1 := by rcases r2.sign with ⟨e, -⟩ | ⟨e, -⟩ | ⟨e, -⟩ <;> omega
  have hs1 := hs0.1
  have hs2 := hs0.2
  clear h1 h2 r1 r2 hs0
  go_enter Tryz.func15, Tryz.ntmps15
  go_wp2_with fail
  refine (right_rep R1.out A1 n1 c1 _ _ (H1.out.past (K.out.bl)) (by omega)).mono ?_
  rintro e w4 ⟨rfl, b4⟩
  have K4 := Lib.hid (K.out.past b4)
  obtain ⟨y0, y1, y2, y3, y4, y5, y6, y7⟩ := K4.out.cells
  clear b4 K
  go_wp2_with fail
  refine (right_rep R2.out A2 n2 c2 _ _ (H2.out.past (K4.out.bl)) (by omega)).mono ?_
  rintro e w5 ⟨rfl, b5⟩
  have K5 := Lib.hid (K4.out.past b5)
  clear y0 y1 y2 y3 y4 y5 y6 y7
  obtain ⟨y0, y1, y2, y3, y4, y5, y6, y7⟩ := K5.out.cells
  clear b5 K4
  go_wp2_with fail
  refine (sum_any s1 s2 A1 A2 n1 n2 c1 c2 _ _ l1 l2 x y w5 (H1.out.past (K5.out.bl)) (H2.out.past (K5.out.bl)) R1.out R2.out hn1 hn2).mono ?_
  rintro e w7 ⟨s', l, A', c', rfl, hc', hrep, hR, hF, hB⟩
  have K7 := Lib.hid (K5.out.past hB)
  clear y0 y1 y2 y3 y4 y5 y6 y7
  obtain ⟨z0, z1, z2, z3, z4, z5, z6, z7⟩ := K7.out.cells
  have HE := Lib.hid (K7.out.stored (fun hp ad e => Nat.lt_of_lt_of_le K5.out.lt (hF hp ad e)) hR hrep hc').ok
  clear hc' hrep hR hF hB
  go_wp2_with fail
  obtain ⟨e0, e1⟩ := two_cells K7.out.k3 (.int .i64 s') (.slice A' l.length c')
  refine bodyPost_ret (v := .tuple #[.agg #[.int .i64 s', .slice A' l.length c'], .int .i64 0]) (by simp [results, Tryz.results15, go_sem, e0, e1]) rfl ?_
  exact HE.out
set_option maxHeartbeats 4000000 in
theorem Sub_any (s1 s2 : Int) (A1 A2 : Option Addr) (n1 n2 c1 c2 B1 B2 : Nat) (l1 l2 : List Nat) (x y : Int) (w : World) (h1 : Reads w B1 1 A1 n1 (dv l1)) (h2 : Reads w B2 1 A2 n2 (dv l2)) (r1 : Rep s1 l1 x) (r2 : Rep s2 l2 y) (hn1 : n1 ≤ 1048576) (hn2 : n2 ≤ 1048576) :
    Calls Tryz.prog 17 #[.agg #[.int .i64 s1, .slice A1 n1 c1], .agg #[.int .i64 s2, .slice A2 n2 c2]] w (BigOk w (x - y)) := by
  have H1 := Lib.hid h1
  have H2 := Lib.hid h2
  have R1 := Lib.hid r1
  have R2 := Lib.hid r2
  have K := Lib.hid (Three.new w s1 A1 n1 c1 s2 A2 n2 c2)
  have hs0 : -1 ≤ s2 ∧ s2 ≤ 1 := by rcases r2.sign with ⟨e, -⟩ | ⟨e, -⟩ | ⟨e, -⟩ <;> omega
  have hs1 := hs0.1
  have hs2 := hs0.2
  clear h1 h2 r1 r2 hs0
  go_enter Tryz.func17, Tryz.ntmps17
  go_wp2_with fail
  refine (right_rep R1.out A1 n1 c1 _ _ (H1.out.past (K.out.bl)) (by omega)).mono ?_
  rintro e w4 ⟨rfl, b4⟩
  have K4 := Lib.hid (K.out.past b4)
  obtain ⟨y0, y1, y2, y3, y4, y5, y6, y7⟩ := K4.out.cells
  clear b4 K
  go_wp2_with fail
  refine (right_rep R2.out A2 n2 c2 _ _ (H2.out.past (K4.out.bl)) (by omega)).mono ?_
  rintro e w5 ⟨rfl, b5⟩
  have K5 := Lib.hid (K4.out.past b5)
  clear y0 y1 y2 y3 y4 y5 y6 y7
  obtain ⟨y0, y1, y2, y3, y4, y5, y6, y7⟩ := K5.out.cells
  clear b5 K4
  go_wp2_with fail
  refine (sum_any s1 (-s2) A1 A2 n1 n2 c1 c2 _ _ l1 l2 x (-y) w5 (H1.out.past (K5.out.bl)) (H2.out.past (K5.out.bl)) R1.out R2.out.neg hn1 hn2).mono ?_
  rintro e w7 ⟨s', l, A', c', rfl, hc', hrep, hR, hF, hB⟩
  have K7 := Lib.hid (K5.out.past hB)
  clear y0 y1 y2 y3 y4 y5 y6 y7
  obtain ⟨z0, z1, z2, z3, z4, z5, z6, z7⟩ := K7.out.cells
  have HE := Lib.hid (K7.out.stored (fun hp ad e => Nat.lt_of_lt_of_le K5.out.lt (hF hp ad e)) hR hrep hc').ok
  clear hc' hrep hR hF hB
  go_wp2_with fail
  obtain ⟨e0, e1⟩ := two_cells K7.out.k3 (.int .i64 s') (.slice A' l.length c')
  refine bodyPost_ret (v := .tuple #[.agg #[.int .i64 s', .slice A' l.length c'], .int .i64 0]) (by simp [results, Tryz.results17, go_sem, e0, e1]) rfl ?_
  exact HE.out
end Go.Proofs.YtikfjmdeeknalaaGreatDoor
