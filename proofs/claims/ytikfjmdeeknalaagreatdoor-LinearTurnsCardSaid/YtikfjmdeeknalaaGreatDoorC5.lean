/- The walks of big's divide at few digits. Conditions: lengths. -/
import Derived.Test.YtikfjmdeeknalaaGreatDoorC4
namespace Go.Proofs.YtikfjmdeeknalaaGreatDoor
set_option maxRecDepth 8000
open Go.RowKit

/-- How a division of digits ends. -/
def QrEnd (w : World) (q r : Nat) (e : Ending) (w' : World) : Prop :=
  ∃ lq lr A c A2 c2, e = .returned (.tuple #[.slice A lq.length c, .slice A2 lr.length c2]) ∧ Norm lq ∧ Norm lr ∧ dval lq = q ∧ dval lr = r ∧ lq.length ≤ c ∧ lr.length ≤ c2 ∧ Reads w' w'.heap.size 1 A lq.length (dv lq) ∧ Reads w' w'.heap.size 1 A2 lr.length (dv lr) ∧
    (0 < lq.length → ∀ ad, A = some ad → w.heap.size ≤ ad.block) ∧ (0 < lr.length → ∃ g, A2 = some ⟨g, 0, none⟩ ∧ w.heap.size ≤ g ∧ Dig w' g lr) ∧ Below w.heap.size w w'
theorem ordN_neg {a b : Nat} (h : a < b) : ordN a b = -1 := by unfold ordN; rw [if_pos h]
theorem ordN_nonneg {a b : Nat} (h : b ≤ a) : 0 ≤ ordN a b := by unfold ordN; rw [if_neg (by omega)]; split <;> omega
set_option maxHeartbeats 4000000 in
theorem divide_less (A1 A2 : Option Addr) (n1 n2 c1 c2 B1 B2 : Nat) (a b : List Nat) (w : World) (h1 : Reads w B1 1 A1 n1 (dv a)) (h2 : Reads w B2 1 A2 n2 (dv b)) (k1 : Norm a) (k2 : Norm b) (hlt : dval a < dval b) (hn1 : n1 ≤ 1048576) (hn2 : n2 ≤ 1048576) :
    Calls Tryz.prog 128 #[.slice A1 n1 c1, .slice A2 n2 c2] w (QrEnd w (dval a / dval b) (dval a % dval b)) := by
  have H1 := Lib.hid h1.here
  have H2 := Lib.hid h2
  have K1 := Lib.hid k1
  have K2 := Lib.hid k2
  have HO := Lib.hid (ordN_neg hlt)
  have HQ := Lib.hid (Nat.div_eq_of_lt hlt)
  have HM := Lib.hid (Nat.mod_eq_of_lt hlt)
  clear h1 h2 k1 k2 hlt
  go_enter Tryz.func128, Tryz.ntmps128
  go_wp2_with fail
  refine (compare_any A1 A2 n1 n2 c1 c2 _ _ a b w H1.out H2.out K1.out K2.out (by omega) (by omega) HO.out).mono ?_
  rintro e w6 ⟨rfl, hd⟩
  have HB := Lib.hid hd.below
  have H16 := Lib.hid (H1.out.past hd.below)
  clear hd
  go_wp2_with fail
  refine (cloneD_any A1 n1 c1 _ a w6 H16.out (by omega)).mono ?_
  rintro e w7 ⟨A, c, rfl, hc, hR, hF, hB⟩
  have hfin : QrEnd w (dval a / dval b) (dval a % dval b) (.returned (.tuple #[.slice none 0 0, .slice A a.length c])) w7 :=
    ⟨[], a, none, 0, A, c, rfl, Norm.nil, K1.out, HQ.out.symm, HM.out.symm, Nat.le_refl _, hc, Reads.none_, hR, fun hp => absurd hp (by simp), fun hp => by
      obtain ⟨g, e', hg, hd⟩ := hF hp
      exact ⟨g, e', Nat.le_trans HB.out.size hg, hd⟩, HB.out.trans (hB.mono HB.out.size)⟩
  have HE := Lib.hid hfin
  clear hfin hc hR hF hB
  go_wp2_with fail
  go_ret2
  exact HE.out
set_option maxHeartbeats 8000000 in
theorem divide_few (A1 A2 : Option Addr) (n1 n2 c1 c2 B1 B2 : Nat) (a b : List Nat) (w : World) (h1 : Reads w B1 1 A1 n1 (dv a)) (h2 : Reads w B2 1 A2 n2 (dv b)) (k1 : Norm a) (k2 : Norm b) (hle : dval b ≤ dval a) (hb0 : 0 < dval b) (hn1 : n1 ≤ 3) :
    Calls Tryz.prog 128 #[.slice A1 n1 c1, .slice A2 n2 c2] w (QrEnd w (dval a / dval b) (dval a % dval b)) := by
  have hn2 : n2 ≤ 3 := by have := len_le k1 k2 hle; rw [h1.lenD, h2.lenD] at this; omega
  have H1 := Lib.hid h1.here
  have H2 := Lib.hid h2.here
  have K1 := Lib.hid k1
  have K2 := Lib.hid k2
  obtain ⟨r, hr⟩ : ∃ r, ordN (dval a) (dval b) = r := ⟨_, rfl⟩
  have hr0 : 0 ≤ r := by rw [← hr]; exact ordN_nonneg hle
  have HO := Lib.hid hr
  have ha : dval a < 1152921504606846976 := by
    have e1 := dval_lt k1.1
    rw [h1.lenD] at e1
    have e2 : 1048576 ^ n1 ≤ 1048576 ^ 3 := Nat.pow_le_pow_right (by decide) hn1
    have e3 : (1048576 : Nat) ^ 3 = 1152921504606846976 := by rfl
    omega
  have hq := Nat.div_le_self (dval a) (dval b)
  have hm := Nat.mod_le (dval a) (dval b)
  have HSQ := Lib.hid (fun wx => split_any (dval a / dval b) wx (by omega))
  have HSR := Lib.hid (fun wx => split_any (dval a % dval b) wx (by omega))
  have HNQ := Lib.hid (digN_norm (m := dval a / dval b) (by omega))
  have HNR := Lib.hid (digN_norm (m := dval a % dval b) (by omega))
  have HJ1 : Hid (∀ wx, Reads wx w.heap.size 1 A1 n1 (dv a) → Calls Tryz.prog 145 #[.slice A1 n1 c1] wx fun e w' => e = .returned (.int .i64 (dval a : Nat)) ∧ wx = w') := fun wx h => join_any A1 n1 c1 _ a wx h k1.1 hn1
  have HJ2 : Hid (∀ wx, Reads wx w.heap.size 1 A2 n2 (dv b) → Calls Tryz.prog 145 #[.slice A2 n2 c2] wx fun e w' => e = .returned (.int .i64 (dval b : Nat)) ∧ wx = w') := fun wx h => join_any A2 n2 c2 _ b wx h k2.1 hn2
  generalize hQ : digN (dval a / dval b) (digits (dval a / dval b)) = lq at HSQ HNQ
  generalize hRR : digN (dval a % dval b) (digits (dval a % dval b)) = lr at HSR HNR
  obtain ⟨X, hX⟩ : ∃ X : Int, ((dval a : Nat) : Int) = X := ⟨_, rfl⟩
  obtain ⟨Y, hY⟩ : ∃ Y : Int, ((dval b : Nat) : Int) = Y := ⟨_, rfl⟩
  have eq1 : ((dval a / dval b : Nat) : Int) = X / Y := by rw [← hX, ← hY]; rfl
  have eq2 : ((dval a % dval b : Nat) : Int) = X % Y := by rw [← hX, ← hY]; rfl
  have hX0 : 0 ≤ X := by omega
  have hX1 : X < 1152921504606846976 := by omega
  have hY0 : 0 < Y := by omega
  have hYz : ¬ Y = 0 := by omega
  have hq0 : 0 ≤ X / Y := by rw [← eq1]; exact Int.natCast_nonneg _
  have hq1 : X / Y < 1152921504606846976 := by rw [← eq1]; omega
  have hm0 : 0 ≤ X % Y := by rw [← eq2]; exact Int.natCast_nonneg _
  have hm1 : X % Y < 1152921504606846976 := by rw [← eq2]; omega
  rw [hX] at HJ1
  rw [hY] at HJ2
  rw [eq1] at HSQ
  rw [eq2] at HSR
  have hc1 : (n1 : Int) ≤ 3 := by omega
  clear h1 h2 k1 k2 hr hq hm ha hle hb0 hQ hRR hX hY eq1 eq2
  go_enter Tryz.func128, Tryz.ntmps128
  go_wp2_with fail
  refine (compare_any A1 A2 n1 n2 c1 c2 _ _ a b w H1.out H2.out K1.out K2.out (by omega) (by omega) HO.out).mono ?_
  rintro e w6 ⟨rfl, hd⟩
  have HB := Lib.hid hd.below
  have H16 := Lib.hid (H1.out.past hd.below)
  have H26 := Lib.hid (H2.out.past hd.below)
  clear hd
  go_wp2_with fail
  refine (HJ1.out _ H16.out).mono ?_
  rintro e w' ⟨rfl, rfl⟩
  go_wp2_with fail
  refine (HJ2.out _ H26.out).mono ?_
  rintro e w' ⟨rfl, rfl⟩
  have d1 : IntKind.i64.wrap (X.tdiv Y) = X / Y := by rw [Int.tdiv_eq_ediv_of_nonneg hX0]; exact IntWalk.i64_in _ (by omega)
  have d2 : X.tmod Y = X % Y := Int.tmod_eq_emod_of_nonneg hX0
  have d3 : IntKind.u64.wrap (X / Y) = X / Y := wraps_u64 _ hq0 (by omega)
  have d4 : IntKind.u64.wrap (X % Y) = X % Y := wraps_u64 _ hm0 (by omega)
  go_wp2_with fail
  go_region_held3 (fun _ => True) (exact trivial)
    (first | (go_at_call_of 148 (Value.int .u64 (X / Y)); refine (HSQ.out _).mono ?_; rintro e w7 ⟨A, c, rfl, hc, hR, hF, hB⟩; have HC := Lib.hid hc; have HR := Lib.hid hR; have HF := Lib.hid hF; have HB7 := Lib.hid hB; clear hc hR hF hB) | (go_at_call_of 148 (Value.int .u64 (X % Y)); refine (HSR.out _).mono ?_; rintro e w8 ⟨A', c', rfl, hc, hR, hF, hB⟩; have HC' := Lib.hid hc; have HR' := Lib.hid hR; have HF' := Lib.hid hF; have HB8 := Lib.hid hB; clear hc hR hF hB))
  all_goals
    have HE := Lib.hid (show QrEnd w (dval a / dval b) (dval a % dval b) (.returned (.tuple #[.slice A lq.length c, .slice A' lr.length c'])) w8 from
      ⟨lq, lr, A, c, A', c', rfl, HNQ.out.1, HNR.out.1, HNQ.out.2, HNR.out.2, HC.out, HC'.out, (HR.out.past HB8.out).here, HR'.out, fun hp ad e => by
        obtain ⟨g, e', hg, -⟩ := HF.out hp
        rw [e'] at e
        cases e
        exact Nat.le_trans HB.out.size hg, fun hp => by
        obtain ⟨g, e', hg, hd⟩ := HF'.out hp
        exact ⟨g, e', Nat.le_trans (Nat.le_trans HB.out.size HB7.out.size) hg, hd⟩, (HB.out.drew.trans (HB7.out.mono HB.out.size)).trans (HB8.out.mono (Nat.le_trans HB.out.size HB7.out.size))⟩)
    go_wp2_with fail
    go_ret2
    exact HE.out
end Go.Proofs.YtikfjmdeeknalaaGreatDoor
