/- The walks of calendar's functions: each by its plain value. Conditions: the array 'before' is there as its text lays it. -/
import Derived.Test.YtmaapbifkimdcaaDoorRows
import Derived.Test.YtmaapbifkimdcaaDoorKp
import Derived.WalkKit
import Derived.LoopTactic
import Derived.WalkLawsBesides
import Derived.WalkSpells
import Derived.Deep.QuietTactic
import Derived.BigQuiet
import Derived.IntWalk
import Derived.Lib.Hide
import Derived.Below
namespace Go.Proofs.YtmaapbifkimdcaaDoor
set_option maxRecDepth 8000
open Go.RowKit

/-- The array 'before', as its text lays it. -/
def BefT (w : World) : Prop := (∀ k, k < 12 → w.cell? ⟨0, k, none⟩ = some (.int .i64 ((befP k : Nat) : Int))) ∧ 0 < w.heap.size
theorem BefT.on {w w' : World} (h : BefT w) (hb : Below w.heap.size w w') : BefT w' :=
  ⟨fun k hk => (hb.cell (p := ⟨0, k, none⟩) h.2).trans (h.1 k hk), Nat.lt_of_lt_of_le h.2 hb.size⟩
/-- The world has drawn alone. -/
def Drew (w w' : World) : Prop := ∃ q, w' = w.drewN q
theorem Drew.same {w : World} : Drew w w := ⟨0, rfl⟩
theorem Drew.below {w w' : World} (h : Drew w w') : Below w.heap.size w w' := by
  obtain ⟨q, rfl⟩ := h
  exact ⟨rfl, rfl, rfl, Nat.le_refl _, fun _ _ => rfl⟩
/-- How a function that returns one int, and draws alone, ends. -/
def IntD (n : Int) (w : World) (e : Ending) (w' : World) : Prop := e = .returned (.int .i64 n) ∧ Drew w w'
theorem ret_int {k : IntKind} {a b : Int} (h : a = b) : Ending.returned (.int k a) = .returned (.int k b) := by rw [h]

theorem isDay_yes (d : Int) (w : World) (h1 : 0 ≤ d) (h2 : d ≤ 100000) :
    Calls Tryd.prog 20 #[.int .i64 d] w fun e w' => e = .returned (.bool true) ∧ w = w' := by
  go_enter Tryd.func20, Tryd.ntmps20
  go_wp2
  go_ret
  exact ⟨rfl, rfl⟩
theorem isDay_no (d : Int) (w : World) (h : d < 0 ∨ 100000 < d) :
    Calls Tryd.prog 20 #[.int .i64 d] w fun e w' => e = .returned (.bool false) ∧ w = w' := by
  rcases h with h | h
  · go_enter Tryd.func20, Tryd.ntmps20
    go_wp2
    go_ret
    exact ⟨rfl, rfl⟩
  · have h1 : 0 ≤ d := by omega
    have h2 : decide (d ≤ 100000) = false := by simp; omega
    go_enter Tryd.func20, Tryd.ntmps20
    go_wp2
    go_ret
    exact ⟨rfl, rfl⟩
theorem leapDays_any (n : Nat) (hn : n < 4000) (w : World) :
    Calls Tryd.prog 30 #[.int .i64 (n : Int)] w fun e w' => e = .returned (.int .i64 ((leapP n : Nat) : Int)) ∧ w = w' := by
  have h : ((leapP n : Nat) : Int) = ((n : Int) + 3) / 4 - ((n : Int) + 99) / 100 + ((n : Int) + 399) / 400 := by unfold leapP; omega
  have H := Lib.hid h
  clear h
  go_enter Tryd.func30, Tryd.ntmps30
  go_wp2
  go_ret
  exact ⟨ret_int H.out.symm, rfl⟩
theorem befP_le (m : Nat) : befP m ≤ 334 := by
  unfold befP
  by_cases h : m < 12
  · have : ∀ k : Fin 12, befL.getD k.1 0 ≤ 334 := by decide
    exact this ⟨m, h⟩
  · simp [befL, List.getD, List.getElem?_eq_none (l := [0, 31, 59, 90, 120, 151, 181, 212, 243, 273, 304, 334]) (i := m) (by simp; omega)]
theorem leapP_le {y : Nat} (h : y < 400) : leapP y ≤ 400 := by unfold leapP; omega
set_option maxHeartbeats 1000000 in
theorem start_any (n : Nat) (hn : n < 3700) (w : World) (hB : Hid (BefT w)) :
    Calls Tryd.prog 22 #[.int .i64 (n : Int)] w (IntD ((stP n : Nat) : Int) w) := by
  have hc := hB.out.1 (n % 12) (by omega)
  have hb := befP_le (n % 12)
  have hl := leapP_le (y := (n + 10) / 12) (by omega)
  have c1 := fun q => leapDays_any ((n + 10) / 12) (by omega) (w.drewN q)
  obtain ⟨B, hB2⟩ : ∃ B : Int, B = ((befP (n % 12) : Nat) : Int) := ⟨_, rfl⟩
  obtain ⟨L, hL2⟩ : ∃ L : Int, L = ((leapP ((n + 10) / 12) : Nat) : Int) := ⟨_, rfl⟩
  have H : Hid (((stP n : Nat) : Int) = (n : Int) / 12 * 365 + B + L) := by
    show _ = _
    rw [hB2, hL2]; unfold stP; omega
  have hb1 : 0 ≤ B ∧ B ≤ 334 := by omega
  have hl1 : 0 ≤ L ∧ L ≤ 400 := by omega
  rw [← hB2] at hc
  rw [← hL2, show (((n + 10) / 12 : Nat) : Int) = ((n : Int) + 10) / 12 by omega] at c1
  obtain ⟨hb2, hb3⟩ := hb1
  obtain ⟨hl2, hl3⟩ := hl1
  have C1 := Lib.hid c1
  clear hb hl hB2 hL2 c1
  have e1 : ((n : Int) % 12).toNat = n % 12 := by omega
  have e2 : 0 ≤ (n : Int) % 12 := by omega
  have e3 : (n : Int) % 12 < 12 := by omega
  have e4 : 0 ≤ (n : Int) / 12 := by omega
  have e5 : (n : Int) / 12 < 400 := by omega
  go_enter Tryd.func22, Tryd.ntmps22
  go_wp2
  have q1 : IntKind.i64.wrap ((n : Int) / 12) = (n : Int) / 12 := IntWalk.i64_in _ (by omega)
  have q2 : IntKind.i64.wrap ((n : Int) / 12 * 365) = (n : Int) / 12 * 365 := IntWalk.i64_in _ (by omega)
  have q3 : (n : Int).tmod 12 = (n : Int) % 12 := by rw [Int.tmod_eq_emod_of_nonneg (by omega)]
  have q4 : IntKind.i64.wrap ((n : Int) / 12 * 365 + B) = (n : Int) / 12 * 365 + B := IntWalk.i64_in _ (by omega)
  have q5 : IntKind.i64.wrap ((n : Int) / 12 * 365 + B + L) = (n : Int) / 12 * 365 + B + L := IntWalk.i64_in _ (by omega)
  go_quiet ((go_at_call 30; exact (C1.out _).mono fun _ _ h => ⟨h.1, _, h.2.symm⟩))
  go_wp2
  go_ret
  exact ⟨ret_int H.out.symm, _, rfl⟩
set_option maxHeartbeats 1000000 in
theorem size_any (n : Nat) (hn : n < 3600) (w : World) (hB : Hid (BefT w)) :
    Calls Tryd.prog 25 #[.int .i64 (n : Int)] w (IntD ((szP n : Nat) : Int) w) := by
  have hs := (steps_all (n := n) (by omega)).1
  have h2 := (steps_all (n := n) (by omega)).2.1
  have hu := stP_up (a := n) (b := 3600) (by omega) (by omega)
  have h3 : stP 3600 = 109573 := by decide +kernel
  obtain ⟨a, ha⟩ : ∃ a, a = stP n := ⟨_, rfl⟩
  obtain ⟨b, hb⟩ : ∃ b, b = stP (n + 1) := ⟨_, rfl⟩
  have c1 := start_any (n + 1) (by omega) w hB
  have c2 := fun w' (h : Drew w w') => start_any n (by omega) w' (Lib.hid (hB.out.on h.below))
  have H : Hid (((szP n : Nat) : Int) = (b : Int) - (a : Int)) := by
    show _ = _
    unfold szP; rw [← ha, ← hb]; omega
  rw [← hb] at c1
  rw [← ha] at c2
  have ha2 : a ≤ 109573 := by omega
  have hb2 : b ≤ 109673 := by omega
  have hab : a ≤ b := by omega
  have C1 := Lib.hid c1
  have C2 := Lib.hid c2
  have he : ((n + 1 : Nat) : Int) = (n : Int) + 1 := by omega
  rw [he] at C1
  clear hs h2 hu h3 ha hb c1 c2 he
  go_enter Tryd.func25, Tryd.ntmps25
  go_wp2_with fail
  refine C1.out.mono ?_
  rintro e w' ⟨rfl, q, rfl⟩
  go_wp2_with fail
  refine (C2.out _ ⟨_, rfl⟩).mono ?_
  rintro e w' ⟨rfl, q2, rfl⟩
  go_wp2_with fail
  go_ret
  exact ⟨ret_int H.out.symm, q + q2, rfl⟩
/-- The closure that the search asks: does the month end behind the day? -/
theorem ends_any (d i : Nat) (hi : i < 3600) (g : Nat) (w : World) (hB : Hid (BefT w)) (hc : w.cell? ⟨g, 0, none⟩ = some (.int .i64 (d : Int))) (v : Bool) (hv : Hid (decide (d < stP (i + 1)) = v)) :
    Calls Tryd.prog 29 #[.int .i64 (i : Int), .pointer (some ⟨g, 0, none⟩)] w fun e w' => e = .returned (.bool v) ∧ Drew w w' := by
  obtain ⟨b, hb⟩ : ∃ b, b = stP (i + 1) := ⟨_, rfl⟩
  have c1 := fun w' (h : Drew w w') => start_any (i + 1) (by omega) w' (Lib.hid (hB.out.on h.below))
  rw [← hb, show ((i + 1 : Nat) : Int) = (i : Int) + 1 by omega] at c1
  rw [← hb] at hv
  have C1 := Lib.hid c1
  clear c1 hb
  have e1 : IntKind.i64.wrap ((i : Int) + 1) = (i : Int) + 1 := IntWalk.i64_in _ (by omega)
  have E1 := Lib.hid e1
  clear e1
  have H : Hid (decide ((d : Int) < (b : Int)) = v) := by
    show _ = _
    rw [← hv.out]; simp
  clear hv
  go_enter Tryd.func29, Tryd.ntmps29
  go_wp2
  have e1 := E1.out
  go_quiet ((go_at_call 22; exact Calls.quiet_of (C1.out _ ⟨_, rfl⟩)))
  go_wp2
  go_ret
  exact ⟨congrArg (fun x => Ending.returned (Value.bool x)) (by have := H.out; simpa using this), _, rfl⟩
end Go.Proofs.YtmaapbifkimdcaaDoor
