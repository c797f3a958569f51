/- The walk of played. Conditions: what the slice reads as; the bounds of few. -/
import Derived.Test.YtnnakclmeihonaaPr
namespace Go.Proofs.Ytnnakclmeihonaa
open Go.RowKit Go.ChangeMaps

theorem AsIs.more {w : World} {B B' n : Nat} {A : Option Addr} {xs : List Ac} (h : AsIs w B A n xs) (hB : B ≤ B') : AsIs w B' A n xs := by
  refine ⟨h.1, fun hp => ?_⟩
  obtain ⟨ad, rfl, hlt, hx⟩ := h.2 hp
  refine ⟨ad, rfl, by omega, fun i hi => ?_⟩
  obtain ⟨v0, v1, v2, v3, v4, ⟨A1, c1, e0, e1, e2, e3, e4, hr⟩, g⟩ := hx i hi
  exact ⟨v0, v1, v2, v3, v4, ⟨A1, c1, e0, e1, e2, e3, e4, hr.more hB⟩, g⟩
theorem few_ok {xs : List Ac} (h : fewP xs = true) : xs.length ≤ 40 ∧ ∀ x ∈ xs, x.s.size ≤ 300 ∧ x.keep.length ≤ 60 := by
  unfold fewP at h
  rw [Bool.and_eq_true] at h
  refine ⟨by simpa using h.2, fun x hx => ?_⟩
  have := List.all_eq_true.1 h.1 x hx
  simp [Ac.okB] at this
  omega

set_option maxRecDepth 4000 in
set_option maxHeartbeats 2000000 in
theorem played_any (A : Option Addr) (n c : Nat) (xs : List Ac) (w : World) (h : AsIs w w.heap.size A n xs) (hf : ∀ x ∈ xs, x.Fits) (hw : fewP xs = true) :
    Calls Try.prog 22 #[.slice A n c] w (NewEnd w (play newD xs)) := by
  have HW := Lib.hid h
  have HF := Lib.hid hf
  have HO := Lib.hid (few_ok hw)
  have hn : n ≤ 40 := by rw [← h.1]; exact HO.out.1
  clear h hf hw
  go_enter Try.func22, Try.ntmps22
  go_wp2_with fail
  refine (x_new (Below.refl _ _)).mono ?_
  rintro e w1 ⟨b, o1, rfl, h1, -, -⟩
  have H1 := Lib.hid h1
  clear h1
  go_wp2_with fail
  go_loopw [4] (fun i wr => ∃ (k : Nat) (own : Nat → Option Nat), k ≤ n ∧ i = .int .i64 k ∧ Hid (Dx w wr own b (play newD (xs.take k)))) (fun i _ => n - (RowKit.intOf i).toNat)
  case atStart => exact ⟨0, o1, Nat.zero_le _, rfl, H1.out⟩
  case round =>
    clear H1
    obtain ⟨k, own, hk, rfl, HD⟩ := hrel
    by_cases hlt : k < n
    · obtain ⟨ad, x, rfl, _, hx, A1, c1, g0, g1, g2, g3, g4, hr⟩ := (HW.out.below HD.out.below).at_ hlt
      have hmem := List.mem_of_getElem? hx
      have HFX := Lib.hid (HF.out x hmem)
      obtain ⟨hs, hkp⟩ := HO.out.2 x hmem
      have HK : Hid (Nums wr own A1 x.keep.length x.keep) := ⟨hr.more HD.out.below.size, fun hp ad' e => by
        obtain ⟨ad2, e1, h2, _⟩ := hr.2 hp
        rw [e] at e1
        cases e1
        cases e2 : own ad'.block with
        | none => rfl
        | some r => have := HD.out.new _ _ e2; omega, by omega⟩
      have HS := Lib.hid (play_snoc (s := newD) hx)
      have hlt' : (k : Int) < (n : Int) := by omega
      have hk0 : 0 ≤ (k : Int) := by omega
      clear hx hmem hr
      go_wp2_with fail
      refine (do_any HD.out x A1 c1 HK.out HFX.out (by omega)).mono ?_
      rintro e w2 ⟨own2, rfl, h2, -⟩
      rw [← HS.out] at h2
      have H2 := Lib.hid h2
      clear h2 HD HK g0 g1 g2 g3 g4
      go_wp2_with fail
      go_roundw
      case rel => exact ⟨k + 1, own2, by omega, by go_num, H2⟩
      case measure => simp [RowKit.intOf]; omega
    · obtain rfl : k = n := by omega
      have hD := HD.out
      rw [List.take_of_length_le (by rw [HW.out.1]; exact Nat.le_refl _)] at hD
      have HE := Lib.hid hD
      clear hD HD
      go_wp2_with fail
      go_ret
      exact ⟨b, own, rfl, HE.out.da, HE.out.below, HE.out.new⟩

end Go.Proofs.Ytnnakclmeihonaa
