/- The walk of same: two disks that are alike. Conditions: both are down or none, and their files are alike. -/
import Derived.Test.YtdhknmnnmeamkaaRe
import Derived.Deep.QuietTactic
import Derived.BigQuiet
namespace Go.Proofs.Ytdhknmnnmeamkaa
open Go.RowKit Go.ChangeMaps

theorem Dx.drewN {W w : World} {own : Nat → Option Nat} {b : Nat} {s : Ds} (h : Dx W w own b s) : ∀ n, Dx W (w.drewN n) own b s := fun n =>
  ⟨h.da.far ⟨rfl, rfl, rfl, Nat.le_refl _, fun _ _ _ => rfl, fun _ _ => rfl, h.da.inb⟩, below_drewN h.below n, h.new⟩

set_option maxRecDepth 4000 in
set_option maxHeartbeats 2000000 in
theorem same_any {W w : World} {o1 o2 : Nat → Option Nat} {b1 b2 : Nat} {s1 s2 : Ds} (h1 : Dx W w o1 b1 s1) (h2 : Dx W w o2 b2 s2) (A : Option Addr) (n c : Nat) (xs : List Ac) (hl : AsIs w w.heap.size A n xs) (hn : n ≤ 1000000) (hF : ∀ x ∈ xs, x.Fits)
    (hd : s1.down = s2.down) (he : s1.data = s2.data) :
    Calls Try.prog 28 #[.pointer (some ⟨b1, 0, none⟩), .pointer (some ⟨b2, 0, none⟩), .slice A n c] w fun e w' => e = .returned (.bool true) ∧ ∃ d, w' = w.drewN d := by
  have H1 := Lib.hid h1
  have H2 := Lib.hid h2
  have HW := Lib.hid hl
  have HF := Lib.hid hF
  have HRD : Hid (∀ f, readP s2 f 0 16777216 = readP s1 f 0 16777216) := fun f => by unfold readP; rw [hd, he]
  have HSZ : Hid (∀ f, (s2.data f).length = (s1.data f).length) := fun f => by rw [he]
  obtain ⟨dn, hdn⟩ : ∃ dn, s1.down = dn := ⟨_, rfl⟩
  have hdn2 : s2.down = dn := hd.symm.trans hdn
  have q0 : (dn != dn) = false := by cases dn <;> rfl
  clear h1 h2 hl hF hd he
  go_enter Try.func28, Try.ntmps28
  go_wp2_with fail
  refine (x_down H1.out hdn).mono ?_
  rintro e w' ⟨rfl, rfl⟩
  go_wp2_with fail
  refine (x_down H2.out hdn2).mono ?_
  rintro e w' ⟨rfl, rfl⟩
  go_wp2_with fail
  go_loopw [7] (fun i wr => ∃ (k d : Nat), k ≤ n ∧ i = .int .i64 k ∧ wr = w.drewN d) (fun i _ => n - (RowKit.intOf i).toNat)
  case atStart => exact ⟨0, 0, Nat.zero_le _, rfl, rfl⟩
  case round =>
    obtain ⟨k, d, hk, rfl, rfl⟩ := hrel
    by_cases hlt : k < n
    · obtain ⟨ad, x, rfl, _, hx, A1, c1, g0, g1, g2, g3, g4, hr⟩ := HW.out.at_ hlt
      have hfx := (HF.out x (List.mem_of_getElem? hx)).f
      have hlt' : (k : Int) < (n : Int) := by omega
      have hk0 : 0 ≤ (k : Int) := by omega
      obtain ⟨r1, hr1⟩ : ∃ r1, readP s1 x.f 0 16777216 = r1 := ⟨_, rfl⟩
      obtain ⟨l1, e1⟩ := r1
      have HR2 := Lib.hid ((HRD.out x.f).trans hr1)
      have HR1 := Lib.hid hr1
      have q1 := bStr_toList l1
      obtain ⟨z, hz⟩ : ∃ z, (s1.data x.f).length = z := ⟨_, rfl⟩
      have HZ1 := Lib.hid hz
      have HZ2 := Lib.hid ((HSZ.out x.f).trans hz)
      clear hx hr g0 g2 g3 g4 hr1 hz
      go_wp2_with fail
      refine (x_read (H1.out.drewN _) hfx HR1.out).mono ?_
      rintro e w' ⟨rfl, rfl⟩
      go_wp2_with fail
      refine (x_read (H2.out.drewN _) hfx HR2.out).mono ?_
      rintro e w' ⟨rfl, rfl⟩
      go_wp2_with fail
      go_quiet ((first | (go_at_call 16; with_reducible refine (x_size (H1.out.drewN _) hfx HZ1.out).mono ?_; exact fun _ _ h => ⟨h.1, _, h.2.symm⟩) | (go_at_call 16; with_reducible refine (x_size (H2.out.drewN _) hfx HZ2.out).mono ?_; exact fun _ _ h => ⟨h.1, _, h.2.symm⟩)))
      go_wp2_with fail
      go_roundw
      case rel => exact ⟨k + 1, _, by omega, by go_num, rfl⟩
      case measure => simp [RowKit.intOf]; omega
    · obtain rfl : k = n := by omega
      go_wp2_with fail
      go_ret
      exact ⟨rfl, _, rfl⟩

end Go.Proofs.Ytdhknmnnmeamkaa
