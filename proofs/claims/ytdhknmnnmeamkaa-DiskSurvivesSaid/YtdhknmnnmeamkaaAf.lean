/- The walks of after and byteAt. Conditions: the machine is up; the list lies below. -/
import Derived.Test.YtdhknmnnmeamkaaRe
namespace Go.Proofs.Ytdhknmnnmeamkaa
open Go.RowKit Go.ChangeMaps

theorem Dx.still {W w w' : World} {own : Nat → Option Nat} {b : Nat} {s : Ds} (h : Dx W w own b s) (hb : Below w.heap.size w w') : Dx W w' own b s :=
  ⟨h.da.kept1 (fun g r e => hb.block g (h.da.inb g r e)) hb.size, h.below.trans (hb.mono h.below.size), h.new⟩

set_option maxRecDepth 4000 in
set_option maxHeartbeats 1000000 in
theorem after_any {W w : World} {own : Nat → Option Nat} {b : Nat} {s : Ds} (h : Dx W w own b s) (hu : s.down = false) {f : Int} (hf : isF f = true) (A : Option Addr) (n c : Nat) (l : List Int) (hl : Reads w w.heap.size 1 A n (inV l)) (hn : n ≤ 1000000) :
    Calls Try.prog 23 #[.pointer (some ⟨b, 0, none⟩), .int .i64 f, .slice A n c] w fun e w' => e = .returned (.tuple #[.string (bStr ((crashed s l).data f)), .bool true]) ∧ Below w.heap.size w w' := by
  have HC := Lib.hid (a_copy w own b s h.da)
  have HL := Lib.hid hl
  have hI : I64 f := by have := isF_iff.1 hf; unfold I64; omega
  have e1 : crashP s l = crashed s l := crash_up hu
  obtain ⟨D, hD⟩ : ∃ D, (crashed s l).data f = D := ⟨_, rfl⟩
  rw [hD]
  clear h hl
  go_enter Try.func23, Try.ntmps23
  go_wp2_with fail
  refine HC.out.mono ?_
  intro e w1 he
  obtain ⟨b1, o1, rfl, hx, hb1, hn1⟩ := Dx.first (Below.refl _ w) he
  have HX := Lib.hid hx
  have HN := Lib.hid (Nums.low hx HL.out hn)
  clear hx hb1 hn1 he HC HL
  go_wp2_with fail
  refine (x_crash HX.out HN.out e1).mono ?_
  rintro e w2 ⟨o2, rfl, hx2, -⟩
  have H2 := Lib.hid hx2
  clear hx2 HX HN
  go_wp2_with fail
  refine (x_start H2.out).mono ?_
  rintro e w3 ⟨o3, rfl, hx3, -⟩
  have H3 := Lib.hid hx3
  have hz : ((crashed s l).data f).length ≤ 16777216 := hx3.da.1.size f
  have HR2 : Hid (readP { crashed s l with down := false } f 0 16777216 = (D, 0)) := by
    refine (read_all (s := { crashed s l with down := false }) rfl hf (show (((crashed s l).data f).length : Int) ≤ 16777216 by omega)).trans ?_
    rw [← hD]
  clear hx3 H2 hz hD
  go_wp2_with fail
  refine (x_read H3.out hI HR2.out).mono ?_
  rintro e w' ⟨rfl, rfl⟩
  have HE := Lib.hid H3.out.below
  clear H3 HR2
  go_wp2_with fail
  first | go_ret | go_ret2
  exact ⟨rfl, HE.out⟩

theorem bStr_get (D : List UInt8) (i : Nat) (h : i < (bStr D).size) : (bStr D)[i] = atB D i := by
  have h2 : i < D.length := by rw [bStr_size] at h; exact h
  have e : (bStr D)[i] = D[i] := by
    show (bStr D).data[i] = _
    simp [bStr]
  refine e.trans ?_
  have h3 := atB_lt h2
  rw [List.getElem?_eq_getElem h2] at h3
  exact Option.some.inj h3
set_option maxHeartbeats 400000 in
theorem byteAt_any (D : List UInt8) (i : Nat) (w : World) :
    Calls Try.prog 24 #[.string (bStr D), .int .i64 (i : Int)] w fun e w' => e = .returned (.int .u8 ((atB D i).toNat : Int)) ∧ w = w' := by
  have q := bStr_size D
  by_cases h : D.length ≤ i
  · have e1 : atB D i = 0 := atB_ge h
    rw [e1]
    have h' : (D.length : Int) ≤ (i : Int) := by omega
    go_enter Try.func24, Try.ntmps24
    go_wp2_with fail
    go_ret
    exact ⟨rfl, rfl⟩
  · have h' : ¬ (D.length : Int) ≤ (i : Int) := by omega
    go_enter Try.func24, Try.ntmps24
    go_wp2_with fail
    go_ret
    exact ⟨by rw [bStr_get]; rfl, rfl⟩

theorem byteAt_still (D : List UInt8) (i : Nat) (w : World) : Calls Try.prog 24 #[.string (bStr D), .int .i64 (i : Int)] w fun e w' => e = .returned (.int .u8 ((atB D i).toNat : Int)) ∧ w' = w := (byteAt_any D i w).mono fun _ _ h => ⟨h.1, h.2.symm⟩

end Go.Proofs.Ytdhknmnnmeamkaa
