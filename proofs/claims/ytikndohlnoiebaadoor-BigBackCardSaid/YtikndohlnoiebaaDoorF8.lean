/- The walk of the law BigBack. Conditions: the arguments' memory, the tables of math/bits and strconv. -/
import Derived.Test.YtikndohlnoiebaaDoorF7
namespace Go.Proofs.YtikndohlnoiebaaDoor
set_option maxRecDepth 8000
open Go.RowKit

theorem itoa0 : Lib.itoa 0 = [48] := (Lib.itoa_nonneg 0).trans (dc_small (by omega))
theorem dec_len (k : Nat) : ∀ n : Nat, n < 10 ^ (k + 1) → (Lib.decDigits n).length ≤ k + 1 := by
  induction k with
  | zero =>
    intro n h
    rw [dc_small (by omega)]
    exact Nat.le_refl _
  | succ k ih =>
    intro n h
    by_cases h10 : n < 10
    · rw [dc_small h10]
      simp
    · rw [dc_big h10, List.length_append, List.length_singleton]
      have := ih (n / 10) (by rw [Nat.pow_succ] at h; omega)
      omega
set_option exponentiation.threshold 500 in
theorem itoa_len {x : Int} (h : Sz 60 x) : (Lib.itoa x).length ≤ 390 := by
  have h1 : (1048576 : Nat) ^ 60 ≤ 10 ^ (380 + 1) := by decide
  have h2 : x.natAbs < 10 ^ (380 + 1) := Nat.lt_of_lt_of_le h h1
  have h3 := dec_len 380 _ h2
  rcases Int.lt_or_le x 0 with hz | hz
  · obtain ⟨u, rfl⟩ : ∃ u : Nat, x = -(u : Int) := ⟨x.natAbs, by omega⟩
    rw [Int.natAbs_neg, Int.natAbs_natCast] at h3
    rw [Lib.itoa_neg u (by omega), List.length_cons]
    omega
  · obtain ⟨u, rfl⟩ : ∃ u : Nat, x = u := ⟨x.toNat, by omega⟩
    rw [Int.natAbs_natCast] at h3
    rw [Lib.itoa_nonneg]
    omega
set_option maxRecDepth 100000 in
set_option maxHeartbeats 4000000 in
theorem back_e0 (s1a : Int) (A1a : Option Addr) (n1a c1a : Nat) (l1a : List Int) (S : ByteArray) (w : World) (ha1 : BigArg w ⟨s1a, A1a, n1a, c1a⟩ l1a) (hT : Tab w) (hZ : TabZ w) (t0 : (400 : Int) < (S.size : Int)) :
    Calls Tryd.prog 4 #[.agg #[.int .i64 s1a, .slice A1a n1a c1a], .string S] w fun e w' => e = .returned (.bool true) ∧ Below w.heap.size w w' := by
  have HT := Lib.hid hT
  have HZ := Lib.hid hZ
  have HA1 := Lib.hid ha1
  clear hT hZ ha1
  have K := Lib.hid (show BxA w _ [⟨s1a, A1a, n1a, c1a⟩] from ((BxA.new w).box (by simp) ⟨s1a, A1a, n1a, c1a⟩))
  go_enter Tryd.func4, Tryd.ntmps4
  go_wp2_with fail
  refine (small_any _ (HT.out.on K.out.bl) (HZ.out.on K.out.bl)).mono ?_
  rintro e wa0 ⟨rfl, hb⟩
  have K0 := Lib.hid (K.out.call hb)
  clear hb K
  go_wp2_with fail
  go_ret
  exact ⟨rfl, K0.out.bl⟩
set_option maxRecDepth 100000 in
set_option maxHeartbeats 4000000 in
theorem back_e1 (s1a : Int) (A1a : Option Addr) (n1a c1a : Nat) (l1a : List Int) (S : ByteArray) (w : World) (ha1 : BigArg w ⟨s1a, A1a, n1a, c1a⟩ l1a) (hT : Tab w) (hZ : TabZ w) (t0 : ¬ (400 : Int) < (S.size : Int)) (t1 : (60 : Int) < (n1a : Int)) :
    Calls Tryd.prog 4 #[.agg #[.int .i64 s1a, .slice A1a n1a c1a], .string S] w fun e w' => e = .returned (.bool true) ∧ Below w.heap.size w w' := by
  have HT := Lib.hid hT
  have HZ := Lib.hid hZ
  have HA1 := Lib.hid ha1
  clear hT hZ ha1
  have K := Lib.hid (show BxA w _ [⟨s1a, A1a, n1a, c1a⟩] from ((BxA.new w).box (by simp) ⟨s1a, A1a, n1a, c1a⟩))
  go_enter Tryd.func4, Tryd.ntmps4
  go_wp2_with fail
  refine (small_any _ (HT.out.on K.out.bl) (HZ.out.on K.out.bl)).mono ?_
  rintro e wa0 ⟨rfl, hb⟩
  have K0 := Lib.hid (K.out.call hb)
  clear hb K
  have zb := K0.out.bx 0 _ rfl
  have z0 := zb.c0
  have z1 := zb.c1
  clear zb
  simp only [Nat.add_zero] at z0 z1
  go_wp2_with fail
  refine (few_F _ t1).mono ?_
  rintro e wa1 ⟨rfl, hb⟩
  have K1 := Lib.hid (K0.out.call hb)
  clear hb z0 z1 K0
  go_wp2_with fail
  go_ret
  exact ⟨rfl, K1.out.bl⟩
set_option maxRecDepth 100000 in
set_option maxHeartbeats 4000000 in
theorem back_nw (s1a : Int) (A1a : Option Addr) (n1a c1a : Nat) (l1a : List Int) (S : ByteArray) (w : World) (ha1 : BigArg w ⟨s1a, A1a, n1a, c1a⟩ l1a) (hT : Tab w) (hZ : TabZ w) (t0 : ¬ (400 : Int) < (S.size : Int)) (t1 : (n1a : Int) ≤ 60) (tx : txtOk S.data.toList = none) (tr : rightB s1a l1a = false) :
    Calls Tryd.prog 4 #[.agg #[.int .i64 s1a, .slice A1a n1a c1a], .string S] w fun e w' => e = .returned (.bool true) ∧ Below w.heap.size w w' := by
  have HT := Lib.hid hT
  have HZ := Lib.hid hZ
  have HA1 := Lib.hid ha1
  clear hT hZ ha1
  have K := Lib.hid (show BxA w _ [⟨s1a, A1a, n1a, c1a⟩] from ((BxA.new w).box (by simp) ⟨s1a, A1a, n1a, c1a⟩))
  go_enter Tryd.func4, Tryd.ntmps4
  go_wp2_with fail
  refine (small_any _ (HT.out.on K.out.bl) (HZ.out.on K.out.bl)).mono ?_
  rintro e wa0 ⟨rfl, hb⟩
  have K0 := Lib.hid (K.out.call hb)
  clear hb K
  have zb := K0.out.bx 0 _ rfl
  have z0 := zb.c0
  have z1 := zb.c1
  clear zb
  simp only [Nat.add_zero] at z0 z1
  go_wp2_with fail
  refine (few_T _ t1).mono ?_
  rintro e wa1 ⟨rfl, hb⟩
  have K1 := Lib.hid (K0.out.call hb)
  clear hb z0 z1 K0
  have MR := Lib.hid (fun wx => read_N S wx (by omega) tx)
  go_wp2_with fail
  refine (MR.out _).mono ?_
  rintro e wa2 ⟨rfl, hb⟩
  have K2 := Lib.hid ((K1.out.call hb))
  clear hb MR K1
  have hbx : Below wa2.heap.size wa2 (wa2.alloc (.cells #[.int .i64 0, .slice none 0 0] 24)) := (Below.refl _ _).alloc (Nat.le_refl _) _
  have K2b := Lib.hid (K2.out.call hbx)
  clear hbx K2
  go_wp2_with fail
  refine (same_B (Bg.nil _ 4) (Bg.nil _ 4) (by decide) (by decide) 0 0 (r := true) (by decide)).mono ?_
  rintro e wa3 ⟨rfl, hb⟩
  have K3 := Lib.hid (K2b.out.call hb)
  clear hb K2b
  have zb := K3.out.bx 0 _ rfl
  have z0 := zb.c0
  have z1 := zb.c1
  clear zb
  simp only [Nat.add_zero] at z0 z1
  have MW := Lib.hid (fun wx hx => right_is (w' := wx) HA1.out (by dsimp only; omega) hx tr)
  have MT := Lib.hid (fun wx hx => text_W (w' := wx) HA1.out (by dsimp only; omega) hx tr)
  go_wp2_with fail
  refine (MW.out _ K3.out.bl).mono ?_
  rintro e wa4 ⟨rfl, hb⟩
  have K4 := Lib.hid (K3.out.call hb)
  clear hb z0 z1 K3
  have zb := K4.out.bx 0 _ rfl
  have z0 := zb.c0
  have z1 := zb.c1
  clear zb
  simp only [Nat.add_zero] at z0 z1
  go_wp2_with fail
  refine (MT.out _ K4.out.bl).mono ?_
  rintro e wa5 ⟨rfl, hb⟩
  have K5 := Lib.hid (K4.out.call hb)
  clear hb z0 z1 K4
  go_wp2_with fail
  go_ret
  exact ⟨rfl, K5.out.bl⟩
set_option maxRecDepth 100000 in
set_option maxHeartbeats 4000000 in
theorem back_sw (s1a : Int) (A1a : Option Addr) (n1a c1a : Nat) (l1a : List Int) (S : ByteArray) (w : World) (ha1 : BigArg w ⟨s1a, A1a, n1a, c1a⟩ l1a) (hT : Tab w) (hZ : TabZ w) (t0 : ¬ (400 : Int) < (S.size : Int)) (t1 : (n1a : Int) ≤ 60) (z : Int) (tx : txtOk S.data.toList = some z) (tr : rightB s1a l1a = false) :
    Calls Tryd.prog 4 #[.agg #[.int .i64 s1a, .slice A1a n1a c1a], .string S] w fun e w' => e = .returned (.bool true) ∧ Below w.heap.size w w' := by
  have HT := Lib.hid hT
  have HZ := Lib.hid hZ
  have HA1 := Lib.hid ha1
  clear hT hZ ha1
  have K := Lib.hid (show BxA w _ [⟨s1a, A1a, n1a, c1a⟩] from ((BxA.new w).box (by simp) ⟨s1a, A1a, n1a, c1a⟩))
  go_enter Tryd.func4, Tryd.ntmps4
  go_wp2_with fail
  refine (small_any _ (HT.out.on K.out.bl) (HZ.out.on K.out.bl)).mono ?_
  rintro e wa0 ⟨rfl, hb⟩
  have K0 := Lib.hid (K.out.call hb)
  clear hb K
  have zb := K0.out.bx 0 _ rfl
  have z0 := zb.c0
  have z1 := zb.c1
  clear zb
  simp only [Nat.add_zero] at z0 z1
  go_wp2_with fail
  refine (few_T _ t1).mono ?_
  rintro e wa1 ⟨rfl, hb⟩
  have K1 := Lib.hid (K0.out.call hb)
  clear hb z0 z1 K0
  have MR := Lib.hid (fun wx => read_F S z wx (by omega) tx)
  have HI : Hid ((⟨(Lib.itoa z).toArray⟩ : ByteArray) = S) := by
    show _ = _
    rw [(txtOk_itoa tx).1]
  go_wp2_with fail
  refine (MR.out _).mono ?_
  rintro e wa2 ⟨sb, Ab, nb, cb, rfl, -, hg, hf, hb⟩
  have KT := Lib.hid (HT.out.on (K1.out.call hb).bl)
  have K2 := Lib.hid ((K1.out.call hb))
  have hbx : Below wa2.heap.size wa2 (wa2.alloc (.cells #[.int .i64 sb, .slice Ab nb cb] 24)) := (Below.refl _ _).alloc (Nat.le_refl _) _
  have K2b := Lib.hid (K2.out.call hbx)
  have GB := Lib.hid (hg.past hbx)
  have BB := Lib.hid (Blk.new wa2 24 #[.int .i64 sb, .slice Ab nb cb])
  have y0 := BB.out.c0
  have y1 := BB.out.c1
  clear hb hbx hg hf MR K1 K2 KT
  go_wp2_with fail
  refine (right_B GB.out (by decide) cb).mono ?_
  rintro e wa2c ⟨rfl, hb⟩
  have K2c := Lib.hid (K2b.out.call hb)
  have GC := Lib.hid (GB.out.past hb)
  have BC := Lib.hid (BB.out.below hb BB.out.lt)
  clear hb y0 y1 K2b GB BB
  have y0 := BC.out.c0
  have y1 := BC.out.c1
  go_wp2_with fail
  refine (text_B GC.out (by decide) (HT.out.on K2c.out.bl) cb).mono ?_
  rintro e wa3 ⟨rfl, hb⟩
  rw [HI.out]
  have K3 := Lib.hid (K2c.out.call hb)
  clear hb y0 y1 K2c GC BC
  have zb := K3.out.bx 0 _ rfl
  have z0 := zb.c0
  have z1 := zb.c1
  clear zb
  simp only [Nat.add_zero] at z0 z1
  have MW := Lib.hid (fun wx hx => right_is (w' := wx) HA1.out (by dsimp only; omega) hx tr)
  have MT := Lib.hid (fun wx hx => text_W (w' := wx) HA1.out (by dsimp only; omega) hx tr)
  go_wp2_with fail
  refine (MW.out _ K3.out.bl).mono ?_
  rintro e wa4 ⟨rfl, hb⟩
  have K4 := Lib.hid (K3.out.call hb)
  clear hb z0 z1 K3
  have zb := K4.out.bx 0 _ rfl
  have z0 := zb.c0
  have z1 := zb.c1
  clear zb
  simp only [Nat.add_zero] at z0 z1
  go_wp2_with fail
  refine (MT.out _ K4.out.bl).mono ?_
  rintro e wa5 ⟨rfl, hb⟩
  have K5 := Lib.hid (K4.out.call hb)
  clear hb z0 z1 K4
  go_wp2_with fail
  go_ret
  exact ⟨rfl, K5.out.bl⟩
set_option maxRecDepth 100000 in
set_option maxHeartbeats 4000000 in
theorem back_nz (A1a : Option Addr) (n1a c1a : Nat) (l1a : List Int) (S : ByteArray) (w : World) (ha1 : BigArg w ⟨0, A1a, n1a, c1a⟩ l1a) (hT : Tab w) (hZ : TabZ w) (t0 : ¬ (400 : Int) < (S.size : Int)) (t1 : (n1a : Int) ≤ 60) (tx : txtOk S.data.toList = none) (tr : rightB 0 l1a = true) (hx : Bg w 60 0 0 A1a n1a) :
    Calls Tryd.prog 4 #[.agg #[.int .i64 0, .slice A1a n1a c1a], .string S] w fun e w' => e = .returned (.bool true) ∧ Below w.heap.size w w' := by
  have HT := Lib.hid hT
  have HZ := Lib.hid hZ
  have HA1 := Lib.hid ha1
  clear hT hZ ha1
  have K := Lib.hid (show BxA w _ [⟨0, A1a, n1a, c1a⟩] from ((BxA.new w).box (by simp) ⟨0, A1a, n1a, c1a⟩))
  go_enter Tryd.func4, Tryd.ntmps4
  go_wp2_with fail
  refine (small_any _ (HT.out.on K.out.bl) (HZ.out.on K.out.bl)).mono ?_
  rintro e wa0 ⟨rfl, hb⟩
  have K0 := Lib.hid (K.out.call hb)
  clear hb K
  have zb := K0.out.bx 0 _ rfl
  have z0 := zb.c0
  have z1 := zb.c1
  clear zb
  simp only [Nat.add_zero] at z0 z1
  go_wp2_with fail
  refine (few_T _ t1).mono ?_
  rintro e wa1 ⟨rfl, hb⟩
  have K1 := Lib.hid (K0.out.call hb)
  clear hb z0 z1 K0
  have MR := Lib.hid (fun wx => read_N S wx (by omega) tx)
  go_wp2_with fail
  refine (MR.out _).mono ?_
  rintro e wa2 ⟨rfl, hb⟩
  have K2 := Lib.hid ((K1.out.call hb))
  clear hb MR K1
  have hbx : Below wa2.heap.size wa2 (wa2.alloc (.cells #[.int .i64 0, .slice none 0 0] 24)) := (Below.refl _ _).alloc (Nat.le_refl _) _
  have K2b := Lib.hid (K2.out.call hbx)
  clear hbx K2
  go_wp2_with fail
  refine (same_B (Bg.nil _ 4) (Bg.nil _ 4) (by decide) (by decide) 0 0 (r := true) (by decide)).mono ?_
  rintro e wa3 ⟨rfl, hb⟩
  have K3 := Lib.hid (K2b.out.call hb)
  clear hb K2b
  have MW := Lib.hid (fun wx hx => right_is (w' := wx) HA1.out (by dsimp only; omega) hx tr)
  have HX : Hid (Bg w 60 0 0 A1a n1a) := hx
  have MT : Hid (∀ wx, Below w.heap.size w wx → Calls Tryd.prog 14 #[.agg #[.int .i64 0, .slice A1a n1a c1a]] wx fun e w' => e = .returned (.string ⟨#[48]⟩) ∧ Below wx.heap.size wx w') := fun wx hb => by
    have h := text_B (HX.out.past hb) (by decide) (HT.out.on hb) c1a
    rw [itoa0] at h
    exact h
  have MR := Lib.hid (fun wx => read_F ⟨#[48]⟩ 0 wx (by decide) rfl)
  clear hx
  have zb := K3.out.bx 0 _ rfl
  have z0 := zb.c0
  have z1 := zb.c1
  clear zb
  simp only [Nat.add_zero] at z0 z1
  go_wp2_with fail
  refine (MW.out _ K3.out.bl).mono ?_
  rintro e wa4 ⟨rfl, hb⟩
  have K4 := Lib.hid (K3.out.call hb)
  clear hb z0 z1 K3
  have zb := K4.out.bx 0 _ rfl
  have z0 := zb.c0
  have z1 := zb.c1
  clear zb
  simp only [Nat.add_zero] at z0 z1
  go_wp2_with fail
  refine (MT.out _ K4.out.bl).mono ?_
  rintro e wa5 ⟨rfl, hb⟩
  have K5 := Lib.hid (K4.out.call hb)
  clear hb z0 z1 K4
  go_wp2_with fail
  refine (MR.out _).mono ?_
  rintro e wa6 ⟨sc, Ac, nc, cc, rfl, -, hg, hf, hb⟩
  have K6 := Lib.hid ((K5.out.call hb))
  have hbx : Below wa6.heap.size wa6 (wa6.alloc (.cells #[.int .i64 sc, .slice Ac nc cc] 24)) := (Below.refl _ _).alloc (Nat.le_refl _) _
  have K6b := Lib.hid (K6.out.call hbx)
  have GC := Lib.hid (hg.past hbx)
  have BC := Lib.hid (Blk.new wa6 24 #[.int .i64 sc, .slice Ac nc cc])
  have y0 := BC.out.c0
  have y1 := BC.out.c1
  clear hb hbx hg hf MR K6 K5
  have zb := K6b.out.bx 0 _ rfl
  have z0 := zb.c0
  have z1 := zb.c1
  clear zb
  simp only [Nat.add_zero] at z0 z1
  go_wp2_with fail
  refine (same_B GC.out (HX.out.past K6b.out.bl) (by decide) (by decide) cc c1a (r := true) (decide_eq_true rfl)).mono ?_
  rintro e wa7 ⟨rfl, hb⟩
  have K7 := Lib.hid (K6b.out.call hb)
  clear hb y0 y1 z0 z1 K6b GC BC
  have zb := K7.out.bx 0 _ rfl
  have z0 := zb.c0
  have z1 := zb.c1
  clear zb
  simp only [Nat.add_zero] at z0 z1
  go_wp2_with fail
  go_ret
  exact ⟨rfl, K7.out.bl⟩
set_option maxRecDepth 100000 in
set_option maxHeartbeats 4000000 in
theorem back_sz (A1a : Option Addr) (n1a c1a : Nat) (l1a : List Int) (S : ByteArray) (w : World) (ha1 : BigArg w ⟨0, A1a, n1a, c1a⟩ l1a) (hT : Tab w) (hZ : TabZ w) (t0 : ¬ (400 : Int) < (S.size : Int)) (t1 : (n1a : Int) ≤ 60) (z : Int) (tx : txtOk S.data.toList = some z) (tr : rightB 0 l1a = true) (hx : Bg w 60 0 0 A1a n1a) :
    Calls Tryd.prog 4 #[.agg #[.int .i64 0, .slice A1a n1a c1a], .string S] w fun e w' => e = .returned (.bool true) ∧ Below w.heap.size w w' := by
  have HT := Lib.hid hT
  have HZ := Lib.hid hZ
  have HA1 := Lib.hid ha1
  clear hT hZ ha1
  have K := Lib.hid (show BxA w _ [⟨0, A1a, n1a, c1a⟩] from ((BxA.new w).box (by simp) ⟨0, A1a, n1a, c1a⟩))
  go_enter Tryd.func4, Tryd.ntmps4
  go_wp2_with fail
  refine (small_any _ (HT.out.on K.out.bl) (HZ.out.on K.out.bl)).mono ?_
  rintro e wa0 ⟨rfl, hb⟩
  have K0 := Lib.hid (K.out.call hb)
  clear hb K
  have zb := K0.out.bx 0 _ rfl
  have z0 := zb.c0
  have z1 := zb.c1
  clear zb
  simp only [Nat.add_zero] at z0 z1
  go_wp2_with fail
  refine (few_T _ t1).mono ?_
  rintro e wa1 ⟨rfl, hb⟩
  have K1 := Lib.hid (K0.out.call hb)
  clear hb z0 z1 K0
  have MR := Lib.hid (fun wx => read_F S z wx (by omega) tx)
  have HI : Hid ((⟨(Lib.itoa z).toArray⟩ : ByteArray) = S) := by
    show _ = _
    rw [(txtOk_itoa tx).1]
  go_wp2_with fail
  refine (MR.out _).mono ?_
  rintro e wa2 ⟨sb, Ab, nb, cb, rfl, -, hg, hf, hb⟩
  have KT := Lib.hid (HT.out.on (K1.out.call hb).bl)
  have K2 := Lib.hid ((K1.out.call hb))
  have hbx : Below wa2.heap.size wa2 (wa2.alloc (.cells #[.int .i64 sb, .slice Ab nb cb] 24)) := (Below.refl _ _).alloc (Nat.le_refl _) _
  have K2b := Lib.hid (K2.out.call hbx)
  have GB := Lib.hid (hg.past hbx)
  have BB := Lib.hid (Blk.new wa2 24 #[.int .i64 sb, .slice Ab nb cb])
  have y0 := BB.out.c0
  have y1 := BB.out.c1
  clear hb hbx hg hf MR K1 K2 KT
  go_wp2_with fail
  refine (right_B GB.out (by decide) cb).mono ?_
  rintro e wa2c ⟨rfl, hb⟩
  have K2c := Lib.hid (K2b.out.call hb)
  have GC := Lib.hid (GB.out.past hb)
  have BC := Lib.hid (BB.out.below hb BB.out.lt)
  clear hb y0 y1 K2b GB BB
  have y0 := BC.out.c0
  have y1 := BC.out.c1
  go_wp2_with fail
  refine (text_B GC.out (by decide) (HT.out.on K2c.out.bl) cb).mono ?_
  rintro e wa3 ⟨rfl, hb⟩
  rw [HI.out]
  have K3 := Lib.hid (K2c.out.call hb)
  clear hb y0 y1 K2c GC BC
  have MW := Lib.hid (fun wx hx => right_is (w' := wx) HA1.out (by dsimp only; omega) hx tr)
  have HX : Hid (Bg w 60 0 0 A1a n1a) := hx
  have MT : Hid (∀ wx, Below w.heap.size w wx → Calls Tryd.prog 14 #[.agg #[.int .i64 0, .slice A1a n1a c1a]] wx fun e w' => e = .returned (.string ⟨#[48]⟩) ∧ Below wx.heap.size wx w') := fun wx hb => by
    have h := text_B (HX.out.past hb) (by decide) (HT.out.on hb) c1a
    rw [itoa0] at h
    exact h
  have MR := Lib.hid (fun wx => read_F ⟨#[48]⟩ 0 wx (by decide) rfl)
  clear hx
  have zb := K3.out.bx 0 _ rfl
  have z0 := zb.c0
  have z1 := zb.c1
  clear zb
  simp only [Nat.add_zero] at z0 z1
  go_wp2_with fail
  refine (MW.out _ K3.out.bl).mono ?_
  rintro e wa4 ⟨rfl, hb⟩
  have K4 := Lib.hid (K3.out.call hb)
  clear hb z0 z1 K3
  have zb := K4.out.bx 0 _ rfl
  have z0 := zb.c0
  have z1 := zb.c1
  clear zb
  simp only [Nat.add_zero] at z0 z1
  go_wp2_with fail
  refine (MT.out _ K4.out.bl).mono ?_
  rintro e wa5 ⟨rfl, hb⟩
  have K5 := Lib.hid (K4.out.call hb)
  clear hb z0 z1 K4
  go_wp2_with fail
  refine (MR.out _).mono ?_
  rintro e wa6 ⟨sc, Ac, nc, cc, rfl, -, hg, hf, hb⟩
  have K6 := Lib.hid ((K5.out.call hb))
  have hbx : Below wa6.heap.size wa6 (wa6.alloc (.cells #[.int .i64 sc, .slice Ac nc cc] 24)) := (Below.refl _ _).alloc (Nat.le_refl _) _
  have K6b := Lib.hid (K6.out.call hbx)
  have GC := Lib.hid (hg.past hbx)
  have BC := Lib.hid (Blk.new wa6 24 #[.int .i64 sc, .slice Ac nc cc])
  have y0 := BC.out.c0
  have y1 := BC.out.c1
  clear hb hbx hg hf MR K6 K5
  have zb := K6b.out.bx 0 _ rfl
  have z0 := zb.c0
  have z1 := zb.c1
  clear zb
  simp only [Nat.add_zero] at z0 z1
  go_wp2_with fail
  refine (same_B GC.out (HX.out.past K6b.out.bl) (by decide) (by decide) cc c1a (r := true) (decide_eq_true rfl)).mono ?_
  rintro e wa7 ⟨rfl, hb⟩
  have K7 := Lib.hid (K6b.out.call hb)
  clear hb y0 y1 z0 z1 K6b GC BC
  have zb := K7.out.bx 0 _ rfl
  have z0 := zb.c0
  have z1 := zb.c1
  clear zb
  simp only [Nat.add_zero] at z0 z1
  go_wp2_with fail
  go_ret
  exact ⟨rfl, K7.out.bl⟩
end Go.Proofs.YtikndohlnoiebaaDoor
