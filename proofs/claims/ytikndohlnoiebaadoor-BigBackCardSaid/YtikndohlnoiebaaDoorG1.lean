/- The walk of the law BigBack at a right big integer that is not 0, and the string of one. Conditions: the arguments' memory, the tables of math/bits and strconv. -/
import Derived.Test.YtikndohlnoiebaaDoorF8
namespace Go.Proofs.YtikndohlnoiebaaDoor
set_option maxRecDepth 8000
open Go.RowKit

set_option maxRecDepth 100000 in
set_option maxHeartbeats 4000000 in
theorem back_sp (s1a : Int) (A1a : Option Addr) (n1a c1a : Nat) (l1a : List Int) (S : ByteArray) (w : World) (ha1 : BigArg w ⟨s1a, A1a, n1a, c1a⟩ l1a) (hT : Tab w) (hZ : TabZ w) (t0 : ¬ (400 : Int) < (S.size : Int)) (t1 : (n1a : Int) ≤ 60) (z : Int) (tx : txtOk S.data.toList = some z) (tr : rightB s1a l1a = true) (x1 : Int) (hx : Bg w 60 x1 s1a A1a n1a) (hs0 : ¬ s1a = 0) :
    Calls Tryd.prog 4 #[.agg #[.int .i64 s1a, .slice A1a n1a c1a], .string S] w fun e w' => e = .returned (.bool true) ∧ Below w.heap.size w w' := by
  have HT := Lib.hid hT
  have HZ := Lib.hid hZ
  have HA1 := Lib.hid ha1
  clear hT hZ ha1
  have K := Lib.hid (show BxA w _ [⟨s1a, A1a, n1a, c1a⟩] from ((BxA.new w).box (by simp) ⟨s1a, A1a, n1a, c1a⟩))
  go_enter Tryd.func4, Tryd.ntmps4
  go_wp2_with fail
  refine (small_any _ (HT.out.on K.out.bl) (HZ.out.on K.out.bl)).mono ?_
  rintro e wa0 ⟨rfl, hb⟩
  have K0 := Lib.hid (K.out.call hb)
  clear hb K
  have zb := K0.out.bx 0 _ rfl
  have z0 := zb.c0
  have z1 := zb.c1
  clear zb
  simp only [Nat.add_zero] at z0 z1
  go_wp2_with fail
  refine (few_T _ t1).mono ?_
  rintro e wa1 ⟨rfl, hb⟩
  have K1 := Lib.hid (K0.out.call hb)
  clear hb z0 z1 K0
  have MR := Lib.hid (fun wx => read_F S z wx (by omega) tx)
  have HI : Hid ((⟨(Lib.itoa z).toArray⟩ : ByteArray) = S) := by
    show _ = _
    rw [(txtOk_itoa tx).1]
  go_wp2_with fail
  refine (MR.out _).mono ?_
  rintro e wa2 ⟨sb, Ab, nb, cb, rfl, -, hg, hf, hb⟩
  have KT := Lib.hid (HT.out.on (K1.out.call hb).bl)
  have K2 := Lib.hid ((K1.out.call hb))
  have hbx : Below wa2.heap.size wa2 (wa2.alloc (.cells #[.int .i64 sb, .slice Ab nb cb] 24)) := (Below.refl _ _).alloc (Nat.le_refl _) _
  have K2b := Lib.hid (K2.out.call hbx)
  have GB := Lib.hid (hg.past hbx)
  have BB := Lib.hid (Blk.new wa2 24 #[.int .i64 sb, .slice Ab nb cb])
  have y0 := BB.out.c0
  have y1 := BB.out.c1
  clear hb hbx hg hf MR K1 K2 KT
  go_wp2_with fail
  refine (right_B GB.out (by decide) cb).mono ?_
  rintro e wa2c ⟨rfl, hb⟩
  have K2c := Lib.hid (K2b.out.call hb)
  have GC := Lib.hid (GB.out.past hb)
  have BC := Lib.hid (BB.out.below hb BB.out.lt)
  clear hb y0 y1 K2b GB BB
  have y0 := BC.out.c0
  have y1 := BC.out.c1
  go_wp2_with fail
  refine (text_B GC.out (by decide) (HT.out.on K2c.out.bl) cb).mono ?_
  rintro e wa3 ⟨rfl, hb⟩
  rw [HI.out]
  have K3 := Lib.hid (K2c.out.call hb)
  clear hb y0 y1 K2c GC BC
  have MW := Lib.hid (fun wx hx => right_is (w' := wx) HA1.out (by dsimp only; omega) hx tr)
  have HX := Lib.hid hx
  have MT : Hid (∀ wx, Below w.heap.size w wx → Calls Tryd.prog 14 #[.agg #[.int .i64 s1a, .slice A1a n1a c1a]] wx fun e w' => e = .returned (.string ⟨(Lib.itoa x1).toArray⟩) ∧ Below wx.heap.size wx w') := fun wx hb => text_B (HX.out.past hb) (by decide) (HT.out.on hb) c1a
  have hil := itoa_len hx.1
  have MR := Lib.hid (fun wx => read_F ⟨(Lib.itoa x1).toArray⟩ x1 wx (by rw [← size_list]; simp; omega) (by show txtOk (Lib.itoa x1).toArray.toList = _; rw [List.toList_toArray]; exact itoa_txtOk x1))
  clear hx
  have zb := K3.out.bx 0 _ rfl
  have z0 := zb.c0
  have z1 := zb.c1
  clear zb
  simp only [Nat.add_zero] at z0 z1
  go_wp2_with fail
  refine (MW.out _ K3.out.bl).mono ?_
  rintro e wa4 ⟨rfl, hb⟩
  have K4 := Lib.hid (K3.out.call hb)
  clear hb z0 z1 K3
  have zb := K4.out.bx 0 _ rfl
  have z0 := zb.c0
  have z1 := zb.c1
  clear zb
  simp only [Nat.add_zero] at z0 z1
  go_wp2_with fail
  refine (MT.out _ K4.out.bl).mono ?_
  rintro e wa5 ⟨rfl, hb⟩
  have K5 := Lib.hid (K4.out.call hb)
  clear hb z0 z1 K4
  go_wp2_with fail
  refine (MR.out _).mono ?_
  rintro e wa6 ⟨sc, Ac, nc, cc, rfl, -, hg, hf, hb⟩
  have K6 := Lib.hid ((K5.out.call hb))
  have hbx : Below wa6.heap.size wa6 (wa6.alloc (.cells #[.int .i64 sc, .slice Ac nc cc] 24)) := (Below.refl _ _).alloc (Nat.le_refl _) _
  have K6b := Lib.hid (K6.out.call hbx)
  have GC := Lib.hid (hg.past hbx)
  have BC := Lib.hid (Blk.new wa6 24 #[.int .i64 sc, .slice Ac nc cc])
  have y0 := BC.out.c0
  have y1 := BC.out.c1
  clear hb hbx hg hf MR K6 K5
  have zb := K6b.out.bx 0 _ rfl
  have z0 := zb.c0
  have z1 := zb.c1
  clear zb
  simp only [Nat.add_zero] at z0 z1
  go_wp2_with fail
  refine (same_B GC.out (HX.out.past K6b.out.bl) (by decide) (by decide) cc c1a (r := true) (decide_eq_true rfl)).mono ?_
  rintro e wa7 ⟨rfl, hb⟩
  have K7 := Lib.hid (K6b.out.call hb)
  clear hb y0 y1 z0 z1 K6b GC BC
  have zb := K7.out.bx 0 _ rfl
  have z0 := zb.c0
  have z1 := zb.c1
  clear zb
  simp only [Nat.add_zero] at z0 z1
  go_upto_region 15 with (fail)
  have S7 := Lib.hid (K7.out.st1 HX.out)
  clear K7 MW HA1 z0 z1
  have Fa := S7.out.bx _ (List.mem_of_getElem? (i := 0) rfl)
  dsimp only at Fa
  have za0 := Fa.1.c0
  have za1 := Fa.1.c1
  have Ga := Lib.hid Fa.2
  clear Fa
  obtain ⟨L8, HL8⟩ : ∃ L : List BoxR, Hid (L = [⟨w.heap.size, 60, x1, s1a, A1a, n1a, c1a⟩]) := ⟨_, rfl⟩
  rw [← HL8.out] at S7
  have hlt : w.heap.size < wa7.heap.size := World.block_lt_of_cell? _ _ za0
  have HO := Lib.hid (fun wx => of_F 10 wx (by decide) (by decide))
  go_cut [11, 12] (fun sp sq wc => sq = .int .i64 0 ∧ ∃ b s A n c, sp = .pointer (some ⟨b, 0, none⟩) ∧ Hid (StR w wc (⟨b, (60 + 4), (x1 * 10), s, A, n, c⟩ :: L8)))
  case first =>
    have SD := Lib.hid (S7.out.call (Below.refl _ _).drew)
    have SN : Hid (StR w (wa7.drew.alloc (.cells #[.int .i64 0, .slice none 0 0] 24)) (⟨wa7.heap.size, 4, 0, 0, none, 0, 0⟩ :: L8)) := SD.out.made (Below.refl _ _) (Bg.nil _ 4) (fun h => absurd h (by omega)) 0
    go_region_held3 (fun w' => w'.cell? ⟨w.heap.size, 0, none⟩ = some (.int .i64 s1a) ∧ w'.cell? ⟨w.heap.size, 1, none⟩ = some (.slice A1a n1a c1a))
      (first | exact ⟨y0, y1⟩ | exact ⟨alc y0, alc y1⟩ | exact ⟨u0, u1⟩ | exact ⟨alc u0, alc u1⟩ | exact ⟨za0, za1⟩ | exact ⟨alc za0, alc za1⟩ | exact ⟨stc y0 (by have := B0.out.size; dsimp only; omega), stc y1 (by have := B0.out.size; dsimp only; omega)⟩ | exact ⟨stc (stc y0 (by have := B0.out.size; dsimp only; omega)) (by have := B0.out.size; dsimp only; omega), stc (stc y1 (by have := B0.out.size; dsimp only; omega)) (by have := B0.out.size; dsimp only; omega)⟩)
      (first | (go_at_call 15; (with_reducible refine (HO.out _).mono ?_); (rintro e wo ⟨so, Ao, no, co, rfl, -, ho, fo, bo⟩; (first | (have SO := Lib.hid (SD.out.call bo); have B0 := Lib.hid ((Below.refl wa7.heap.size wa7).drew.trans bo)) | (have SO2 := Lib.hid (SN.out.call bo); have B0 := Lib.hid (((Below.refl wa7.heap.size wa7).drew.alloc (Nat.le_refl _) _).trans (bo.mono (by simp))))); have u0 := (B0.out.cell (p := ⟨w.heap.size, 0, none⟩) hlt).trans za0; have u1 := (B0.out.cell (p := ⟨w.heap.size, 1, none⟩) hlt).trans za1; have HOg := Lib.hid ho; clear ho fo bo)) | (go_at_call 11; (first | ((with_reducible refine (mul_F (Ga.out.past B0.out) HOg.out (by decide) (by decide) _ _).mono ?_); rintro e w2 ⟨s2, A2, n2, c2, rfl, -, h2, f2, b2⟩; have B2 := Lib.hid (B0.out.trans (b2.mono B0.out.size))) | ((with_reducible refine (mul_F (Ga.out.past (B0.out.alloc B0.out.size _)) (HOg.out.past ((Below.refl _ _).alloc (Nat.le_refl _) _)) (by decide) (by decide) _ _).mono ?_); rintro e w2 ⟨s2, A2, n2, c2, rfl, -, h2, f2, b2⟩; have B2 := Lib.hid ((B0.out.alloc B0.out.size _).trans (b2.mono (Nat.le_trans B0.out.size (by simp)))))); have y0 := (B2.out.cell (p := ⟨w.heap.size, 0, none⟩) hlt).trans za0; have y1 := (B2.out.cell (p := ⟨w.heap.size, 1, none⟩) hlt).trans za1; (first | (have PP := Lib.hid (SO2.out.put b2 h2 f2 c2 (i := 0) rfl); have QQ := (SO2.out.call b2).bx _ List.mem_cons_self; have q0 := QQ.1.c0; have q1 := QQ.1.c1; have q2 := QQ.1.frozen 0; have q3 := QQ.1.frozen 1; clear QQ) | (have PP := Lib.hid ((SO.out.made (Below.refl _ _) (Bg.nil _ 4) (fun h => absurd h (by omega)) 0).put b2 h2 f2 c2 (i := 0) rfl); have QQ := ((SO.out.made (Below.refl _ _) (Bg.nil _ 4) (fun h => absurd h (by omega)) 0).call b2).bx _ List.mem_cons_self; have q0 := QQ.1.c0; have q1 := QQ.1.c1; have q2 := QQ.1.frozen 0; have q3 := QQ.1.frozen 1; clear QQ) | (have PP := Lib.hid (SO.out.made b2 h2 f2 c2))); clear h2 f2 b2))
    all_goals
      go_wp2_with fail
      go_meet
      exact ⟨rfl, _, _, _, _, _, rfl, PP⟩
  obtain ⟨rfl, b8, s8, A8, n8, c8, rfl, S8⟩ := hcut
  rw [HL8.out] at S8
  clear S7 hlt HO za0 za1 Ga HL8
  go_upto_region 16 with (fail)
  have hsg : s1a = 1 ∨ s1a = -1 := by
    rcases HX.out.sign with ⟨h, -⟩ | ⟨h, -⟩ | ⟨h, -⟩ <;> omega
  have hw7 : IntKind.i64.wrap (7 * s1a) = 7 * s1a := IntWalk.i64_in _ (by omega)
  have Fa := S8.out.bx _ (List.mem_of_getElem? (i := 1) rfl)
  dsimp only at Fa
  have za0 := Fa.1.c0
  have za1 := Fa.1.c1
  have Ga := Lib.hid Fa.2
  clear Fa
  have hlta : w.heap.size < wc.heap.size := World.block_lt_of_cell? _ _ za0
  have Ften := S8.out.bx _ (List.mem_of_getElem? (i := 0) rfl)
  dsimp only at Ften
  have zten0 := Ften.1.c0
  have zten1 := Ften.1.c1
  have Gten := Lib.hid Ften.2
  clear Ften
  obtain ⟨L9, HL9⟩ : ∃ L : List BoxR, Hid (L = [⟨b8, (60 + 4), (x1 * 10), s8, A8, n8, c8⟩, ⟨w.heap.size, 60, x1, s1a, A1a, n1a, c1a⟩]) := ⟨_, rfl⟩
  rw [← HL9.out] at S8
  have hlt : b8 < wc.heap.size := World.block_lt_of_cell? _ _ zten0
  have HO := Lib.hid (fun wx => of_F (7 * s1a) wx (by omega) (by omega))
  go_cut [13, 14] (fun sp sq wc => sq = .int .i64 0 ∧ ∃ b s A n c, sp = .pointer (some ⟨b, 0, none⟩) ∧ Hid (StR w wc (⟨b, ((60 + 4) + 4 + 1), ((x1 * 10) + (7 * s1a)), s, A, n, c⟩ :: L9)))
  case first =>
    have SD := Lib.hid (S8.out.call (Below.refl _ _).drew)
    have SN : Hid (StR w (wc.drew.alloc (.cells #[.int .i64 0, .slice none 0 0] 24)) (⟨wc.heap.size, 4, 0, 0, none, 0, 0⟩ :: L9)) := SD.out.made (Below.refl _ _) (Bg.nil _ 4) (fun h => absurd h (by omega)) 0
    go_region_held3 (fun w' => w'.cell? ⟨b8, 0, none⟩ = some (.int .i64 s8) ∧ w'.cell? ⟨b8, 1, none⟩ = some (.slice A8 n8 c8) ∧ w'.cell? ⟨w.heap.size, 0, none⟩ = some (.int .i64 s1a))
      (first | exact ⟨y0, y1, y5⟩ | exact ⟨alc y0, alc y1, alc y5⟩ | exact ⟨u0, u1, u5⟩ | exact ⟨alc u0, alc u1, alc u5⟩ | exact ⟨zten0, zten1, za0⟩ | exact ⟨alc zten0, alc zten1, alc za0⟩ | exact ⟨stc y0 (by have := B0.out.size; dsimp only; omega), stc y1 (by have := B0.out.size; dsimp only; omega), stc y5 (by have := B0.out.size; dsimp only; omega)⟩ | exact ⟨stc (stc y0 (by have := B0.out.size; dsimp only; omega)) (by have := B0.out.size; dsimp only; omega), stc (stc y1 (by have := B0.out.size; dsimp only; omega)) (by have := B0.out.size; dsimp only; omega), stc (stc y5 (by have := B0.out.size; dsimp only; omega)) (by have := B0.out.size; dsimp only; omega)⟩)
      (first | (go_at_call 15; (with_reducible refine (HO.out _).mono ?_); (rintro e wo ⟨so, Ao, no, co, rfl, -, ho, fo, bo⟩; (first | (have SO := Lib.hid (SD.out.call bo); have B0 := Lib.hid ((Below.refl wc.heap.size wc).drew.trans bo)) | (have SO2 := Lib.hid (SN.out.call bo); have B0 := Lib.hid (((Below.refl wc.heap.size wc).drew.alloc (Nat.le_refl _) _).trans (bo.mono (by simp))))); have u0 := (B0.out.cell (p := ⟨b8, 0, none⟩) hlt).trans zten0; have u1 := (B0.out.cell (p := ⟨b8, 1, none⟩) hlt).trans zten1; have u5 := (B0.out.cell (p := ⟨w.heap.size, 0, none⟩) hlta).trans za0; have HOg := Lib.hid ho; clear ho fo bo)) | (go_at_call 10; (first | ((with_reducible refine (add_F (Gten.out.past B0.out) HOg.out (by decide) (by decide) _ _).mono ?_); rintro e w2 ⟨s2, A2, n2, c2, rfl, -, h2, f2, b2⟩; have B2 := Lib.hid (B0.out.trans (b2.mono B0.out.size))) | ((with_reducible refine (add_F (Gten.out.past (B0.out.alloc B0.out.size _)) (HOg.out.past ((Below.refl _ _).alloc (Nat.le_refl _) _)) (by decide) (by decide) _ _).mono ?_); rintro e w2 ⟨s2, A2, n2, c2, rfl, -, h2, f2, b2⟩; have B2 := Lib.hid ((B0.out.alloc B0.out.size _).trans (b2.mono (Nat.le_trans B0.out.size (by simp)))))); have y0 := (B2.out.cell (p := ⟨b8, 0, none⟩) hlt).trans zten0; have y1 := (B2.out.cell (p := ⟨b8, 1, none⟩) hlt).trans zten1; have y5 := (B2.out.cell (p := ⟨w.heap.size, 0, none⟩) hlta).trans za0; (first | (have PP := Lib.hid (SO2.out.put b2 h2 f2 c2 (i := 0) rfl); have QQ := (SO2.out.call b2).bx _ List.mem_cons_self; have q0 := QQ.1.c0; have q1 := QQ.1.c1; have q2 := QQ.1.frozen 0; have q3 := QQ.1.frozen 1; clear QQ) | (have PP := Lib.hid ((SO.out.made (Below.refl _ _) (Bg.nil _ 4) (fun h => absurd h (by omega)) 0).put b2 h2 f2 c2 (i := 0) rfl); have QQ := ((SO.out.made (Below.refl _ _) (Bg.nil _ 4) (fun h => absurd h (by omega)) 0).call b2).bx _ List.mem_cons_self; have q0 := QQ.1.c0; have q1 := QQ.1.c1; have q2 := QQ.1.frozen 0; have q3 := QQ.1.frozen 1; clear QQ) | (have PP := Lib.hid (SO.out.made b2 h2 f2 c2))); clear h2 f2 b2))
    all_goals
      go_wp2_with fail
      go_meet
      exact ⟨rfl, _, _, _, _, _, rfl, PP⟩
  obtain ⟨rfl, b9, s9, A9, n9, c9, rfl, S9⟩ := hcut
  rw [HL9.out] at S9
  clear S8 hlt HO zten0 zten1 Gten HL9
  clear za0 za1 Ga hlta hw7
  have hx0 : x1 ≠ 0 := by rcases HX.out.sign with ⟨h, h'⟩ | ⟨h, h'⟩ | ⟨h, h'⟩ <;> omega
  have hcat : ((⟨(Lib.itoa x1).toArray⟩ : ByteArray) ++ ⟨#[55]⟩) = ⟨(Lib.itoa x1 ++ [55]).toArray⟩ := by
    apply ByteArray.ext
    simp
  have MR7 := Lib.hid (fun wx => read_F ⟨(Lib.itoa x1 ++ [55]).toArray⟩ (x1 * 10 + 7 * s1a) wx (by rw [← size_list]; simp; omega) (by
    show txtOk (Lib.itoa x1 ++ [55]).toArray.toList = _
    rw [List.toList_toArray, txt7 hx0]
    congr 2
    rcases HX.out.sign with ⟨h, h'⟩ | ⟨h, h'⟩ | ⟨h, h'⟩ <;> split <;> omega))
  have HCAT := Lib.hid hcat
  clear hcat hx0
  go_wp2_with fail
  rw [HCAT.out]
  refine (MR7.out _).mono ?_
  rintro e wa9 ⟨sd, Ad, nd, cd, rfl, -, hg, hf, hb⟩
  have S10 := Lib.hid (S9.out.made hb hg hf cd)
  clear hb hg hf MR7 S9 MT
  have Fd := S10.out.bx _ (List.mem_of_getElem? (i := 0) rfl)
  dsimp only at Fd
  have zd0 := Fd.1.c0
  have zd1 := Fd.1.c1
  have Gd := Lib.hid Fd.2
  clear Fd
  have Fseven := S10.out.bx _ (List.mem_of_getElem? (i := 1) rfl)
  dsimp only at Fseven
  have zseven0 := Fseven.1.c0
  have zseven1 := Fseven.1.c1
  have Gseven := Lib.hid Fseven.2
  clear Fseven
  go_wp2_with fail
  refine (same_B Gd.out Gseven.out (by decide) (by decide) cd c9 (r := true) (decide_eq_true rfl)).mono ?_
  rintro e wb0 ⟨rfl, hb⟩
  have S11 := Lib.hid (S10.out.call hb)
  clear hb S10 zd0 zd1 Gd zseven0 zseven1 Gseven
  go_wp2_with fail
  go_ret
  exact ⟨rfl, S11.out.bl⟩
end Go.Proofs.YtikndohlnoiebaaDoor
