/- The walk of the law's examples. Conditions: the table of math/bits as its text lays it. -/
import Derived.Test.YtikfjmdeeknalaaGreatDoorY2
namespace Go.Proofs.YtikfjmdeeknalaaGreatDoor
set_option maxRecDepth 20000
open Go.RowKit

theorem Holds_is {k n m c cx : Nat} {A X : Option Addr} {l : List RowP} {xs : List (Option Rat)} {w : World} (N : Int) (hl : Rs k w A n l) (hx : Xs k w X m xs) (hT : TabZ w) (hk : k ≤ 500) (hn : n ≤ 1073741824) (hm : m ≤ 1073741824) {b : Bool} (hb : sysH N l xs = b) :
    Calls Tryz.prog 88 #[.agg #[.int .i64 N, .slice A n c], .slice X m cx] w (BoolB b w) := by
  rw [← hb]; exact Holds_any N hl hx hT hk hn hm
theorem Same_is {k n m : Nat} {A B : Option Addr} {la lb : List (Int × Rat)} {w : World} (ca cb : Nat) (hl : Ts k w A n (up la)) (hm : Ts k w B m (up lb)) (hk : k ≤ 100000) (hn : n ≤ 1000000) {b : Bool} (hb : decide (la = lb) = b) :
    Calls Tryz.prog 95 #[.slice A n ca, .slice B m cb] w (BoolB b w) := by
  rw [← hb]; exact Same_T ca cb hl hm hk hn
set_option maxHeartbeats 64000000 in
theorem small8 (w : World) (HT : Hid (TabZ w)) : Calls Tryz.prog 78 #[] w (BoolB true w) := by
  have BB : Hid (Below w.heap.size w w) := Below.refl _ _
  go_enter Tryz.func78, Tryz.ntmps78
  go_wp2_with fail
  refine (term_T 0 2 2 (by decide +kernel) w (by decide) (by decide) HT.out).mono ?_
  rintro e v1 ⟨⟨sa, Aa, na, ca, ta, Ba, ma, da⟩, rfl, hc1, hc2, hf, -, -, hb⟩
  have Fa := Lib.hid hf
  have Ea : Hid (na ≤ ca ∧ ma ≤ da) := ⟨hc1, hc2⟩
  clear hf hc1 hc2
  dsimp only
  replace HT := Lib.hid (HT.out.on hb)
  replace BB := Lib.hid (BB.out.trans (hb.mono BB.out.size))
  clear hb
  go_wp2_with fail
  refine (term_T 2 (-1) (-1) (by decide +kernel) v1 (by decide) (by decide) HT.out).mono ?_
  rintro e v2 ⟨⟨sb, Ab, nb, cb, tb, Bb, mb, db⟩, rfl, hc1, hc2, hf, -, -, hb⟩
  have Fb := Lib.hid hf
  have Eb : Hid (nb ≤ cb ∧ mb ≤ db) := ⟨hc1, hc2⟩
  clear hf hc1 hc2
  dsimp only
  replace HT := Lib.hid (HT.out.on hb)
  replace BB := Lib.hid (BB.out.trans (hb.mono BB.out.size))
  replace Fa := Lib.hid (Fg.past Fa.out hb)
  clear hb
  go_wp2_with fail
  obtain ⟨v3, hv3⟩ : ∃ v, v = v2.alloc (.cells #[.int .i64 0, .int .i64 sa, .slice Aa na ca, .int .i64 ta, .slice Ba ma da, .int .i64 2, .int .i64 sb, .slice Ab nb cb, .int .i64 tb, .slice Bb mb db] 142) := ⟨_, rfl⟩
  rw [← hv3]
  have Kl : Hid (Blk v3 v2.heap.size 142 #[.int .i64 0, .int .i64 sa, .slice Aa na ca, .int .i64 ta, .slice Ba ma da, .int .i64 2, .int .i64 sb, .slice Ab nb cb, .int .i64 tb, .slice Bb mb db]) := by show Blk _ _ _ _; rw [hv3]; exact Blk.new _ _ _
  have hb3 : Below v2.heap.size v2 v3 := by rw [hv3]; exact bal (Below.refl _ _)
  replace HT := Lib.hid (HT.out.on hb3)
  replace BB := Lib.hid (BB.out.trans (hb3.mono BB.out.size))
  replace Fa := Lib.hid (Fg.past Fa.out hb3)
  replace Fb := Lib.hid (Fg.past Fb.out hb3)
  obtain ⟨gl, hg3⟩ : ∃ g, g = v2.heap.size := ⟨_, rfl⟩
  rw [← hg3] at Kl ⊢
  clear hv3 hb3 hg3
  have Tl : Hid (Ts 4 v3 (some ⟨gl, 0, none⟩) 2 (up [(0, (2 : Rat)), (2, (-1 : Rat))])) := ts_two ⟨sa, Aa, na, ca, ta, Ba, ma, da⟩ ⟨sb, Ab, nb, cb, tb, Bb, mb, db⟩ Kl.out Fa.out Ea.out.1 Ea.out.2 Fb.out Eb.out.1 Eb.out.2
  clear Fa Fb
  clear Kl Ea Eb
  refine (lof8 1 1 v3 (by decide) (by decide) (by decide) (by decide) (by decide) HT.out).mono ?_
  rintro e v4 ⟨⟨se, Ae, ne, ce, te, Be, me, de⟩, rfl, hc1, hc2, hf, -, -, hb⟩
  have Fe : Hid (Fg v4 4 (1) ⟨se, Ae, ne, ce, te, Be, me, de⟩) := by show Fg _ _ _ _; rw [show ((1 : Rat)) = ratio 1 1 from by decide +kernel]; exact hf
  have Ee : Hid (ne ≤ ce ∧ me ≤ de) := ⟨hc1, hc2⟩
  clear hf hc1 hc2
  dsimp only [frV]
  replace HT := Lib.hid (HT.out.on hb)
  replace BB := Lib.hid (BB.out.trans (hb.mono BB.out.size))
  replace Tl := Lib.hid (Tl.out.past (TmEl.keeps _) hb)
  clear hb
  go_wp2_with fail
  refine (term_T 1 1 1 (by decide +kernel) v4 (by decide) (by decide) HT.out).mono ?_
  rintro e v5 ⟨⟨sh, Ah, nh, ch, th, Bh, mh, dh⟩, rfl, hc1, hc2, hf, -, -, hb⟩
  have Fh := Lib.hid hf
  have Eh : Hid (nh ≤ ch ∧ mh ≤ dh) := ⟨hc1, hc2⟩
  clear hf hc1 hc2
  dsimp only
  replace HT := Lib.hid (HT.out.on hb)
  replace BB := Lib.hid (BB.out.trans (hb.mono BB.out.size))
  replace Tl := Lib.hid (Tl.out.past (TmEl.keeps _) hb)
  replace Fe := Lib.hid (Fg.past Fe.out hb)
  clear hb
  go_wp2_with fail
  obtain ⟨v6, hv6⟩ : ∃ v, v = v5.alloc (.cells #[.int .i64 1, .int .i64 sh, .slice Ah nh ch, .int .i64 th, .slice Bh mh dh] 142) := ⟨_, rfl⟩
  rw [← hv6]
  have Kq : Hid (Blk v6 v5.heap.size 142 #[.int .i64 1, .int .i64 sh, .slice Ah nh ch, .int .i64 th, .slice Bh mh dh]) := by show Blk _ _ _ _; rw [hv6]; exact Blk.new _ _ _
  have hb6 : Below v5.heap.size v5 v6 := by rw [hv6]; exact bal (Below.refl _ _)
  replace HT := Lib.hid (HT.out.on hb6)
  replace BB := Lib.hid (BB.out.trans (hb6.mono BB.out.size))
  replace Tl := Lib.hid (Tl.out.past (TmEl.keeps _) hb6)
  replace Fe := Lib.hid (Fg.past Fe.out hb6)
  replace Fh := Lib.hid (Fg.past Fh.out hb6)
  obtain ⟨gq, hg6⟩ : ∃ g, g = v5.heap.size := ⟨_, rfl⟩
  rw [← hg6] at Kq ⊢
  clear hv6 hb6 hg6
  have Tq : Hid (Ts 4 v6 (some ⟨gq, 0, none⟩) 1 (up [(1, (1 : Rat))])) := ts_one ⟨sh, Ah, nh, ch, th, Bh, mh, dh⟩ Kq.out Fh.out Eh.out.1 Eh.out.2
  clear Fh
  clear Kq Eh
  refine (lof8 3 1 v6 (by decide) (by decide) (by decide) (by decide) (by decide) HT.out).mono ?_
  rintro e v7 ⟨⟨si, Ai, ni, ci, ti, Bi, mi, di⟩, rfl, hc1, hc2, hf, -, -, hb⟩
  have Fi : Hid (Fg v7 4 (3) ⟨si, Ai, ni, ci, ti, Bi, mi, di⟩) := by show Fg _ _ _ _; rw [show ((3 : Rat)) = ratio 3 1 from by decide +kernel]; exact hf
  have Ei : Hid (ni ≤ ci ∧ mi ≤ di) := ⟨hc1, hc2⟩
  clear hf hc1 hc2
  dsimp only [frV]
  replace HT := Lib.hid (HT.out.on hb)
  replace BB := Lib.hid (BB.out.trans (hb.mono BB.out.size))
  replace Tl := Lib.hid (Tl.out.past (TmEl.keeps _) hb)
  replace Fe := Lib.hid (Fg.past Fe.out hb)
  replace Tq := Lib.hid (Tq.out.past (TmEl.keeps _) hb)
  clear hb
  go_wp2_with fail
  obtain ⟨v8, hv8⟩ : ∃ v, v = v7.alloc (.cells #[.slice (some ⟨gl, 0, none⟩) 2 2, .int .i64 0, .int .i64 se, .slice Ae ne ce, .int .i64 te, .slice Be me de, .slice (some ⟨gq, 0, none⟩) 1 1, .int .i64 2, .int .i64 si, .slice Ai ni ci, .int .i64 ti, .slice Bi mi di] 77) := ⟨_, rfl⟩
  rw [← hv8]
  have Kr : Hid (Blk v8 v7.heap.size 77 #[.slice (some ⟨gl, 0, none⟩) 2 2, .int .i64 0, .int .i64 se, .slice Ae ne ce, .int .i64 te, .slice Be me de, .slice (some ⟨gq, 0, none⟩) 1 1, .int .i64 2, .int .i64 si, .slice Ai ni ci, .int .i64 ti, .slice Bi mi di]) := by show Blk _ _ _ _; rw [hv8]; exact Blk.new _ _ _
  have hb8 : Below v7.heap.size v7 v8 := by rw [hv8]; exact bal (Below.refl _ _)
  replace HT := Lib.hid (HT.out.on hb8)
  replace BB := Lib.hid (BB.out.trans (hb8.mono BB.out.size))
  replace Tl := Lib.hid (Tl.out.past (TmEl.keeps _) hb8)
  replace Fe := Lib.hid (Fg.past Fe.out hb8)
  replace Tq := Lib.hid (Tq.out.past (TmEl.keeps _) hb8)
  replace Fi := Lib.hid (Fg.past Fi.out hb8)
  obtain ⟨gr, hg8⟩ : ∃ g, g = v7.heap.size := ⟨_, rfl⟩
  rw [← hg8] at Kr ⊢
  have hzr : v8.heap.size = gr + 1 := by rw [hv8, hg8]; simp
  clear hv8 hb8 hg8
  have Rr : Hid (Rs 4 v8 (some ⟨gr, 0, none⟩) 2 [⟨up [(0, (2 : Rat)), (2, (-1 : Rat))], 0, some (1 : Rat)⟩, ⟨up [(1, (1 : Rat))], 2, some (3 : Rat)⟩]) := rs_two ⟨se, Ae, ne, ce, te, Be, me, de⟩ ⟨si, Ai, ni, ci, ti, Bi, mi, di⟩ Kr.out Tl.out (by decide) Fe.out Ee.out.1 Ee.out.2 Tq.out (by decide) Fi.out Ei.out.1 Ei.out.2
  clear Fe Fi Tq
  clear Kr Ee Ei
  obtain ⟨v9, hv9⟩ : ∃ v, v = v8.alloc (.cells #[.int .i64 3, .slice (some ⟨gr, 0, none⟩) 2 2] 63) := ⟨_, rfl⟩
  rw [← hv9]
  have Ks : Hid (Blk v9 v8.heap.size 63 #[.int .i64 3, .slice (some ⟨gr, 0, none⟩) 2 2]) := by show Blk _ _ _ _; rw [hv9]; exact Blk.new _ _ _
  have hb9 : Below v8.heap.size v8 v9 := by rw [hv9]; exact bal (Below.refl _ _)
  replace HT := Lib.hid (HT.out.on hb9)
  replace BB := Lib.hid (BB.out.trans (hb9.mono BB.out.size))
  replace Tl := Lib.hid (Tl.out.past (TmEl.keeps _) hb9)
  replace Rr := Lib.hid (Rr.out.past (RwEl.keeps _) hb9)
  rw [hzr] at Ks
  obtain ⟨gs, hg9⟩ : ∃ g, g = gr + 1 := ⟨_, rfl⟩
  rw [← hg9] at Ks ⊢
  clear hv9 hb9 hg9 hzr
  refine (lof8 1 1 v9 (by decide) (by decide) (by decide) (by decide) (by decide) HT.out).mono ?_
  rintro e v10 ⟨⟨sa, Aa, na, ca, ta, Ba, ma, da⟩, rfl, hc1, hc2, hf, -, -, hb⟩
  have Fa : Hid (Fg v10 4 (1) ⟨sa, Aa, na, ca, ta, Ba, ma, da⟩) := by show Fg _ _ _ _; rw [show ((1 : Rat)) = ratio 1 1 from by decide +kernel]; exact hf
  have Ea : Hid (na ≤ ca ∧ ma ≤ da) := ⟨hc1, hc2⟩
  clear hf hc1 hc2
  dsimp only [frV]
  replace HT := Lib.hid (HT.out.on hb)
  replace BB := Lib.hid (BB.out.trans (hb.mono BB.out.size))
  replace Tl := Lib.hid (Tl.out.past (TmEl.keeps _) hb)
  replace Rr := Lib.hid (Rr.out.past (RwEl.keeps _) hb)
  replace Ks := Lib.hid (Ks.out.below hb Ks.out.lt)
  clear hb
  go_wp2_with fail
  refine (lof8 0 1 v10 (by decide) (by decide) (by decide) (by decide) (by decide) HT.out).mono ?_
  rintro e v11 ⟨⟨sb, Ab, nb, cb, tb, Bb, mb, db⟩, rfl, hc1, hc2, hf, -, -, hb⟩
  have Fb : Hid (Fg v11 4 (0) ⟨sb, Ab, nb, cb, tb, Bb, mb, db⟩) := by show Fg _ _ _ _; rw [show ((0 : Rat)) = ratio 0 1 from by decide +kernel]; exact hf
  have Eb : Hid (nb ≤ cb ∧ mb ≤ db) := ⟨hc1, hc2⟩
  clear hf hc1 hc2
  dsimp only [frV]
  replace HT := Lib.hid (HT.out.on hb)
  replace BB := Lib.hid (BB.out.trans (hb.mono BB.out.size))
  replace Tl := Lib.hid (Tl.out.past (TmEl.keeps _) hb)
  replace Rr := Lib.hid (Rr.out.past (RwEl.keeps _) hb)
  replace Ks := Lib.hid (Ks.out.below hb Ks.out.lt)
  replace Fa := Lib.hid (Fg.past Fa.out hb)
  clear hb
  go_wp2_with fail
  refine (lof8 1 2 v11 (by decide) (by decide) (by decide) (by decide) (by decide) HT.out).mono ?_
  rintro e v12 ⟨⟨se, Ae, ne, ce, te, Be, me, de⟩, rfl, hc1, hc2, hf, -, -, hb⟩
  have Fe : Hid (Fg v12 4 (1 / 2) ⟨se, Ae, ne, ce, te, Be, me, de⟩) := by show Fg _ _ _ _; rw [show ((1 / 2 : Rat)) = ratio 1 2 from by decide +kernel]; exact hf
  have Ee : Hid (ne ≤ ce ∧ me ≤ de) := ⟨hc1, hc2⟩
  clear hf hc1 hc2
  dsimp only [frV]
  replace HT := Lib.hid (HT.out.on hb)
  replace BB := Lib.hid (BB.out.trans (hb.mono BB.out.size))
  replace Tl := Lib.hid (Tl.out.past (TmEl.keeps _) hb)
  replace Rr := Lib.hid (Rr.out.past (RwEl.keeps _) hb)
  replace Ks := Lib.hid (Ks.out.below hb Ks.out.lt)
  replace Fa := Lib.hid (Fg.past Fa.out hb)
  replace Fb := Lib.hid (Fg.past Fb.out hb)
  clear hb
  go_wp2_with fail
  obtain ⟨v13, hv13⟩ : ∃ v, v = v12.alloc (.cells #[.int .i64 sa, .slice Aa na ca, .int .i64 ta, .slice Ba ma da, .int .i64 sb, .slice Ab nb cb, .int .i64 tb, .slice Bb mb db, .int .i64 se, .slice Ae ne ce, .int .i64 te, .slice Be me de] 43) := ⟨_, rfl⟩
  rw [← hv13]
  have Kx : Hid (Blk v13 v12.heap.size 43 #[.int .i64 sa, .slice Aa na ca, .int .i64 ta, .slice Ba ma da, .int .i64 sb, .slice Ab nb cb, .int .i64 tb, .slice Bb mb db, .int .i64 se, .slice Ae ne ce, .int .i64 te, .slice Be me de]) := by show Blk _ _ _ _; rw [hv13]; exact Blk.new _ _ _
  have hb13 : Below v12.heap.size v12 v13 := by rw [hv13]; exact bal (Below.refl _ _)
  replace HT := Lib.hid (HT.out.on hb13)
  replace BB := Lib.hid (BB.out.trans (hb13.mono BB.out.size))
  replace Tl := Lib.hid (Tl.out.past (TmEl.keeps _) hb13)
  replace Rr := Lib.hid (Rr.out.past (RwEl.keeps _) hb13)
  replace Ks := Lib.hid (Ks.out.below hb13 Ks.out.lt)
  replace Fa := Lib.hid (Fg.past Fa.out hb13)
  replace Fb := Lib.hid (Fg.past Fb.out hb13)
  replace Fe := Lib.hid (Fg.past Fe.out hb13)
  obtain ⟨gx, hg13⟩ : ∃ g, g = v12.heap.size := ⟨_, rfl⟩
  rw [← hg13] at Kx ⊢
  clear hv13 hb13 hg13
  have Xx : Hid (Xs 4 v13 (some ⟨gx, 0, none⟩) 3 [some (1 : Rat), some (0 : Rat), some (1 / 2 : Rat)]) := xs_three ⟨sa, Aa, na, ca, ta, Ba, ma, da⟩ ⟨sb, Ab, nb, cb, tb, Bb, mb, db⟩ ⟨se, Ae, ne, ce, te, Be, me, de⟩ Kx.out Fa.out Ea.out.1 Ea.out.2 Fb.out Eb.out.1 Eb.out.2 Fe.out Ee.out.1 Ee.out.2
  clear Fa Fb Fe
  clear Kx Ea Eb Ee
  refine (Value_yes (cx := 3) (c := 2) 1 (by decide) (by decide) Tl.out Xx.out HT.out (by decide) (by decide) (by decide) (by decide +kernel)).mono ?_
  rintro e v14 ⟨⟨sa, Aa, na, ca, ta, Ba, ma, da⟩, rfl, -, -, hf, -, -, hb⟩
  have Fa : Hid (Fg v14 (bnd 4 1) (3 / 2) ⟨sa, Aa, na, ca, ta, Ba, ma, da⟩) := by show Fg _ _ _ _; rw [show ((3 / 2 : Rat)) = valO [some (1 : Rat), some (0 : Rat), some (1 / 2 : Rat)] (up [(0, (2 : Rat)), (2, (-1 : Rat))]) from by decide +kernel]; exact hf
  clear hf
  dsimp only [frV]
  replace HT := Lib.hid (HT.out.on hb)
  replace BB := Lib.hid (BB.out.trans (hb.mono BB.out.size))
  replace Tl := Lib.hid (Tl.out.past (TmEl.keeps _) hb)
  replace Rr := Lib.hid (Rr.out.past (RwEl.keeps _) hb)
  replace Ks := Lib.hid (Ks.out.below hb Ks.out.lt)
  replace Xx := Lib.hid (Xx.out.past (FrEl.keeps _) hb)
  clear hb
  go_wp2_with fail
  clear Xx
  obtain ⟨v15, hv15⟩ : ∃ v, v = v14.alloc (.cells #[.int .i64 sa, .slice Aa na ca, .int .i64 ta, .slice Ba ma da] 43) := ⟨_, rfl⟩
  rw [← hv15]
  have Ky : Hid (Blk v15 v14.heap.size 43 #[.int .i64 sa, .slice Aa na ca, .int .i64 ta, .slice Ba ma da]) := by show Blk _ _ _ _; rw [hv15]; exact Blk.new _ _ _
  have hb15 : Below v14.heap.size v14 v15 := by rw [hv15]; exact bal (Below.refl _ _)
  replace HT := Lib.hid (HT.out.on hb15)
  replace BB := Lib.hid (BB.out.trans (hb15.mono BB.out.size))
  replace Tl := Lib.hid (Tl.out.past (TmEl.keeps _) hb15)
  replace Rr := Lib.hid (Rr.out.past (RwEl.keeps _) hb15)
  replace Ks := Lib.hid (Ks.out.below hb15 Ks.out.lt)
  replace Fa := Lib.hid (Fg.past Fa.out hb15)
  obtain ⟨gy, hg15⟩ : ∃ g, g = v14.heap.size := ⟨_, rfl⟩
  rw [← hg15] at Ky ⊢
  clear hv15 hb15 hg15
  refine (lof8 1 1 v15 (by decide) (by decide) (by decide) (by decide) (by decide) HT.out).mono ?_
  rintro e v16 ⟨⟨sb, Ab, nb, cb, tb, Bb, mb, db⟩, rfl, hc1, hc2, hf, -, -, hb⟩
  have Fb : Hid (Fg v16 4 (1) ⟨sb, Ab, nb, cb, tb, Bb, mb, db⟩) := by show Fg _ _ _ _; rw [show ((1 : Rat)) = ratio 1 1 from by decide +kernel]; exact hf
  have Eb : Hid (nb ≤ cb ∧ mb ≤ db) := ⟨hc1, hc2⟩
  clear hf hc1 hc2
  dsimp only [frV]
  replace HT := Lib.hid (HT.out.on hb)
  replace BB := Lib.hid (BB.out.trans (hb.mono BB.out.size))
  replace Tl := Lib.hid (Tl.out.past (TmEl.keeps _) hb)
  replace Rr := Lib.hid (Rr.out.past (RwEl.keeps _) hb)
  replace Ks := Lib.hid (Ks.out.below hb Ks.out.lt)
  replace Fa := Lib.hid (Fg.past Fa.out hb)
  replace Ky := Lib.hid (Ky.out.below hb Ky.out.lt)
  clear hb
  go_wp2_with fail
  refine (lof8 0 1 v16 (by decide) (by decide) (by decide) (by decide) (by decide) HT.out).mono ?_
  rintro e v17 ⟨⟨se, Ae, ne, ce, te, Be, me, de⟩, rfl, hc1, hc2, hf, -, -, hb⟩
  have Fe : Hid (Fg v17 4 (0) ⟨se, Ae, ne, ce, te, Be, me, de⟩) := by show Fg _ _ _ _; rw [show ((0 : Rat)) = ratio 0 1 from by decide +kernel]; exact hf
  have Ee : Hid (ne ≤ ce ∧ me ≤ de) := ⟨hc1, hc2⟩
  clear hf hc1 hc2
  dsimp only [frV]
  replace HT := Lib.hid (HT.out.on hb)
  replace BB := Lib.hid (BB.out.trans (hb.mono BB.out.size))
  replace Tl := Lib.hid (Tl.out.past (TmEl.keeps _) hb)
  replace Rr := Lib.hid (Rr.out.past (RwEl.keeps _) hb)
  replace Ks := Lib.hid (Ks.out.below hb Ks.out.lt)
  replace Fa := Lib.hid (Fg.past Fa.out hb)
  replace Ky := Lib.hid (Ky.out.below hb Ky.out.lt)
  replace Fb := Lib.hid (Fg.past Fb.out hb)
  clear hb
  go_wp2_with fail
  obtain ⟨v18, hv18⟩ : ∃ v, v = v17.alloc (.cells #[.int .i64 sb, .slice Ab nb cb, .int .i64 tb, .slice Bb mb db, .int .i64 se, .slice Ae ne ce, .int .i64 te, .slice Be me de] 43) := ⟨_, rfl⟩
  rw [← hv18]
  have Kx : Hid (Blk v18 v17.heap.size 43 #[.int .i64 sb, .slice Ab nb cb, .int .i64 tb, .slice Bb mb db, .int .i64 se, .slice Ae ne ce, .int .i64 te, .slice Be me de]) := by show Blk _ _ _ _; rw [hv18]; exact Blk.new _ _ _
  have hb18 : Below v17.heap.size v17 v18 := by rw [hv18]; exact bal (Below.refl _ _)
  replace HT := Lib.hid (HT.out.on hb18)
  replace BB := Lib.hid (BB.out.trans (hb18.mono BB.out.size))
  replace Tl := Lib.hid (Tl.out.past (TmEl.keeps _) hb18)
  replace Rr := Lib.hid (Rr.out.past (RwEl.keeps _) hb18)
  replace Ks := Lib.hid (Ks.out.below hb18 Ks.out.lt)
  replace Fa := Lib.hid (Fg.past Fa.out hb18)
  replace Ky := Lib.hid (Ky.out.below hb18 Ky.out.lt)
  replace Fb := Lib.hid (Fg.past Fb.out hb18)
  replace Fe := Lib.hid (Fg.past Fe.out hb18)
  obtain ⟨gx, hg18⟩ : ∃ g, g = v17.heap.size := ⟨_, rfl⟩
  rw [← hg18] at Kx ⊢
  clear hv18 hb18 hg18
  have Xx : Hid (Xs 4 v18 (some ⟨gx, 0, none⟩) 2 [some (1 : Rat), some (0 : Rat)]) := xs_two ⟨sb, Ab, nb, cb, tb, Bb, mb, db⟩ ⟨se, Ae, ne, ce, te, Be, me, de⟩ Kx.out Fb.out Eb.out.1 Eb.out.2 Fe.out Ee.out.1 Ee.out.2
  clear Fb Fe
  clear Kx Eb Ee
  refine (Value_no (cx := 2) (c := 2) (by decide) Tl.out Xx.out HT.out (by decide) (by decide) (by decide +kernel)).mono ?_
  rintro e v19 ⟨rfl, hb⟩
  replace HT := Lib.hid (HT.out.on hb)
  replace BB := Lib.hid (BB.out.trans (hb.mono BB.out.size))
  replace Tl := Lib.hid (Tl.out.past (TmEl.keeps _) hb)
  replace Rr := Lib.hid (Rr.out.past (RwEl.keeps _) hb)
  replace Ks := Lib.hid (Ks.out.below hb Ks.out.lt)
  replace Fa := Lib.hid (Fg.past Fa.out hb)
  replace Ky := Lib.hid (Ky.out.below hb Ky.out.lt)
  replace Xx := Lib.hid (Xx.out.past (FrEl.keeps _) hb)
  clear hb
  go_wp2_with fail
  clear Xx
  obtain ⟨v20, hv20⟩ : ∃ v, v = v19.alloc (.cells #[.int .i64 0, .slice none 0 0, .int .i64 0, .slice none 0 0] 43) := ⟨_, rfl⟩
  rw [← hv20]
  have Kz : Hid (Blk v20 v19.heap.size 43 #[.int .i64 0, .slice none 0 0, .int .i64 0, .slice none 0 0]) := by show Blk _ _ _ _; rw [hv20]; exact Blk.new _ _ _
  have hb20 : Below v19.heap.size v19 v20 := by rw [hv20]; exact bal (Below.refl _ _)
  replace HT := Lib.hid (HT.out.on hb20)
  replace BB := Lib.hid (BB.out.trans (hb20.mono BB.out.size))
  replace Tl := Lib.hid (Tl.out.past (TmEl.keeps _) hb20)
  replace Rr := Lib.hid (Rr.out.past (RwEl.keeps _) hb20)
  replace Ks := Lib.hid (Ks.out.below hb20 Ks.out.lt)
  replace Fa := Lib.hid (Fg.past Fa.out hb20)
  replace Ky := Lib.hid (Ky.out.below hb20 Ky.out.lt)
  obtain ⟨gz, hg20⟩ : ∃ g, g = v19.heap.size := ⟨_, rfl⟩
  rw [← hg20] at Kz ⊢
  clear hv20 hb20 hg20
  clear Kz
  have HS : Hid (∀ w', Below v20.heap.size v20 w' → w'.cell? ⟨gs, 0, none⟩ = some (.int .i64 3) ∧ w'.cell? ⟨gs, 1, none⟩ = some (.slice (some ⟨gr, 0, none⟩) 2 2) ∧ w'.cell? ⟨gy, 0, none⟩ = some (.int .i64 sa) ∧ w'.cell? ⟨gy, 1, none⟩ = some (.slice Aa na ca) ∧ w'.cell? ⟨gy, 2, none⟩ = some (.int .i64 ta) ∧ w'.cell? ⟨gy, 3, none⟩ = some (.slice Ba ma da)) := fun w' hb => ⟨cell_on hb (Ks.out.cell 0), cell_on hb (Ks.out.cell 1), cell_on hb (Ky.out.cell 0), cell_on hb (Ky.out.cell 1), cell_on hb (Ky.out.cell 2), cell_on hb (Ky.out.cell 3)⟩
  have C1 := Lib.hid (fun W (hb : Below v20.heap.size v20 W) => RT_any 2 3 W (Lib.hid (Tl.out.past (TmEl.keeps _) hb)) (Lib.hid (HT.out.on hb)) (by decide) (by decide) (b := true) (by decide +kernel))
  have C2 := Lib.hid (fun W (hb : Below v20.heap.size v20 W) => RT_any 2 2 W (Lib.hid (Tl.out.past (TmEl.keeps _) hb)) (Lib.hid (HT.out.on hb)) (by decide) (by decide) (b := false) (by decide +kernel))
  have hsr : sysR 3 [⟨up [(0, (2 : Rat)), (2, (-1 : Rat))], 0, some (1 : Rat)⟩, ⟨up [(1, (1 : Rat))], 2, some (3 : Rat)⟩] = true := by decide +kernel
  have C3 := Lib.hid (fun W (hb : Below v20.heap.size v20 W) => Right_sys (c := 2) 3 (Rr.out.past (RwEl.keeps _) hb) (HT.out.on hb) (by decide) (by decide))
  rw [hsr] at C3
  have C4 := Lib.hid (fun W (hb : Below v20.heap.size v20 W) => lof8 3 2 W (by decide) (by decide) (by decide) (by decide) (by decide) (HT.out.on hb))
  rw [show ratio 3 2 = 3 / 2 from by decide +kernel] at C4
  have HFy : Hid (∀ W, Below v20.heap.size v20 W → Fg W (bnd 4 1) (3 / 2) ⟨sa, Aa, na, ca, ta, Ba, ma, da⟩) := fun W hb => Fg.past Fa.out hb
  go_region_held3 (fun w' => w'.cell? ⟨gs, 0, none⟩ = some (.int .i64 3) ∧ w'.cell? ⟨gs, 1, none⟩ = some (.slice (some ⟨gr, 0, none⟩) 2 2) ∧ w'.cell? ⟨gy, 0, none⟩ = some (.int .i64 sa) ∧ w'.cell? ⟨gy, 1, none⟩ = some (.slice Aa na ca) ∧ w'.cell? ⟨gy, 2, none⟩ = some (.int .i64 ta) ∧ w'.cell? ⟨gy, 3, none⟩ = some (.slice Ba ma da))
    (first | exact HS.out _ (bdr v20) | exact HS.out _ X1.out | exact HS.out _ X2.out | exact HS.out _ X3.out | exact HS.out _ X4.out | exact HS.out _ X5.out)
    (first | (go_at_call 84; first | ((with_reducible refine (C1.out _ (bdr v20)).mono ?_); rintro e y1 ⟨rfl, hb⟩; have X1 := Lib.hid ((bdr v20).trans hb); clear hb) | ((with_reducible refine (C2.out _ X1.out).mono ?_); rintro e y2 ⟨rfl, hb⟩; have X2 := Lib.hid (X1.out.trans (hb.mono X1.out.size)); clear hb)) | (go_at_call 86; refine (C3.out _ X2.out).mono ?_; rintro e y3 ⟨rfl, hb⟩; have X3 := Lib.hid (X2.out.trans (hb.mono X2.out.size)); clear hb) | (go_at_call 165; refine (C4.out _ X3.out).mono ?_; rintro e y4 ⟨⟨sz, Az, nz, cz, tz, Bz, mz, dz⟩, rfl, -, -, hf, -, -, hb⟩; have X4 := Lib.hid (X3.out.trans (hb.mono X3.out.size)); have Fz := Lib.hid hf; clear hf hb; dsimp only [frV]) | (go_at_call 62; refine (same_R ⟨sa, Aa, na, ca, ta, Ba, ma, da⟩ ⟨sz, Az, nz, cz, tz, Bz, mz, dz⟩ (HFy.out _ X4.out) (Fz.out.more (by decide)) (by decide) (o := true) (decide_eq_true rfl)).mono ?_; rintro e y5 ⟨rfl, hb⟩; have X5 := Lib.hid (X4.out.trans (hb.mono X4.out.size)); clear hb))
  clear C1 C2 C3 C4 HFy HS X1 X2 X3 X4
  have hb := X5.out
  clear Ky Fa
  replace HT := Lib.hid (HT.out.on hb)
  replace BB := Lib.hid (BB.out.trans (hb.mono BB.out.size))
  replace Tl := Lib.hid (Tl.out.past (TmEl.keeps _) hb)
  replace Rr := Lib.hid (Rr.out.past (RwEl.keeps _) hb)
  replace Ks := Lib.hid (Ks.out.below hb Ks.out.lt)
  clear hb X5 hsr
  go_wp2_with fail
  have HS : Hid (∀ w', Below y5.heap.size y5 w' → w'.cell? ⟨gs, 0, none⟩ = some (.int .i64 3) ∧ w'.cell? ⟨gs, 1, none⟩ = some (.slice (some ⟨gr, 0, none⟩) 2 2)) := fun w' hb => ⟨cell_on hb (Ks.out.cell 0), cell_on hb (Ks.out.cell 1)⟩
  have HTy : Hid (∀ W, Below y5.heap.size y5 W → TabZ W) := fun W hb => HT.out.on hb
  have HRy : Hid (∀ W, Below y5.heap.size y5 W → Rs 4 W (some ⟨gr, 0, none⟩) 2 [⟨up [(0, (2 : Rat)), (2, (-1 : Rat))], 0, some (1 : Rat)⟩, ⟨up [(1, (1 : Rat))], 2, some (3 : Rat)⟩]) := fun W hb => Rr.out.past (RwEl.keeps _) hb
  go_region_held3 (fun w' => w'.cell? ⟨gs, 0, none⟩ = some (.int .i64 3) ∧ w'.cell? ⟨gs, 1, none⟩ = some (.slice (some ⟨gr, 0, none⟩) 2 2))
    (first | exact HS.out _ (bdr y5) | exact HS.out _ Z1.out | exact HS.out _ Z2.out | exact HS.out _ Z3.out | exact HS.out _ (Z3.out.alloc Z3.out.size _) | exact HS.out _ Z4.out | exact HS.out _ Z5.out | exact HS.out _ Z6.out | exact HS.out _ Z7.out | exact HS.out _ (Z7.out.alloc Z7.out.size _) | exact HS.out _ Z8.out | exact HS.out _ Z9.out | exact HS.out _ Z10.out | exact HS.out _ Z11.out | exact HS.out _ (Z11.out.alloc Z11.out.size _) | exact HS.out _ Z12.out)
    (first | (go_at_call 165; first | ((with_reducible refine (lof8 (-1) 1 _ (by decide) (by decide) (by decide) (by decide) (by decide) (HTy.out _ (Z10.out))).mono ?_); rintro e z11 ⟨⟨sp11, Ap11, np11, cp11, tp11, Bp11, mp11, dp11⟩, rfl, hc1, hc2, hf, -, -, hb⟩; have Z11 := Lib.hid ((Z10.out).trans (hb.mono (Z10.out).size)); have Fp11 : Hid (Fg z11 4 (-1 : Rat) ⟨sp11, Ap11, np11, cp11, tp11, Bp11, mp11, dp11⟩) := (by show Fg _ _ _ _; rw [show (-1 : Rat) = ratio (-1) 1 from by decide +kernel]; exact hf); have Ep11 : Hid (np11 ≤ cp11 ∧ mp11 ≤ dp11) := ⟨hc1, hc2⟩; replace Fp9 := Lib.hid (Fg.past Fp9.out hb); replace Fp10 := Lib.hid (Fg.past Fp10.out hb); clear hf hc1 hc2 hb; dsimp only [frV]) | ((with_reducible refine (lof8 3 1 _ (by decide) (by decide) (by decide) (by decide) (by decide) (HTy.out _ (Z9.out))).mono ?_); rintro e z10 ⟨⟨sp10, Ap10, np10, cp10, tp10, Bp10, mp10, dp10⟩, rfl, hc1, hc2, hf, -, -, hb⟩; have Z10 := Lib.hid ((Z9.out).trans (hb.mono (Z9.out).size)); have Fp10 : Hid (Fg z10 4 (3 : Rat) ⟨sp10, Ap10, np10, cp10, tp10, Bp10, mp10, dp10⟩) := (by show Fg _ _ _ _; rw [show (3 : Rat) = ratio 3 1 from by decide +kernel]; exact hf); have Ep10 : Hid (np10 ≤ cp10 ∧ mp10 ≤ dp10) := ⟨hc1, hc2⟩; replace Fp9 := Lib.hid (Fg.past Fp9.out hb); clear hf hc1 hc2 hb; dsimp only [frV]) | ((with_reducible refine (lof8 0 1 _ (by decide) (by decide) (by decide) (by decide) (by decide) (HTy.out _ (Z8.out))).mono ?_); rintro e z9 ⟨⟨sp9, Ap9, np9, cp9, tp9, Bp9, mp9, dp9⟩, rfl, hc1, hc2, hf, -, -, hb⟩; have Z9 := Lib.hid ((Z8.out).trans (hb.mono (Z8.out).size)); have Fp9 : Hid (Fg z9 4 (0 : Rat) ⟨sp9, Ap9, np9, cp9, tp9, Bp9, mp9, dp9⟩) := (by show Fg _ _ _ _; rw [show (0 : Rat) = ratio 0 1 from by decide +kernel]; exact hf); have Ep9 : Hid (np9 ≤ cp9 ∧ mp9 ≤ dp9) := ⟨hc1, hc2⟩; skip; clear hf hc1 hc2 hb; dsimp only [frV]) | ((with_reducible refine (lof8 2 1 _ (by decide) (by decide) (by decide) (by decide) (by decide) (HTy.out _ (Z6.out))).mono ?_); rintro e z7 ⟨⟨sp7, Ap7, np7, cp7, tp7, Bp7, mp7, dp7⟩, rfl, hc1, hc2, hf, -, -, hb⟩; have Z7 := Lib.hid ((Z6.out).trans (hb.mono (Z6.out).size)); have Fp7 : Hid (Fg z7 4 (2 : Rat) ⟨sp7, Ap7, np7, cp7, tp7, Bp7, mp7, dp7⟩) := (by show Fg _ _ _ _; rw [show (2 : Rat) = ratio 2 1 from by decide +kernel]; exact hf); have Ep7 : Hid (np7 ≤ cp7 ∧ mp7 ≤ dp7) := ⟨hc1, hc2⟩; replace Fp5 := Lib.hid (Fg.past Fp5.out hb); replace Fp6 := Lib.hid (Fg.past Fp6.out hb); clear hf hc1 hc2 hb; dsimp only [frV]) | ((with_reducible refine (lof8 3 1 _ (by decide) (by decide) (by decide) (by decide) (by decide) (HTy.out _ (Z5.out))).mono ?_); rintro e z6 ⟨⟨sp6, Ap6, np6, cp6, tp6, Bp6, mp6, dp6⟩, rfl, hc1, hc2, hf, -, -, hb⟩; have Z6 := Lib.hid ((Z5.out).trans (hb.mono (Z5.out).size)); have Fp6 : Hid (Fg z6 4 (3 : Rat) ⟨sp6, Ap6, np6, cp6, tp6, Bp6, mp6, dp6⟩) := (by show Fg _ _ _ _; rw [show (3 : Rat) = ratio 3 1 from by decide +kernel]; exact hf); have Ep6 : Hid (np6 ≤ cp6 ∧ mp6 ≤ dp6) := ⟨hc1, hc2⟩; replace Fp5 := Lib.hid (Fg.past Fp5.out hb); clear hf hc1 hc2 hb; dsimp only [frV]) | ((with_reducible refine (lof8 1 1 _ (by decide) (by decide) (by decide) (by decide) (by decide) (HTy.out _ (Z4.out))).mono ?_); rintro e z5 ⟨⟨sp5, Ap5, np5, cp5, tp5, Bp5, mp5, dp5⟩, rfl, hc1, hc2, hf, -, -, hb⟩; have Z5 := Lib.hid ((Z4.out).trans (hb.mono (Z4.out).size)); have Fp5 : Hid (Fg z5 4 (1 : Rat) ⟨sp5, Ap5, np5, cp5, tp5, Bp5, mp5, dp5⟩) := (by show Fg _ _ _ _; rw [show (1 : Rat) = ratio 1 1 from by decide +kernel]; exact hf); have Ep5 : Hid (np5 ≤ cp5 ∧ mp5 ≤ dp5) := ⟨hc1, hc2⟩; skip; clear hf hc1 hc2 hb; dsimp only [frV]) | ((with_reducible refine (lof8 1 1 _ (by decide) (by decide) (by decide) (by decide) (by decide) (HTy.out _ (Z2.out))).mono ?_); rintro e z3 ⟨⟨sp3, Ap3, np3, cp3, tp3, Bp3, mp3, dp3⟩, rfl, hc1, hc2, hf, -, -, hb⟩; have Z3 := Lib.hid ((Z2.out).trans (hb.mono (Z2.out).size)); have Fp3 : Hid (Fg z3 4 (1 : Rat) ⟨sp3, Ap3, np3, cp3, tp3, Bp3, mp3, dp3⟩) := (by show Fg _ _ _ _; rw [show (1 : Rat) = ratio 1 1 from by decide +kernel]; exact hf); have Ep3 : Hid (np3 ≤ cp3 ∧ mp3 ≤ dp3) := ⟨hc1, hc2⟩; replace Fp1 := Lib.hid (Fg.past Fp1.out hb); replace Fp2 := Lib.hid (Fg.past Fp2.out hb); clear hf hc1 hc2 hb; dsimp only [frV]) | ((with_reducible refine (lof8 3 1 _ (by decide) (by decide) (by decide) (by decide) (by decide) (HTy.out _ (Z1.out))).mono ?_); rintro e z2 ⟨⟨sp2, Ap2, np2, cp2, tp2, Bp2, mp2, dp2⟩, rfl, hc1, hc2, hf, -, -, hb⟩; have Z2 := Lib.hid ((Z1.out).trans (hb.mono (Z1.out).size)); have Fp2 : Hid (Fg z2 4 (3 : Rat) ⟨sp2, Ap2, np2, cp2, tp2, Bp2, mp2, dp2⟩) := (by show Fg _ _ _ _; rw [show (3 : Rat) = ratio 3 1 from by decide +kernel]; exact hf); have Ep2 : Hid (np2 ≤ cp2 ∧ mp2 ≤ dp2) := ⟨hc1, hc2⟩; replace Fp1 := Lib.hid (Fg.past Fp1.out hb); clear hf hc1 hc2 hb; dsimp only [frV]) | ((with_reducible refine (lof8 1 1 _ (by decide) (by decide) (by decide) (by decide) (by decide) (HTy.out _ (bdr y5))).mono ?_); rintro e z1 ⟨⟨sp1, Ap1, np1, cp1, tp1, Bp1, mp1, dp1⟩, rfl, hc1, hc2, hf, -, -, hb⟩; have Z1 := Lib.hid ((bdr y5).trans (hb.mono (bdr y5).size)); have Fp1 : Hid (Fg z1 4 (1 : Rat) ⟨sp1, Ap1, np1, cp1, tp1, Bp1, mp1, dp1⟩) := (by show Fg _ _ _ _; rw [show (1 : Rat) = ratio 1 1 from by decide +kernel]; exact hf); have Ep1 : Hid (np1 ≤ cp1 ∧ mp1 ≤ dp1) := ⟨hc1, hc2⟩; skip; clear hf hc1 hc2 hb; dsimp only [frV])) | (go_at_call 88; first | (have hx := xs_three ⟨sp9, Ap9, np9, cp9, tp9, Bp9, mp9, dp9⟩ ⟨sp10, Ap10, np10, cp10, tp10, Bp10, mp10, dp10⟩ ⟨sp11, Ap11, np11, cp11, tp11, Bp11, mp11, dp11⟩ (Blk.new z11 43 #[.int .i64 sp9, .slice Ap9 np9 cp9, .int .i64 tp9, .slice Bp9 mp9 dp9, .int .i64 sp10, .slice Ap10 np10 cp10, .int .i64 tp10, .slice Bp10 mp10 dp10, .int .i64 sp11, .slice Ap11 np11 cp11, .int .i64 tp11, .slice Bp11 mp11 dp11]) (Fg.past Fp9.out (bal (Below.refl _ _))) Ep9.out.1 Ep9.out.2 (Fg.past Fp10.out (bal (Below.refl _ _))) Ep10.out.1 Ep10.out.2 (Fg.past Fp11.out (bal (Below.refl _ _))) Ep11.out.1 Ep11.out.2; refine (Holds_is (c := 2) (cx := 3) 3 (HRy.out _ (Z11.out.alloc Z11.out.size _)) hx (HTy.out _ (Z11.out.alloc Z11.out.size _)) (by decide) (by decide) (by decide) (b := false) (by decide +kernel)).mono ?_; rintro e z12 ⟨rfl, hb⟩; have Z12 := Lib.hid ((Z11.out.alloc Z11.out.size (.cells #[.int .i64 sp9, .slice Ap9 np9 cp9, .int .i64 tp9, .slice Bp9 mp9 dp9, .int .i64 sp10, .slice Ap10 np10 cp10, .int .i64 tp10, .slice Bp10 mp10 dp10, .int .i64 sp11, .slice Ap11 np11 cp11, .int .i64 tp11, .slice Bp11 mp11 dp11] 43)).trans (hb.mono (Z11.out.alloc Z11.out.size (.cells #[.int .i64 sp9, .slice Ap9 np9 cp9, .int .i64 tp9, .slice Bp9 mp9 dp9, .int .i64 sp10, .slice Ap10 np10 cp10, .int .i64 tp10, .slice Bp10 mp10 dp10, .int .i64 sp11, .slice Ap11 np11 cp11, .int .i64 tp11, .slice Bp11 mp11 dp11] 43)).size)); clear hx hb) | (have hx := xs_three ⟨sp5, Ap5, np5, cp5, tp5, Bp5, mp5, dp5⟩ ⟨sp6, Ap6, np6, cp6, tp6, Bp6, mp6, dp6⟩ ⟨sp7, Ap7, np7, cp7, tp7, Bp7, mp7, dp7⟩ (Blk.new z7 43 #[.int .i64 sp5, .slice Ap5 np5 cp5, .int .i64 tp5, .slice Bp5 mp5 dp5, .int .i64 sp6, .slice Ap6 np6 cp6, .int .i64 tp6, .slice Bp6 mp6 dp6, .int .i64 sp7, .slice Ap7 np7 cp7, .int .i64 tp7, .slice Bp7 mp7 dp7]) (Fg.past Fp5.out (bal (Below.refl _ _))) Ep5.out.1 Ep5.out.2 (Fg.past Fp6.out (bal (Below.refl _ _))) Ep6.out.1 Ep6.out.2 (Fg.past Fp7.out (bal (Below.refl _ _))) Ep7.out.1 Ep7.out.2; refine (Holds_is (c := 2) (cx := 3) 3 (HRy.out _ (Z7.out.alloc Z7.out.size _)) hx (HTy.out _ (Z7.out.alloc Z7.out.size _)) (by decide) (by decide) (by decide) (b := false) (by decide +kernel)).mono ?_; rintro e z8 ⟨rfl, hb⟩; have Z8 := Lib.hid ((Z7.out.alloc Z7.out.size (.cells #[.int .i64 sp5, .slice Ap5 np5 cp5, .int .i64 tp5, .slice Bp5 mp5 dp5, .int .i64 sp6, .slice Ap6 np6 cp6, .int .i64 tp6, .slice Bp6 mp6 dp6, .int .i64 sp7, .slice Ap7 np7 cp7, .int .i64 tp7, .slice Bp7 mp7 dp7] 43)).trans (hb.mono (Z7.out.alloc Z7.out.size (.cells #[.int .i64 sp5, .slice Ap5 np5 cp5, .int .i64 tp5, .slice Bp5 mp5 dp5, .int .i64 sp6, .slice Ap6 np6 cp6, .int .i64 tp6, .slice Bp6 mp6 dp6, .int .i64 sp7, .slice Ap7 np7 cp7, .int .i64 tp7, .slice Bp7 mp7 dp7] 43)).size)); clear hx hb) | (have hx := xs_three ⟨sp1, Ap1, np1, cp1, tp1, Bp1, mp1, dp1⟩ ⟨sp2, Ap2, np2, cp2, tp2, Bp2, mp2, dp2⟩ ⟨sp3, Ap3, np3, cp3, tp3, Bp3, mp3, dp3⟩ (Blk.new z3 43 #[.int .i64 sp1, .slice Ap1 np1 cp1, .int .i64 tp1, .slice Bp1 mp1 dp1, .int .i64 sp2, .slice Ap2 np2 cp2, .int .i64 tp2, .slice Bp2 mp2 dp2, .int .i64 sp3, .slice Ap3 np3 cp3, .int .i64 tp3, .slice Bp3 mp3 dp3]) (Fg.past Fp1.out (bal (Below.refl _ _))) Ep1.out.1 Ep1.out.2 (Fg.past Fp2.out (bal (Below.refl _ _))) Ep2.out.1 Ep2.out.2 (Fg.past Fp3.out (bal (Below.refl _ _))) Ep3.out.1 Ep3.out.2; refine (Holds_is (c := 2) (cx := 3) 3 (HRy.out _ (Z3.out.alloc Z3.out.size _)) hx (HTy.out _ (Z3.out.alloc Z3.out.size _)) (by decide) (by decide) (by decide) (b := true) (by decide +kernel)).mono ?_; rintro e z4 ⟨rfl, hb⟩; have Z4 := Lib.hid ((Z3.out.alloc Z3.out.size (.cells #[.int .i64 sp1, .slice Ap1 np1 cp1, .int .i64 tp1, .slice Bp1 mp1 dp1, .int .i64 sp2, .slice Ap2 np2 cp2, .int .i64 tp2, .slice Bp2 mp2 dp2, .int .i64 sp3, .slice Ap3 np3 cp3, .int .i64 tp3, .slice Bp3 mp3 dp3] 43)).trans (hb.mono (Z3.out.alloc Z3.out.size (.cells #[.int .i64 sp1, .slice Ap1 np1 cp1, .int .i64 tp1, .slice Bp1 mp1 dp1, .int .i64 sp2, .slice Ap2 np2 cp2, .int .i64 tp2, .slice Bp2 mp2 dp2, .int .i64 sp3, .slice Ap3 np3 cp3, .int .i64 tp3, .slice Bp3 mp3 dp3] 43)).size)); clear hx hb)))
  have hb := Z12.out
  clear Ks Rr
  replace HT := Lib.hid (HT.out.on hb)
  replace BB := Lib.hid (BB.out.trans (hb.mono BB.out.size))
  replace Tl := Lib.hid (Tl.out.past (TmEl.keeps _) hb)
  clear hb HS HTy HRy Z1 Z2 Z3 Z4 Z5 Z6 Z7 Z8 Z9 Z10 Z11 Z12
  go_wp2_with fail
  refine (term_T 2 1 1 (by decide +kernel) z12 (by decide) (by decide) HT.out).mono ?_
  rintro e v21 ⟨⟨sa, Aa, na, ca, ta, Ba, ma, da⟩, rfl, hc1, hc2, hf, -, -, hb⟩
  have Fa := Lib.hid hf
  have Ea : Hid (na ≤ ca ∧ ma ≤ da) := ⟨hc1, hc2⟩
  clear hf hc1 hc2
  dsimp only
  replace HT := Lib.hid (HT.out.on hb)
  replace BB := Lib.hid (BB.out.trans (hb.mono BB.out.size))
  replace Tl := Lib.hid (Tl.out.past (TmEl.keeps _) hb)
  clear hb
  go_wp2_with fail
  refine (term_T 5 1 1 (by decide +kernel) v21 (by decide) (by decide) HT.out).mono ?_
  rintro e v22 ⟨⟨sb, Ab, nb, cb, tb, Bb, mb, db⟩, rfl, hc1, hc2, hf, -, -, hb⟩
  have Fb := Lib.hid hf
  have Eb : Hid (nb ≤ cb ∧ mb ≤ db) := ⟨hc1, hc2⟩
  clear hf hc1 hc2
  dsimp only
  replace HT := Lib.hid (HT.out.on hb)
  replace BB := Lib.hid (BB.out.trans (hb.mono BB.out.size))
  replace Tl := Lib.hid (Tl.out.past (TmEl.keeps _) hb)
  replace Fa := Lib.hid (Fg.past Fa.out hb)
  clear hb
  go_wp2_with fail
  obtain ⟨v23, hv23⟩ : ∃ v, v = v22.alloc (.cells #[.int .i64 2, .int .i64 sa, .slice Aa na ca, .int .i64 ta, .slice Ba ma da, .int .i64 5, .int .i64 sb, .slice Ab nb cb, .int .i64 tb, .slice Bb mb db] 142) := ⟨_, rfl⟩
  rw [← hv23]
  have Kq : Hid (Blk v23 v22.heap.size 142 #[.int .i64 2, .int .i64 sa, .slice Aa na ca, .int .i64 ta, .slice Ba ma da, .int .i64 5, .int .i64 sb, .slice Ab nb cb, .int .i64 tb, .slice Bb mb db]) := by show Blk _ _ _ _; rw [hv23]; exact Blk.new _ _ _
  have hb23 : Below v22.heap.size v22 v23 := by rw [hv23]; exact bal (Below.refl _ _)
  replace HT := Lib.hid (HT.out.on hb23)
  replace BB := Lib.hid (BB.out.trans (hb23.mono BB.out.size))
  replace Tl := Lib.hid (Tl.out.past (TmEl.keeps _) hb23)
  replace Fa := Lib.hid (Fg.past Fa.out hb23)
  replace Fb := Lib.hid (Fg.past Fb.out hb23)
  obtain ⟨gq, hg23⟩ : ∃ g, g = v22.heap.size := ⟨_, rfl⟩
  rw [← hg23] at Kq ⊢
  clear hv23 hb23 hg23
  have Tq : Hid (Ts 4 v23 (some ⟨gq, 0, none⟩) 2 (up [(2, (1 : Rat)), (5, (1 : Rat))])) := ts_two ⟨sa, Aa, na, ca, ta, Ba, ma, da⟩ ⟨sb, Ab, nb, cb, tb, Bb, mb, db⟩ Kq.out Fa.out Ea.out.1 Ea.out.2 Fb.out Eb.out.1 Eb.out.2
  clear Fa Fb
  clear Kq Ea Eb
  refine (Plus_T 2 2 Tl.out Tq.out HT.out (by decide +kernel) (by decide +kernel) (by decide) (by decide) (by decide) (by decide) (by decide)).mono ?_
  rintro e v24 ⟨Ap, np, cp, rfl, -, hp, hb⟩
  rw [show plusT [(0, (2 : Rat)), (2, (-1 : Rat))] [(2, (1 : Rat)), (5, (1 : Rat))] = [(0, (2 : Rat)), (5, (1 : Rat))] from by simp [plusT]; decide +kernel] at hp
  have Tp := Lib.hid hp
  clear hp
  replace HT := Lib.hid (HT.out.on hb)
  replace BB := Lib.hid (BB.out.trans (hb.mono BB.out.size))
  replace Tl := Lib.hid (Tl.out.past (TmEl.keeps _) hb)
  replace Tq := Lib.hid (Tq.out.past (TmEl.keeps _) hb)
  clear hb
  clear Tq
  go_wp2_with fail
  refine (term_T 0 2 2 (by decide +kernel) v24 (by decide) (by decide) HT.out).mono ?_
  rintro e v25 ⟨⟨sa, Aa, na, ca, ta, Ba, ma, da⟩, rfl, hc1, hc2, hf, -, -, hb⟩
  have Fa := Lib.hid hf
  have Ea : Hid (na ≤ ca ∧ ma ≤ da) := ⟨hc1, hc2⟩
  clear hf hc1 hc2
  dsimp only
  replace HT := Lib.hid (HT.out.on hb)
  replace BB := Lib.hid (BB.out.trans (hb.mono BB.out.size))
  replace Tl := Lib.hid (Tl.out.past (TmEl.keeps _) hb)
  replace Tp := Lib.hid (Tp.out.past (TmEl.keeps _) hb)
  clear hb
  go_wp2_with fail
  refine (term_T 5 1 1 (by decide +kernel) v25 (by decide) (by decide) HT.out).mono ?_
  rintro e v26 ⟨⟨sb, Ab, nb, cb, tb, Bb, mb, db⟩, rfl, hc1, hc2, hf, -, -, hb⟩
  have Fb := Lib.hid hf
  have Eb : Hid (nb ≤ cb ∧ mb ≤ db) := ⟨hc1, hc2⟩
  clear hf hc1 hc2
  dsimp only
  replace HT := Lib.hid (HT.out.on hb)
  replace BB := Lib.hid (BB.out.trans (hb.mono BB.out.size))
  replace Tl := Lib.hid (Tl.out.past (TmEl.keeps _) hb)
  replace Tp := Lib.hid (Tp.out.past (TmEl.keeps _) hb)
  replace Fa := Lib.hid (Fg.past Fa.out hb)
  clear hb
  go_wp2_with fail
  obtain ⟨v27, hv27⟩ : ∃ v, v = v26.alloc (.cells #[.int .i64 0, .int .i64 sa, .slice Aa na ca, .int .i64 ta, .slice Ba ma da, .int .i64 5, .int .i64 sb, .slice Ab nb cb, .int .i64 tb, .slice Bb mb db] 142) := ⟨_, rfl⟩
  rw [← hv27]
  have Kq : Hid (Blk v27 v26.heap.size 142 #[.int .i64 0, .int .i64 sa, .slice Aa na ca, .int .i64 ta, .slice Ba ma da, .int .i64 5, .int .i64 sb, .slice Ab nb cb, .int .i64 tb, .slice Bb mb db]) := by show Blk _ _ _ _; rw [hv27]; exact Blk.new _ _ _
  have hb27 : Below v26.heap.size v26 v27 := by rw [hv27]; exact bal (Below.refl _ _)
  replace HT := Lib.hid (HT.out.on hb27)
  replace BB := Lib.hid (BB.out.trans (hb27.mono BB.out.size))
  replace Tl := Lib.hid (Tl.out.past (TmEl.keeps _) hb27)
  replace Tp := Lib.hid (Tp.out.past (TmEl.keeps _) hb27)
  replace Fa := Lib.hid (Fg.past Fa.out hb27)
  replace Fb := Lib.hid (Fg.past Fb.out hb27)
  obtain ⟨gq, hg27⟩ : ∃ g, g = v26.heap.size := ⟨_, rfl⟩
  rw [← hg27] at Kq ⊢
  clear hv27 hb27 hg27
  have Tq : Hid (Ts 9 v27 (some ⟨gq, 0, none⟩) 2 (up [(0, (2 : Rat)), (5, (1 : Rat))])) := ts_two ⟨sa, Aa, na, ca, ta, Ba, ma, da⟩ ⟨sb, Ab, nb, cb, tb, Bb, mb, db⟩ Kq.out (Fa.out.more (by decide)) Ea.out.1 Ea.out.2 (Fb.out.more (by decide)) Eb.out.1 Eb.out.2
  clear Fa Fb
  clear Kq Ea Eb
  have hnp : np ≤ 1000000 := by have := Tp.out.len; rw [up_len] at this; simp at this; omega
  refine (Same_is cp 2 Tp.out Tq.out (by decide) hnp (b := true) (decide_eq_true rfl)).mono ?_
  rintro e v28 ⟨rfl, hb⟩
  replace HT := Lib.hid (HT.out.on hb)
  replace BB := Lib.hid (BB.out.trans (hb.mono BB.out.size))
  replace Tl := Lib.hid (Tl.out.past (TmEl.keeps _) hb)
  replace Tp := Lib.hid (Tp.out.past (TmEl.keeps _) hb)
  replace Tq := Lib.hid (Tq.out.past (TmEl.keeps _) hb)
  clear hb
  clear Tp Tq
  go_wp2_with fail
  refine (lof8 0 1 v28 (by decide) (by decide) (by decide) (by decide) (by decide) HT.out).mono ?_
  rintro e v29 ⟨⟨sa, Aa, na, ca, ta, Ba, ma, da⟩, rfl, hc1, hc2, hf, -, -, hb⟩
  have Fa : Hid (Fg v29 4 (0) ⟨sa, Aa, na, ca, ta, Ba, ma, da⟩) := by show Fg _ _ _ _; rw [show ((0 : Rat)) = ratio 0 1 from by decide +kernel]; exact hf
  have Ea : Hid (na ≤ ca ∧ ma ≤ da) := ⟨hc1, hc2⟩
  clear hf hc1 hc2
  dsimp only [frV]
  replace HT := Lib.hid (HT.out.on hb)
  replace BB := Lib.hid (BB.out.trans (hb.mono BB.out.size))
  replace Tl := Lib.hid (Tl.out.past (TmEl.keeps _) hb)
  clear hb
  go_wp2_with fail
  refine (Times_T 2 ⟨sa, Aa, na, ca, ta, Ba, ma, da⟩ Tl.out Fa.out HT.out (by decide +kernel) (by decide) (by decide)).mono ?_
  rintro e v30 ⟨Ap2, np2, cp2, rfl, -, hp, hb⟩
  rw [times_zero] at hp
  have hn2 : np2 = 0 := hp.len.symm
  clear hp
  subst hn2
  replace HT := Lib.hid (HT.out.on hb)
  replace BB := Lib.hid (BB.out.trans (hb.mono BB.out.size))
  replace Tl := Lib.hid (Tl.out.past (TmEl.keeps _) hb)
  replace Fa := Lib.hid (Fg.past Fa.out hb)
  clear hb
  clear Fa
  go_wp2_with fail
  refine (lof8 (-1) 1 v30 (by decide) (by decide) (by decide) (by decide) (by decide) HT.out).mono ?_
  rintro e v31 ⟨⟨sa, Aa, na, ca, ta, Ba, ma, da⟩, rfl, hc1, hc2, hf, -, -, hb⟩
  have Fa : Hid (Fg v31 4 (-1) ⟨sa, Aa, na, ca, ta, Ba, ma, da⟩) := by show Fg _ _ _ _; rw [show ((-1 : Rat)) = ratio (-1) 1 from by decide +kernel]; exact hf
  have Ea : Hid (na ≤ ca ∧ ma ≤ da) := ⟨hc1, hc2⟩
  clear hf hc1 hc2
  dsimp only [frV]
  replace HT := Lib.hid (HT.out.on hb)
  replace BB := Lib.hid (BB.out.trans (hb.mono BB.out.size))
  replace Tl := Lib.hid (Tl.out.past (TmEl.keeps _) hb)
  clear hb
  go_wp2_with fail
  refine (Times_T 2 ⟨sa, Aa, na, ca, ta, Ba, ma, da⟩ Tl.out Fa.out HT.out (by decide +kernel) (by decide) (by decide)).mono ?_
  rintro e v32 ⟨Ap3, np3, cp3, rfl, -, hp, hb⟩
  rw [show timesT (-1 : Rat) [(0, (2 : Rat)), (2, (-1 : Rat))] = [(0, (-2 : Rat)), (2, (1 : Rat))] from by decide +kernel] at hp
  have Tp := Lib.hid hp
  clear hp
  replace HT := Lib.hid (HT.out.on hb)
  replace BB := Lib.hid (BB.out.trans (hb.mono BB.out.size))
  replace Tl := Lib.hid (Tl.out.past (TmEl.keeps _) hb)
  replace Fa := Lib.hid (Fg.past Fa.out hb)
  clear hb
  clear Fa Tl
  go_wp2_with fail
  refine (term_T 0 (-2) (-2) (by decide +kernel) v32 (by decide) (by decide) HT.out).mono ?_
  rintro e v33 ⟨⟨sa, Aa, na, ca, ta, Ba, ma, da⟩, rfl, hc1, hc2, hf, -, -, hb⟩
  have Fa := Lib.hid hf
  have Ea : Hid (na ≤ ca ∧ ma ≤ da) := ⟨hc1, hc2⟩
  clear hf hc1 hc2
  dsimp only
  replace HT := Lib.hid (HT.out.on hb)
  replace BB := Lib.hid (BB.out.trans (hb.mono BB.out.size))
  replace Tp := Lib.hid (Tp.out.past (TmEl.keeps _) hb)
  clear hb
  go_wp2_with fail
  refine (term_T 2 1 1 (by decide +kernel) v33 (by decide) (by decide) HT.out).mono ?_
  rintro e v34 ⟨⟨sb, Ab, nb, cb, tb, Bb, mb, db⟩, rfl, hc1, hc2, hf, -, -, hb⟩
  have Fb := Lib.hid hf
  have Eb : Hid (nb ≤ cb ∧ mb ≤ db) := ⟨hc1, hc2⟩
  clear hf hc1 hc2
  dsimp only
  replace HT := Lib.hid (HT.out.on hb)
  replace BB := Lib.hid (BB.out.trans (hb.mono BB.out.size))
  replace Tp := Lib.hid (Tp.out.past (TmEl.keeps _) hb)
  replace Fa := Lib.hid (Fg.past Fa.out hb)
  clear hb
  go_wp2_with fail
  obtain ⟨v35, hv35⟩ : ∃ v, v = v34.alloc (.cells #[.int .i64 0, .int .i64 sa, .slice Aa na ca, .int .i64 ta, .slice Ba ma da, .int .i64 2, .int .i64 sb, .slice Ab nb cb, .int .i64 tb, .slice Bb mb db] 142) := ⟨_, rfl⟩
  rw [← hv35]
  have Kq : Hid (Blk v35 v34.heap.size 142 #[.int .i64 0, .int .i64 sa, .slice Aa na ca, .int .i64 ta, .slice Ba ma da, .int .i64 2, .int .i64 sb, .slice Ab nb cb, .int .i64 tb, .slice Bb mb db]) := by show Blk _ _ _ _; rw [hv35]; exact Blk.new _ _ _
  have hb35 : Below v34.heap.size v34 v35 := by rw [hv35]; exact bal (Below.refl _ _)
  replace HT := Lib.hid (HT.out.on hb35)
  replace BB := Lib.hid (BB.out.trans (hb35.mono BB.out.size))
  replace Tp := Lib.hid (Tp.out.past (TmEl.keeps _) hb35)
  replace Fa := Lib.hid (Fg.past Fa.out hb35)
  replace Fb := Lib.hid (Fg.past Fb.out hb35)
  obtain ⟨gq, hg35⟩ : ∃ g, g = v34.heap.size := ⟨_, rfl⟩
  rw [← hg35] at Kq ⊢
  clear hv35 hb35 hg35
  have Tq : Hid (Ts 8 v35 (some ⟨gq, 0, none⟩) 2 (up [(0, (-2 : Rat)), (2, (1 : Rat))])) := ts_two ⟨sa, Aa, na, ca, ta, Ba, ma, da⟩ ⟨sb, Ab, nb, cb, tb, Bb, mb, db⟩ Kq.out (Fa.out.more (by decide)) Ea.out.1 Ea.out.2 (Fb.out.more (by decide)) Eb.out.1 Eb.out.2
  clear Fa Fb
  clear Kq Ea Eb
  have hnp3 : np3 ≤ 1000000 := by have := Tp.out.len; rw [up_len] at this; simp at this; omega
  refine (Same_is cp3 2 Tp.out Tq.out (by decide) hnp3 (b := true) (decide_eq_true rfl)).mono ?_
  rintro e v36 ⟨rfl, hb⟩
  replace HT := Lib.hid (HT.out.on hb)
  replace BB := Lib.hid (BB.out.trans (hb.mono BB.out.size))
  replace Tp := Lib.hid (Tp.out.past (TmEl.keeps _) hb)
  replace Tq := Lib.hid (Tq.out.past (TmEl.keeps _) hb)
  clear hb
  clear Tp Tq
  go_wp2_with fail
  go_ret
  exact ⟨rfl, BB.out⟩
end Go.Proofs.YtikfjmdeeknalaaGreatDoor

/- Value at any lists, in one contract; right lists as lists of terms. Conditions: sizes; the table of math/bits as its text lays it. -/
namespace Go.Proofs.YtikfjmdeeknalaaGreatDoor
set_option maxRecDepth 20000
open Go.RowKit

theorem valO_times (xs : List (Option Rat)) (a : List (Int × Rat)) (f : Rat) : valO xs (up (timesT f a)) = valO xs (up a) * f := by
  rw [valO_up, valO_up, valT_times]
section
variable {j k n : Nat} {w : World} {A : Option Addr}
theorem xs_more {l : List (Option Rat)} (h : Xs j w A n l) (hk : j ≤ k) : Xs k w A n l :=
  ⟨h.1, fun hn => by
    obtain ⟨ad, e, hb, hc⟩ := h.2 hn
    refine ⟨ad, e, hb, fun i a hi => ?_⟩
    obtain ⟨cs, h1, ⟨r, e, c1, c2, hf⟩, h3⟩ := hc i a hi
    exact ⟨cs, h1, ⟨r, e, c1, c2, hf.more hk⟩, h3⟩⟩
end
end Go.Proofs.YtikfjmdeeknalaaGreatDoor
