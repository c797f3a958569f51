/- The walk of LinearAdds. Conditions: the arguments' memory; the table of math/bits as its text lays it. -/
import Derived.Test.YtehofikfbcallaaGreatDoorY4
namespace Go.Proofs.YtehofikfbcallaaGreatDoor
set_option maxRecDepth 20000
open Go.RowKit

set_option maxHeartbeats 64000000 in
theorem adds_walk {A1 A2 X : Option Addr} {n1 ca n2 cb m cx : Nat} {l1 l2 : List (Int × FrR)} {lx : List FrR} (rf : FrR) {i1 i2 : List Int} (w : World) (Ra : Hid (Els rTm 5 w A1 n1 l1)) (h1c : n1 ≤ ca) (Rb : Hid (Els rTm 5 w A2 n2 l2)) (h2c : n2 ≤ cb) (Gf : Hid (FrArg w rf i1 i2)) (Rx : Hid (Els rFr 4 w X m lx)) (HT : Hid (TabZ w)) :
    Calls Tryz.prog 3 #[.slice A1 n1 ca, .slice A2 n2 cb, frV rf, .slice X m cx] w (BoolB true w) := by
  obtain ⟨sf, Af, nf, cf, tf, Bf, mf, df⟩ := rf
  dsimp only [frV]
  have BB : Hid (Below w.heap.size w w) := Below.refl _ _
  go_enter Tryz.func3, Tryz.ntmps3
  go_upto_region 1 with (fail)
  obtain ⟨v1, hv1⟩ : ∃ v, v = w.alloc (.cells #[.int .i64 sf, .slice Af nf cf, .int .i64 tf, .slice Bf mf df] 27) := ⟨_, rfl⟩
  rw [← hv1]
  have Kf : Hid (Blk v1 w.heap.size 27 #[.int .i64 sf, .slice Af nf cf, .int .i64 tf, .slice Bf mf df]) := by show Blk _ _ _ _; rw [hv1]; exact Blk.new _ _ _
  have hb1 : Below w.heap.size w v1 := by rw [hv1]; exact bal (Below.refl _ _)
  replace Gf := Lib.hid (Gf.out.past hb1)
  replace HT := Lib.hid (HT.out.on hb1)
  replace BB := Lib.hid (BB.out.trans (hb1.mono BB.out.size))
  replace Ra := Lib.hid (Ra.out.past (rTm.keeps) hb1)
  replace Rb := Lib.hid (Rb.out.past (rTm.keeps) hb1)
  replace Rx := Lib.hid (Rx.out.past (rFr.keeps) hb1)
  obtain ⟨gf, hg1⟩ : ∃ g, g = w.heap.size := ⟨_, rfl⟩
  rw [← hg1] at Kf ⊢
  clear hv1 hb1 hg1
  go_wp2_with fail
  refine (small8 v1 HT).mono ?_
  rintro e v2 ⟨rfl, hb⟩
  replace Gf := Lib.hid (Gf.out.past hb)
  replace HT := Lib.hid (HT.out.on hb)
  replace BB := Lib.hid (BB.out.trans (hb.mono BB.out.size))
  replace Ra := Lib.hid (Ra.out.past (rTm.keeps) hb)
  replace Rb := Lib.hid (Rb.out.past (rTm.keeps) hb)
  replace Rx := Lib.hid (Rx.out.past (rFr.keeps) hb)
  replace Kf := Lib.hid (Kf.out.below hb Kf.out.lt)
  clear hb
  go_wp2_with fail
  refine (FewTerms_any ca 12 6 v2 Ra (by decide) (by decide)).mono ?_
  rintro e v3 ⟨b, rfl, hp, hb⟩
  replace Gf := Lib.hid (Gf.out.past hb)
  replace HT := Lib.hid (HT.out.on hb)
  replace BB := Lib.hid (BB.out.trans (hb.mono BB.out.size))
  replace Ra := Lib.hid (Ra.out.past (rTm.keeps) hb)
  replace Rb := Lib.hid (Rb.out.past (rTm.keeps) hb)
  replace Rx := Lib.hid (Rx.out.past (rFr.keeps) hb)
  replace Kf := Lib.hid (Kf.out.below hb Kf.out.lt)
  clear hb
  rcases b with _ | _
  · clear hp
    go_wp2_with fail
    go_ret
    exact ⟨rfl, BB.out⟩
  have Pa := Lib.hid (hp rfl)
  clear hp
  go_wp2_with fail
  refine (FewTerms_any cb 12 6 v3 Rb (by decide) (by decide)).mono ?_
  rintro e v4 ⟨b, rfl, hp, hb⟩
  replace Gf := Lib.hid (Gf.out.past hb)
  replace HT := Lib.hid (HT.out.on hb)
  replace BB := Lib.hid (BB.out.trans (hb.mono BB.out.size))
  replace Ra := Lib.hid (Ra.out.past (rTm.keeps) hb)
  replace Rb := Lib.hid (Rb.out.past (rTm.keeps) hb)
  replace Rx := Lib.hid (Rx.out.past (rFr.keeps) hb)
  replace Kf := Lib.hid (Kf.out.below hb Kf.out.lt)
  clear hb
  rcases b with _ | _
  · clear hp
    go_wp2_with fail
    go_ret
    exact ⟨rfl, BB.out⟩
  have Pb := Lib.hid (hp rfl)
  clear hp
  obtain ⟨yf0, yf1, yf2, yf3, -, -, -, -⟩ := fr_cells Kf.out
  go_wp2_with fail
  by_cases hd : (nf : Int) ≤ 6 ∧ (mf : Int) ≤ 6
  case neg =>
    refine (few5_F ⟨sf, Af, nf, cf, tf, Bf, mf, df⟩ 6 v4 (by dsimp only; omega)).mono ?_
    rintro e v5 ⟨rfl, hb⟩
    replace Gf := Lib.hid (Gf.out.past hb)
    replace HT := Lib.hid (HT.out.on hb)
    replace BB := Lib.hid (BB.out.trans (hb.mono BB.out.size))
    replace Ra := Lib.hid (Ra.out.past (rTm.keeps) hb)
    replace Rb := Lib.hid (Rb.out.past (rTm.keeps) hb)
    replace Rx := Lib.hid (Rx.out.past (rFr.keeps) hb)
    replace Kf := Lib.hid (Kf.out.below hb Kf.out.lt)
    clear hb
    clear yf0 yf1 yf2 yf3
    go_wp2_with fail
    go_ret
    exact ⟨rfl, BB.out⟩
  refine (few5_T ⟨sf, Af, nf, cf, tf, Bf, mf, df⟩ 6 v4 hd.1 hd.2).mono ?_
  rintro e v6 ⟨rfl, hb⟩
  replace Gf := Lib.hid (Gf.out.past hb)
  replace HT := Lib.hid (HT.out.on hb)
  replace BB := Lib.hid (BB.out.trans (hb.mono BB.out.size))
  replace Ra := Lib.hid (Ra.out.past (rTm.keeps) hb)
  replace Rb := Lib.hid (Rb.out.past (rTm.keeps) hb)
  replace Rx := Lib.hid (Rx.out.past (rFr.keeps) hb)
  replace Kf := Lib.hid (Kf.out.below hb Kf.out.lt)
  clear hb
  clear yf0 yf1 yf2 yf3
  go_wp2_with fail
  refine (FewPoint_any cx 12 6 v6 Rx (by decide) (by decide)).mono ?_
  rintro e v7 ⟨b, rfl, hp, hb⟩
  replace Gf := Lib.hid (Gf.out.past hb)
  replace HT := Lib.hid (HT.out.on hb)
  replace BB := Lib.hid (BB.out.trans (hb.mono BB.out.size))
  replace Ra := Lib.hid (Ra.out.past (rTm.keeps) hb)
  replace Rb := Lib.hid (Rb.out.past (rTm.keeps) hb)
  replace Rx := Lib.hid (Rx.out.past (rFr.keeps) hb)
  replace Kf := Lib.hid (Kf.out.below hb Kf.out.lt)
  clear hb
  rcases b with _ | _
  · clear hp
    go_wp2_with fail
    go_ret
    exact ⟨rfl, BB.out⟩
  have Px := Lib.hid (hp rfl)
  clear hp
  by_cases h12 : m = 12
  case neg =>
    have e12 : ((m : Int) != 12) = true := by simp; omega
    clear h12
    go_wp2_with fail
    go_ret
    exact ⟨rfl, BB.out⟩
  subst h12
  obtain ⟨la, hla⟩ := ts_of (k := 6) Ra.out (fun t ht => by have := Pa.out.2 t ht; omega)
  obtain ⟨lb, hlb⟩ := ts_of (k := 6) Rb.out (fun t ht => by have := Pb.out.2 t ht; omega)
  obtain ⟨xs, hxs⟩ := xs_of (k := 6) Rx.out (fun t ht => by have := Px.out.2 t ht; omega)
  obtain ⟨xf, hxf⟩ := Gf.out.fo (k := 6) (by dsimp only; omega) (by dsimp only; omega)
  have hn1 : n1 ≤ 12 := by have := Pa.out.1; omega
  have hn2 : n2 ≤ 12 := by have := Pb.out.1; omega
  have Ta := Lib.hid hla
  have Tb := Lib.hid hlb
  have Xx := Lib.hid hxs
  have Ff := Lib.hid hxf
  clear hla hlb hxs hxf hd
  clear Ra Rb Rx Gf
  clear Pa Pb Px
  go_wp2_with fail
  refine (Value_got (k := 12) (c := ca) (cx := cx) 4 (by decide) (by decide) Ta.out Xx.out HT.out (by omega) (by omega) (by omega)).mono ?_
  rintro e v8 ⟨bp, sp, Ap, np, cp, tp, Bp, mp, dp, rfl, hbe, hg, hb⟩
  have Vp := Lib.hid hg
  have Zp := Lib.hid hbe
  clear hg hbe
  dsimp only [frV]
  replace HT := Lib.hid (HT.out.on hb)
  replace BB := Lib.hid (BB.out.trans (hb.mono BB.out.size))
  replace Kf := Lib.hid (Kf.out.below hb Kf.out.lt)
  replace Ta := Lib.hid (Ta.out.past (TmEl.keeps _) hb)
  replace Tb := Lib.hid (Tb.out.past (TmEl.keeps _) hb)
  replace Xx := Lib.hid (Xx.out.past (FrEl.keeps _) hb)
  replace Ff := Lib.hid (Ff.out.past hb)
  clear hb
  go_upto_region 5 with (fail)
  obtain ⟨v9, hv9⟩ : ∃ v, v = v8.alloc (.cells #[.int .i64 sp, .slice Ap np cp, .int .i64 tp, .slice Bp mp dp] 27) := ⟨_, rfl⟩
  rw [← hv9]
  have Kp : Hid (Blk v9 v8.heap.size 27 #[.int .i64 sp, .slice Ap np cp, .int .i64 tp, .slice Bp mp dp]) := by show Blk _ _ _ _; rw [hv9]; exact Blk.new _ _ _
  have hb9 : Below v8.heap.size v8 v9 := by rw [hv9]; exact bal (Below.refl _ _)
  replace Vp := Lib.hid (fun e => Fg.past (Vp.out e) hb9)
  replace HT := Lib.hid (HT.out.on hb9)
  replace BB := Lib.hid (BB.out.trans (hb9.mono BB.out.size))
  replace Kf := Lib.hid (Kf.out.below hb9 Kf.out.lt)
  replace Ta := Lib.hid (Ta.out.past (TmEl.keeps _) hb9)
  replace Tb := Lib.hid (Tb.out.past (TmEl.keeps _) hb9)
  replace Xx := Lib.hid (Xx.out.past (FrEl.keeps _) hb9)
  replace Ff := Lib.hid (Ff.out.past hb9)
  obtain ⟨gp, hg9⟩ : ∃ g, g = v8.heap.size := ⟨_, rfl⟩
  rw [← hg9] at Kp ⊢
  clear hv9 hb9 hg9
  go_wp2_with fail
  refine (Value_got (k := 12) (c := cb) (cx := cx) 4 (by decide) (by decide) Tb.out Xx.out HT.out (by omega) (by omega) (by omega)).mono ?_
  rintro e v10 ⟨bq, sq, Aq, nq, cq, tq, Bq, mq, dq, rfl, hbe, hg, hb⟩
  have Vq := Lib.hid hg
  have Zq := Lib.hid hbe
  clear hg hbe
  dsimp only [frV]
  replace Vp := Lib.hid (fun e => Fg.past (Vp.out e) hb)
  replace HT := Lib.hid (HT.out.on hb)
  replace BB := Lib.hid (BB.out.trans (hb.mono BB.out.size))
  replace Kf := Lib.hid (Kf.out.below hb Kf.out.lt)
  replace Ta := Lib.hid (Ta.out.past (TmEl.keeps _) hb)
  replace Tb := Lib.hid (Tb.out.past (TmEl.keeps _) hb)
  replace Xx := Lib.hid (Xx.out.past (FrEl.keeps _) hb)
  replace Ff := Lib.hid (Ff.out.past hb)
  replace Kp := Lib.hid (Kp.out.below hb Kp.out.lt)
  clear hb
  go_upto_region 6 with (fail)
  obtain ⟨v11, hv11⟩ : ∃ v, v = v10.alloc (.cells #[.int .i64 sq, .slice Aq nq cq, .int .i64 tq, .slice Bq mq dq] 27) := ⟨_, rfl⟩
  rw [← hv11]
  have Kq : Hid (Blk v11 v10.heap.size 27 #[.int .i64 sq, .slice Aq nq cq, .int .i64 tq, .slice Bq mq dq]) := by show Blk _ _ _ _; rw [hv11]; exact Blk.new _ _ _
  have hb11 : Below v10.heap.size v10 v11 := by rw [hv11]; exact bal (Below.refl _ _)
  replace Vp := Lib.hid (fun e => Fg.past (Vp.out e) hb11)
  replace Vq := Lib.hid (fun e => Fg.past (Vq.out e) hb11)
  replace HT := Lib.hid (HT.out.on hb11)
  replace BB := Lib.hid (BB.out.trans (hb11.mono BB.out.size))
  replace Kf := Lib.hid (Kf.out.below hb11 Kf.out.lt)
  replace Ta := Lib.hid (Ta.out.past (TmEl.keeps _) hb11)
  replace Tb := Lib.hid (Tb.out.past (TmEl.keeps _) hb11)
  replace Xx := Lib.hid (Xx.out.past (FrEl.keeps _) hb11)
  replace Ff := Lib.hid (Ff.out.past hb11)
  replace Kp := Lib.hid (Kp.out.below hb11 Kp.out.lt)
  obtain ⟨gq, hg11⟩ : ∃ g, g = v10.heap.size := ⟨_, rfl⟩
  rw [← hg11] at Kq ⊢
  clear hv11 hb11 hg11
  rcases bp with _ | _
  · clear Zp Zq
    go_wp2_with fail
    go_ret
    exact ⟨rfl, BB.out⟩
  rcases bq with _ | _
  · clear Zp Zq
    go_wp2_with fail
    go_ret
    exact ⟨rfl, BB.out⟩
  have Cp := Lib.hid Zp.out.symm
  have Cq := Lib.hid Zq.out.symm
  clear Zp Zq
  obtain ⟨yf0, yf1, yf2, yf3, -, -, -, -⟩ := fr_cells Kf.out
  go_wp2_with fail
  obtain ⟨o, ho⟩ : ∃ o, xf.isSome = o := ⟨_, rfl⟩
  refine (right_O ⟨sf, Af, nf, cf, tf, Bf, mf, df⟩ Ff.out HT.out (by decide) ho).mono ?_
  rintro e v12 ⟨rfl, hb⟩
  replace Vp := Lib.hid (fun e => Fg.past (Vp.out e) hb)
  replace Vq := Lib.hid (fun e => Fg.past (Vq.out e) hb)
  replace HT := Lib.hid (HT.out.on hb)
  replace BB := Lib.hid (BB.out.trans (hb.mono BB.out.size))
  replace Kf := Lib.hid (Kf.out.below hb Kf.out.lt)
  replace Ta := Lib.hid (Ta.out.past (TmEl.keeps _) hb)
  replace Tb := Lib.hid (Tb.out.past (TmEl.keeps _) hb)
  replace Xx := Lib.hid (Xx.out.past (FrEl.keeps _) hb)
  replace Ff := Lib.hid (Ff.out.past hb)
  replace Kp := Lib.hid (Kp.out.below hb Kp.out.lt)
  replace Kq := Lib.hid (Kq.out.below hb Kq.out.lt)
  clear hb
  clear yf0 yf1 yf2 yf3
  rcases o with _ | _
  · clear ho Cp Cq
    go_wp2_with fail
    go_ret
    exact ⟨rfl, BB.out⟩
  obtain ⟨xf, rfl⟩ := Option.isSome_iff_exists.1 ho
  clear ho
  obtain ⟨a, ha1, ha2⟩ := canV_right Xx.out.len Cp.out
  obtain ⟨b, hb1, hb2⟩ := canV_right Xx.out.len Cq.out
  subst ha1 hb1
  have hxs := canV_some Cp.out
  have Fp := Lib.hid (Vp.out (by simp))
  have Fq := Lib.hid (Vq.out (by simp))
  clear Vp Vq Cp Cq
  replace Ff : Hid (Fg v12 (6 + 6) xf ⟨sf, Af, nf, cf, tf, Bf, mf, df⟩) := Ff.out
  have hlx : xs.length = 12 := Xx.out.len
  have ra : rightT (-1) 1500 a = true := rightT_mono ha2 (by decide) (by decide)
  have rb : rightT (-1) 1500 b = true := rightT_mono hb2 (by decide) (by decide)
  go_wp2_with fail
  refine (Plus_T ca cb Ta.out Tb.out HT.out ra rb (by decide) h1c h2c (by omega) (by omega)).mono ?_
  rintro e v13 ⟨Al, pl, cl, rfl, hcl, hp, hb⟩
  have Tp := Lib.hid hp
  clear hp
  replace HT := Lib.hid (HT.out.on hb)
  replace BB := Lib.hid (BB.out.trans (hb.mono BB.out.size))
  replace Kf := Lib.hid (Kf.out.below hb Kf.out.lt)
  replace Ta := Lib.hid (Ta.out.past (TmEl.keeps _) hb)
  replace Tb := Lib.hid (Tb.out.past (TmEl.keeps _) hb)
  replace Xx := Lib.hid (Xx.out.past (FrEl.keeps _) hb)
  replace Ff := Lib.hid (Fg.past Ff.out hb)
  replace Kp := Lib.hid (Kp.out.below hb Kp.out.lt)
  replace Kq := Lib.hid (Kq.out.below hb Kq.out.lt)
  replace Fp := Lib.hid (Fg.past Fp.out hb)
  replace Fq := Lib.hid (Fg.past Fq.out hb)
  clear hb
  obtain ⟨yf0, yf1, yf2, yf3, -, -, -, -⟩ := fr_cells Kf.out
  go_wp2_with fail
  refine (Times_T ca ⟨sf, Af, nf, cf, tf, Bf, mf, df⟩ Ta.out Ff.out HT.out ra (by decide) (by omega)).mono ?_
  rintro e v14 ⟨Bl, ql, dl, rfl, hdl, hp, hb⟩
  have Tt := Lib.hid hp
  clear hp
  replace HT := Lib.hid (HT.out.on hb)
  replace BB := Lib.hid (BB.out.trans (hb.mono BB.out.size))
  replace Kf := Lib.hid (Kf.out.below hb Kf.out.lt)
  replace Ta := Lib.hid (Ta.out.past (TmEl.keeps _) hb)
  replace Tb := Lib.hid (Tb.out.past (TmEl.keeps _) hb)
  replace Xx := Lib.hid (Xx.out.past (FrEl.keeps _) hb)
  replace Ff := Lib.hid (Fg.past Ff.out hb)
  replace Kp := Lib.hid (Kp.out.below hb Kp.out.lt)
  replace Kq := Lib.hid (Kq.out.below hb Kq.out.lt)
  replace Fp := Lib.hid (Fg.past Fp.out hb)
  replace Fq := Lib.hid (Fg.past Fq.out hb)
  replace Tp := Lib.hid (Tp.out.past (TmEl.keeps _) hb)
  clear hb
  clear yf0 yf1 yf2 yf3
  clear Ta Tb
  have rp := right_plus ha2 hb2
  have rt := right_times (f := xf) ha2
  have hpl : pl ≤ 12 := by rw [← Tp.out.len, up_len]; exact right_len rp
  have hql : ql ≤ 12 := by rw [← Tt.out.len, up_len]; exact right_len rt
  go_wp2_with fail
  refine (Value_yes (k := 25) (cx := cx) (c := cl) 4 (by decide) (by decide) (ts_more Tp.out (by decide)) (xs_more Xx.out (by decide)) HT.out hcl (by omega) (by decide) (canV_up hlx hxs rp)).mono ?_
  rintro e v15 ⟨⟨se, Ae, ne, ce, te, Be, me, de⟩, rfl, -, -, hf, -, -, hb⟩
  have Fe : Hid (Fg v15 (bnd 25 4) (valO xs (up a) + valO xs (up b)) ⟨se, Ae, ne, ce, te, Be, me, de⟩) := by show Fg _ _ _ _; rw [← valO_plus xs a b]; exact hf
  clear hf
  dsimp only [frV]
  replace HT := Lib.hid (HT.out.on hb)
  replace BB := Lib.hid (BB.out.trans (hb.mono BB.out.size))
  replace Kf := Lib.hid (Kf.out.below hb Kf.out.lt)
  replace Xx := Lib.hid (Xx.out.past (FrEl.keeps _) hb)
  replace Ff := Lib.hid (Fg.past Ff.out hb)
  replace Kp := Lib.hid (Kp.out.below hb Kp.out.lt)
  replace Kq := Lib.hid (Kq.out.below hb Kq.out.lt)
  replace Fp := Lib.hid (Fg.past Fp.out hb)
  replace Fq := Lib.hid (Fg.past Fq.out hb)
  replace Tp := Lib.hid (Tp.out.past (TmEl.keeps _) hb)
  replace Tt := Lib.hid (Tt.out.past (TmEl.keeps _) hb)
  clear hb
  go_upto_region 11 with (fail)
  obtain ⟨v16, hv16⟩ : ∃ v, v = v15.alloc (.cells #[.int .i64 se, .slice Ae ne ce, .int .i64 te, .slice Be me de] 27) := ⟨_, rfl⟩
  rw [← hv16]
  have Ke : Hid (Blk v16 v15.heap.size 27 #[.int .i64 se, .slice Ae ne ce, .int .i64 te, .slice Be me de]) := by show Blk _ _ _ _; rw [hv16]; exact Blk.new _ _ _
  have hb16 : Below v15.heap.size v15 v16 := by rw [hv16]; exact bal (Below.refl _ _)
  replace HT := Lib.hid (HT.out.on hb16)
  replace BB := Lib.hid (BB.out.trans (hb16.mono BB.out.size))
  replace Kf := Lib.hid (Kf.out.below hb16 Kf.out.lt)
  replace Xx := Lib.hid (Xx.out.past (FrEl.keeps _) hb16)
  replace Ff := Lib.hid (Fg.past Ff.out hb16)
  replace Kp := Lib.hid (Kp.out.below hb16 Kp.out.lt)
  replace Kq := Lib.hid (Kq.out.below hb16 Kq.out.lt)
  replace Fp := Lib.hid (Fg.past Fp.out hb16)
  replace Fq := Lib.hid (Fg.past Fq.out hb16)
  replace Tp := Lib.hid (Tp.out.past (TmEl.keeps _) hb16)
  replace Tt := Lib.hid (Tt.out.past (TmEl.keeps _) hb16)
  replace Fe := Lib.hid (Fg.past Fe.out hb16)
  obtain ⟨ge, hg16⟩ : ∃ g, g = v15.heap.size := ⟨_, rfl⟩
  rw [← hg16] at Ke ⊢
  clear hv16 hb16 hg16
  go_wp2_with fail
  refine (Value_yes (k := 25) (cx := cx) (c := dl) 4 (by decide) (by decide) (ts_more Tt.out (by decide)) (xs_more Xx.out (by decide)) HT.out hdl (by omega) (by decide) (canV_up hlx hxs rt)).mono ?_
  rintro e v17 ⟨⟨sh, Ah, nh, ch, th, Bh, mh, dh⟩, rfl, -, -, hf, -, -, hb⟩
  have Fh : Hid (Fg v17 (bnd 25 4) (valO xs (up a) * xf) ⟨sh, Ah, nh, ch, th, Bh, mh, dh⟩) := by show Fg _ _ _ _; rw [← valO_times xs a xf]; exact hf
  clear hf
  dsimp only [frV]
  replace HT := Lib.hid (HT.out.on hb)
  replace BB := Lib.hid (BB.out.trans (hb.mono BB.out.size))
  replace Kf := Lib.hid (Kf.out.below hb Kf.out.lt)
  replace Xx := Lib.hid (Xx.out.past (FrEl.keeps _) hb)
  replace Ff := Lib.hid (Fg.past Ff.out hb)
  replace Kp := Lib.hid (Kp.out.below hb Kp.out.lt)
  replace Kq := Lib.hid (Kq.out.below hb Kq.out.lt)
  replace Fp := Lib.hid (Fg.past Fp.out hb)
  replace Fq := Lib.hid (Fg.past Fq.out hb)
  replace Tp := Lib.hid (Tp.out.past (TmEl.keeps _) hb)
  replace Tt := Lib.hid (Tt.out.past (TmEl.keeps _) hb)
  replace Fe := Lib.hid (Fg.past Fe.out hb)
  replace Ke := Lib.hid (Ke.out.below hb Ke.out.lt)
  clear hb
  go_upto_region 12 with (fail)
  obtain ⟨v18, hv18⟩ : ∃ v, v = v17.alloc (.cells #[.int .i64 sh, .slice Ah nh ch, .int .i64 th, .slice Bh mh dh] 27) := ⟨_, rfl⟩
  rw [← hv18]
  have Kh : Hid (Blk v18 v17.heap.size 27 #[.int .i64 sh, .slice Ah nh ch, .int .i64 th, .slice Bh mh dh]) := by show Blk _ _ _ _; rw [hv18]; exact Blk.new _ _ _
  have hb18 : Below v17.heap.size v17 v18 := by rw [hv18]; exact bal (Below.refl _ _)
  replace HT := Lib.hid (HT.out.on hb18)
  replace BB := Lib.hid (BB.out.trans (hb18.mono BB.out.size))
  replace Kf := Lib.hid (Kf.out.below hb18 Kf.out.lt)
  replace Xx := Lib.hid (Xx.out.past (FrEl.keeps _) hb18)
  replace Ff := Lib.hid (Fg.past Ff.out hb18)
  replace Kp := Lib.hid (Kp.out.below hb18 Kp.out.lt)
  replace Kq := Lib.hid (Kq.out.below hb18 Kq.out.lt)
  replace Fp := Lib.hid (Fg.past Fp.out hb18)
  replace Fq := Lib.hid (Fg.past Fq.out hb18)
  replace Tp := Lib.hid (Tp.out.past (TmEl.keeps _) hb18)
  replace Tt := Lib.hid (Tt.out.past (TmEl.keeps _) hb18)
  replace Fe := Lib.hid (Fg.past Fe.out hb18)
  replace Ke := Lib.hid (Ke.out.below hb18 Ke.out.lt)
  replace Fh := Lib.hid (Fg.past Fh.out hb18)
  obtain ⟨gh, hg18⟩ : ∃ g, g = v17.heap.size := ⟨_, rfl⟩
  rw [← hg18] at Kh ⊢
  clear hv18 hb18 hg18
  obtain ⟨yp0, yp1, yp2, yp3, -, -, -, -⟩ := fr_cells Kp.out
  obtain ⟨yq0, yq1, yq2, yq3, -, -, -, -⟩ := fr_cells Kq.out
  go_wp2_with fail
  refine (add_R ⟨sp, Ap, np, cp, tp, Bp, mp, dp⟩ ⟨sq, Aq, nq, cq, tq, Bq, mq, dq⟩ Fp.out Fq.out HT.out (by decide)).mono ?_
  rintro e v19 ⟨⟨ss, As, ns, cs, ts, Bs, ms, ds⟩, rfl, -, -, hf, -, -, hb⟩
  have Fs := Lib.hid hf
  clear hf
  dsimp only [frV]
  replace HT := Lib.hid (HT.out.on hb)
  replace BB := Lib.hid (BB.out.trans (hb.mono BB.out.size))
  replace Kf := Lib.hid (Kf.out.below hb Kf.out.lt)
  replace Xx := Lib.hid (Xx.out.past (FrEl.keeps _) hb)
  replace Ff := Lib.hid (Fg.past Ff.out hb)
  replace Kp := Lib.hid (Kp.out.below hb Kp.out.lt)
  replace Kq := Lib.hid (Kq.out.below hb Kq.out.lt)
  replace Fp := Lib.hid (Fg.past Fp.out hb)
  replace Fq := Lib.hid (Fg.past Fq.out hb)
  replace Tp := Lib.hid (Tp.out.past (TmEl.keeps _) hb)
  replace Tt := Lib.hid (Tt.out.past (TmEl.keeps _) hb)
  replace Fe := Lib.hid (Fg.past Fe.out hb)
  replace Ke := Lib.hid (Ke.out.below hb Ke.out.lt)
  replace Fh := Lib.hid (Fg.past Fh.out hb)
  replace Kh := Lib.hid (Kh.out.below hb Kh.out.lt)
  clear hb
  clear yp0 yp1 yp2 yp3 yq0 yq1 yq2 yq3
  go_upto_region 13 with (fail)
  obtain ⟨v20, hv20⟩ : ∃ v, v = v19.alloc (.cells #[.int .i64 ss, .slice As ns cs, .int .i64 ts, .slice Bs ms ds] 27) := ⟨_, rfl⟩
  rw [← hv20]
  have Ks : Hid (Blk v20 v19.heap.size 27 #[.int .i64 ss, .slice As ns cs, .int .i64 ts, .slice Bs ms ds]) := by show Blk _ _ _ _; rw [hv20]; exact Blk.new _ _ _
  have hb20 : Below v19.heap.size v19 v20 := by rw [hv20]; exact bal (Below.refl _ _)
  replace HT := Lib.hid (HT.out.on hb20)
  replace BB := Lib.hid (BB.out.trans (hb20.mono BB.out.size))
  replace Kf := Lib.hid (Kf.out.below hb20 Kf.out.lt)
  replace Xx := Lib.hid (Xx.out.past (FrEl.keeps _) hb20)
  replace Ff := Lib.hid (Fg.past Ff.out hb20)
  replace Kp := Lib.hid (Kp.out.below hb20 Kp.out.lt)
  replace Kq := Lib.hid (Kq.out.below hb20 Kq.out.lt)
  replace Fp := Lib.hid (Fg.past Fp.out hb20)
  replace Fq := Lib.hid (Fg.past Fq.out hb20)
  replace Tp := Lib.hid (Tp.out.past (TmEl.keeps _) hb20)
  replace Tt := Lib.hid (Tt.out.past (TmEl.keeps _) hb20)
  replace Fe := Lib.hid (Fg.past Fe.out hb20)
  replace Ke := Lib.hid (Ke.out.below hb20 Ke.out.lt)
  replace Fh := Lib.hid (Fg.past Fh.out hb20)
  replace Kh := Lib.hid (Kh.out.below hb20 Kh.out.lt)
  replace Fs := Lib.hid (Fg.past Fs.out hb20)
  obtain ⟨gs, hg20⟩ : ∃ g, g = v19.heap.size := ⟨_, rfl⟩
  rw [← hg20] at Ks ⊢
  clear hv20 hb20 hg20
  obtain ⟨yf0, yf1, yf2, yf3, -, -, -, -⟩ := fr_cells Kf.out
  obtain ⟨yp0, yp1, yp2, yp3, -, -, -, -⟩ := fr_cells Kp.out
  go_wp2_with fail
  refine (mul_R ⟨sf, Af, nf, cf, tf, Bf, mf, df⟩ ⟨sp, Ap, np, cp, tp, Bp, mp, dp⟩ (Ff.out.more (by decide)) Fp.out HT.out (by decide)).mono ?_
  rintro e v21 ⟨⟨su, Au, nu, cu, tu, Bu, mu, du⟩, rfl, -, -, hf, -, -, hb⟩
  have Fu := Lib.hid hf
  clear hf
  dsimp only [frV]
  replace HT := Lib.hid (HT.out.on hb)
  replace BB := Lib.hid (BB.out.trans (hb.mono BB.out.size))
  replace Kf := Lib.hid (Kf.out.below hb Kf.out.lt)
  replace Xx := Lib.hid (Xx.out.past (FrEl.keeps _) hb)
  replace Ff := Lib.hid (Fg.past Ff.out hb)
  replace Kp := Lib.hid (Kp.out.below hb Kp.out.lt)
  replace Kq := Lib.hid (Kq.out.below hb Kq.out.lt)
  replace Fp := Lib.hid (Fg.past Fp.out hb)
  replace Fq := Lib.hid (Fg.past Fq.out hb)
  replace Tp := Lib.hid (Tp.out.past (TmEl.keeps _) hb)
  replace Tt := Lib.hid (Tt.out.past (TmEl.keeps _) hb)
  replace Fe := Lib.hid (Fg.past Fe.out hb)
  replace Ke := Lib.hid (Ke.out.below hb Ke.out.lt)
  replace Fh := Lib.hid (Fg.past Fh.out hb)
  replace Kh := Lib.hid (Kh.out.below hb Kh.out.lt)
  replace Fs := Lib.hid (Fg.past Fs.out hb)
  replace Ks := Lib.hid (Ks.out.below hb Ks.out.lt)
  clear hb
  clear yf0 yf1 yf2 yf3 yp0 yp1 yp2 yp3
  go_upto_region 14 with (fail)
  obtain ⟨v22, hv22⟩ : ∃ v, v = v21.alloc (.cells #[.int .i64 su, .slice Au nu cu, .int .i64 tu, .slice Bu mu du] 27) := ⟨_, rfl⟩
  rw [← hv22]
  have Ku : Hid (Blk v22 v21.heap.size 27 #[.int .i64 su, .slice Au nu cu, .int .i64 tu, .slice Bu mu du]) := by show Blk _ _ _ _; rw [hv22]; exact Blk.new _ _ _
  have hb22 : Below v21.heap.size v21 v22 := by rw [hv22]; exact bal (Below.refl _ _)
  replace HT := Lib.hid (HT.out.on hb22)
  replace BB := Lib.hid (BB.out.trans (hb22.mono BB.out.size))
  replace Kf := Lib.hid (Kf.out.below hb22 Kf.out.lt)
  replace Xx := Lib.hid (Xx.out.past (FrEl.keeps _) hb22)
  replace Ff := Lib.hid (Fg.past Ff.out hb22)
  replace Kp := Lib.hid (Kp.out.below hb22 Kp.out.lt)
  replace Kq := Lib.hid (Kq.out.below hb22 Kq.out.lt)
  replace Fp := Lib.hid (Fg.past Fp.out hb22)
  replace Fq := Lib.hid (Fg.past Fq.out hb22)
  replace Tp := Lib.hid (Tp.out.past (TmEl.keeps _) hb22)
  replace Tt := Lib.hid (Tt.out.past (TmEl.keeps _) hb22)
  replace Fe := Lib.hid (Fg.past Fe.out hb22)
  replace Ke := Lib.hid (Ke.out.below hb22 Ke.out.lt)
  replace Fh := Lib.hid (Fg.past Fh.out hb22)
  replace Kh := Lib.hid (Kh.out.below hb22 Kh.out.lt)
  replace Fs := Lib.hid (Fg.past Fs.out hb22)
  replace Ks := Lib.hid (Ks.out.below hb22 Ks.out.lt)
  replace Fu := Lib.hid (Fg.past Fu.out hb22)
  obtain ⟨gu, hg22⟩ : ∃ g, g = v21.heap.size := ⟨_, rfl⟩
  rw [← hg22] at Ku ⊢
  clear hv22 hb22 hg22
  go_wp2_with fail
  refine (RT_any cl 12 v22 Tp HT (by decide) (by omega) ((goT_up (by decide)).trans rp)).mono ?_
  rintro e v23 ⟨rfl, hb⟩
  replace HT := Lib.hid (HT.out.on hb)
  replace BB := Lib.hid (BB.out.trans (hb.mono BB.out.size))
  replace Kf := Lib.hid (Kf.out.below hb Kf.out.lt)
  replace Xx := Lib.hid (Xx.out.past (FrEl.keeps _) hb)
  replace Ff := Lib.hid (Fg.past Ff.out hb)
  replace Kp := Lib.hid (Kp.out.below hb Kp.out.lt)
  replace Kq := Lib.hid (Kq.out.below hb Kq.out.lt)
  replace Fp := Lib.hid (Fg.past Fp.out hb)
  replace Fq := Lib.hid (Fg.past Fq.out hb)
  replace Tp := Lib.hid (Tp.out.past (TmEl.keeps _) hb)
  replace Tt := Lib.hid (Tt.out.past (TmEl.keeps _) hb)
  replace Fe := Lib.hid (Fg.past Fe.out hb)
  replace Ke := Lib.hid (Ke.out.below hb Ke.out.lt)
  replace Fh := Lib.hid (Fg.past Fh.out hb)
  replace Kh := Lib.hid (Kh.out.below hb Kh.out.lt)
  replace Fs := Lib.hid (Fg.past Fs.out hb)
  replace Ks := Lib.hid (Ks.out.below hb Ks.out.lt)
  replace Fu := Lib.hid (Fg.past Fu.out hb)
  replace Ku := Lib.hid (Ku.out.below hb Ku.out.lt)
  clear hb
  go_wp2_with fail
  refine (RT_any dl 12 v23 Tt HT (by decide) (by omega) ((goT_up (by decide)).trans rt)).mono ?_
  rintro e v24 ⟨rfl, hb⟩
  replace HT := Lib.hid (HT.out.on hb)
  replace BB := Lib.hid (BB.out.trans (hb.mono BB.out.size))
  replace Kf := Lib.hid (Kf.out.below hb Kf.out.lt)
  replace Xx := Lib.hid (Xx.out.past (FrEl.keeps _) hb)
  replace Ff := Lib.hid (Fg.past Ff.out hb)
  replace Kp := Lib.hid (Kp.out.below hb Kp.out.lt)
  replace Kq := Lib.hid (Kq.out.below hb Kq.out.lt)
  replace Fp := Lib.hid (Fg.past Fp.out hb)
  replace Fq := Lib.hid (Fg.past Fq.out hb)
  replace Tp := Lib.hid (Tp.out.past (TmEl.keeps _) hb)
  replace Tt := Lib.hid (Tt.out.past (TmEl.keeps _) hb)
  replace Fe := Lib.hid (Fg.past Fe.out hb)
  replace Ke := Lib.hid (Ke.out.below hb Ke.out.lt)
  replace Fh := Lib.hid (Fg.past Fh.out hb)
  replace Kh := Lib.hid (Kh.out.below hb Kh.out.lt)
  replace Fs := Lib.hid (Fg.past Fs.out hb)
  replace Ks := Lib.hid (Ks.out.below hb Ks.out.lt)
  replace Fu := Lib.hid (Fg.past Fu.out hb)
  replace Ku := Lib.hid (Ku.out.below hb Ku.out.lt)
  clear hb
  obtain ⟨ye0, ye1, ye2, ye3, -, -, -, -⟩ := fr_cells Ke.out
  obtain ⟨ys0, ys1, ys2, ys3, -, -, -, -⟩ := fr_cells Ks.out
  go_wp2_with fail
  refine (same_R (k := 5000) ⟨se, Ae, ne, ce, te, Be, me, de⟩ ⟨ss, As, ns, cs, ts, Bs, ms, ds⟩ (Fe.out.more (by decide)) (Fs.out.more (by decide)) (by decide) (o := true) (decide_eq_true rfl)).mono ?_
  rintro e v25 ⟨rfl, hb⟩
  replace HT := Lib.hid (HT.out.on hb)
  replace BB := Lib.hid (BB.out.trans (hb.mono BB.out.size))
  replace Kf := Lib.hid (Kf.out.below hb Kf.out.lt)
  replace Xx := Lib.hid (Xx.out.past (FrEl.keeps _) hb)
  replace Ff := Lib.hid (Fg.past Ff.out hb)
  replace Kp := Lib.hid (Kp.out.below hb Kp.out.lt)
  replace Kq := Lib.hid (Kq.out.below hb Kq.out.lt)
  replace Fp := Lib.hid (Fg.past Fp.out hb)
  replace Fq := Lib.hid (Fg.past Fq.out hb)
  replace Tp := Lib.hid (Tp.out.past (TmEl.keeps _) hb)
  replace Tt := Lib.hid (Tt.out.past (TmEl.keeps _) hb)
  replace Fe := Lib.hid (Fg.past Fe.out hb)
  replace Ke := Lib.hid (Ke.out.below hb Ke.out.lt)
  replace Fh := Lib.hid (Fg.past Fh.out hb)
  replace Kh := Lib.hid (Kh.out.below hb Kh.out.lt)
  replace Fs := Lib.hid (Fg.past Fs.out hb)
  replace Ks := Lib.hid (Ks.out.below hb Ks.out.lt)
  replace Fu := Lib.hid (Fg.past Fu.out hb)
  replace Ku := Lib.hid (Ku.out.below hb Ku.out.lt)
  clear hb
  clear ye0 ye1 ye2 ye3 ys0 ys1 ys2 ys3
  obtain ⟨yh0, yh1, yh2, yh3, -, -, -, -⟩ := fr_cells Kh.out
  obtain ⟨yu0, yu1, yu2, yu3, -, -, -, -⟩ := fr_cells Ku.out
  go_wp2_with fail
  refine (same_R (k := 5000) ⟨sh, Ah, nh, ch, th, Bh, mh, dh⟩ ⟨su, Au, nu, cu, tu, Bu, mu, du⟩ (Fh.out.more (by decide)) (Fu.out.more (by decide)) (by decide) (o := true) (decide_eq_true (Rat.mul_comm _ _))).mono ?_
  rintro e v26 ⟨rfl, hb⟩
  replace HT := Lib.hid (HT.out.on hb)
  replace BB := Lib.hid (BB.out.trans (hb.mono BB.out.size))
  replace Kf := Lib.hid (Kf.out.below hb Kf.out.lt)
  replace Xx := Lib.hid (Xx.out.past (FrEl.keeps _) hb)
  replace Ff := Lib.hid (Fg.past Ff.out hb)
  replace Kp := Lib.hid (Kp.out.below hb Kp.out.lt)
  replace Kq := Lib.hid (Kq.out.below hb Kq.out.lt)
  replace Fp := Lib.hid (Fg.past Fp.out hb)
  replace Fq := Lib.hid (Fg.past Fq.out hb)
  replace Tp := Lib.hid (Tp.out.past (TmEl.keeps _) hb)
  replace Tt := Lib.hid (Tt.out.past (TmEl.keeps _) hb)
  replace Fe := Lib.hid (Fg.past Fe.out hb)
  replace Ke := Lib.hid (Ke.out.below hb Ke.out.lt)
  replace Fh := Lib.hid (Fg.past Fh.out hb)
  replace Kh := Lib.hid (Kh.out.below hb Kh.out.lt)
  replace Fs := Lib.hid (Fg.past Fs.out hb)
  replace Ks := Lib.hid (Ks.out.below hb Ks.out.lt)
  replace Fu := Lib.hid (Fg.past Fu.out hb)
  replace Ku := Lib.hid (Ku.out.below hb Ku.out.lt)
  clear hb
  clear yh0 yh1 yh2 yh3 yu0 yu1 yu2 yu3
  go_wp2_with fail
  go_ret
  exact ⟨rfl, BB.out⟩
end Go.Proofs.YtehofikfbcallaaGreatDoor
