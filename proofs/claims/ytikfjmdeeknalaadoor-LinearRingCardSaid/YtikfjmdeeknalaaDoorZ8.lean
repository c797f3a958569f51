/- The walk of LinearRing. Conditions: the arguments' memory; the table of math/bits as its text lays it. -/
import Derived.Test.YtikfjmdeeknalaaDoorY4
namespace Go.Proofs.YtikfjmdeeknalaaDoor
set_option maxRecDepth 20000
open Go.RowKit

theorem goT_up_of {l : List (Int × Option Rat)} (h : goT (-1) 1500 l = true) : ∃ a, l = up a ∧ rightT (-1) 1500 a = true := by
  obtain ⟨-, h1, h2⟩ := goT_is.1 h
  exact ⟨_, h1, h2⟩
theorem plus_nil (a : List (Int × Rat)) : plusT a [] = a := by cases a <;> simp [plusT]
theorem length_times8 (f : Rat) (a : List (Int × Rat)) : (timesT f a).length ≤ a.length := by
  unfold timesT
  split
  · simp
  · simp
set_option maxHeartbeats 64000000 in
theorem ring_walk {Aa Ab Ac : Option Addr} {na ka nb kb nc kc : Nat} {la0 lb0 lc0 : List (Int × FrR)} (rf rg : FrR) {i1 i2 i3 i4 : List Int} (w : World) (Ra : Hid (Els rTm 5 w Aa na la0)) (hac : na ≤ ka) (Rb : Hid (Els rTm 5 w Ab nb lb0)) (hbc : nb ≤ kb) (Rc : Hid (Els rTm 5 w Ac nc lc0)) (hcc : nc ≤ kc) (Gf : Hid (FrArg w rf i1 i2)) (Gh : Hid (FrArg w rg i3 i4)) (HT : Hid (TabZ w)) :
    Calls Tryd.prog 3 #[.slice Aa na ka, .slice Ab nb kb, .slice Ac nc kc, frV rf, frV rg] w (BoolB true w) := by
  obtain ⟨sf, Af, nf, cf, tf, Bf, mf, df⟩ := rf
  obtain ⟨sh, Ah, nh, ch, th, Bh, mh, dh⟩ := rg
  dsimp only [frV]
  have BB : Hid (Below w.heap.size w w) := Below.refl _ _
  go_enter Tryd.func3, Tryd.ntmps3
  go_upto_region 1 with (fail)
  obtain ⟨v1, hv1⟩ : ∃ v, v = w.alloc (.cells #[.int .i64 sf, .slice Af nf cf, .int .i64 tf, .slice Bf mf df] 27) := ⟨_, rfl⟩
  rw [← hv1]
  have Kf : Hid (Blk v1 w.heap.size 27 #[.int .i64 sf, .slice Af nf cf, .int .i64 tf, .slice Bf mf df]) := by show Blk _ _ _ _; rw [hv1]; exact Blk.new _ _ _
  have hb1 : Below w.heap.size w v1 := by rw [hv1]; exact bal (Below.refl _ _)
  replace Gf := Lib.hid (Gf.out.past hb1)
  replace Gh := Lib.hid (Gh.out.past hb1)
  replace HT := Lib.hid (HT.out.on hb1)
  replace BB := Lib.hid (BB.out.trans (hb1.mono BB.out.size))
  replace Ra := Lib.hid (Ra.out.past (rTm.keeps) hb1)
  replace Rb := Lib.hid (Rb.out.past (rTm.keeps) hb1)
  replace Rc := Lib.hid (Rc.out.past (rTm.keeps) hb1)
  obtain ⟨gf, hg1⟩ : ∃ g, g = w.heap.size := ⟨_, rfl⟩
  rw [← hg1] at Kf ⊢
  have hzf : v1.heap.size = gf + 1 := by rw [hv1, hg1]; simp
  clear hv1 hb1 hg1
  obtain ⟨v2, hv2⟩ : ∃ v, v = v1.alloc (.cells #[.int .i64 sh, .slice Ah nh ch, .int .i64 th, .slice Bh mh dh] 27) := ⟨_, rfl⟩
  rw [← hv2]
  have Kh : Hid (Blk v2 v1.heap.size 27 #[.int .i64 sh, .slice Ah nh ch, .int .i64 th, .slice Bh mh dh]) := by show Blk _ _ _ _; rw [hv2]; exact Blk.new _ _ _
  have hb2 : Below v1.heap.size v1 v2 := by rw [hv2]; exact bal (Below.refl _ _)
  replace Gf := Lib.hid (Gf.out.past hb2)
  replace Gh := Lib.hid (Gh.out.past hb2)
  replace HT := Lib.hid (HT.out.on hb2)
  replace BB := Lib.hid (BB.out.trans (hb2.mono BB.out.size))
  replace Ra := Lib.hid (Ra.out.past (rTm.keeps) hb2)
  replace Rb := Lib.hid (Rb.out.past (rTm.keeps) hb2)
  replace Rc := Lib.hid (Rc.out.past (rTm.keeps) hb2)
  replace Kf := Lib.hid (Kf.out.below hb2 Kf.out.lt)
  rw [hzf] at Kh
  obtain ⟨gh, hg2⟩ : ∃ g, g = gf + 1 := ⟨_, rfl⟩
  rw [← hg2] at Kh ⊢
  clear hv2 hb2 hg2 hzf
  go_wp2_with fail
  refine (small8 v2 HT).mono ?_
  rintro e v3 ⟨rfl, hb⟩
  replace Gf := Lib.hid (Gf.out.past hb)
  replace Gh := Lib.hid (Gh.out.past hb)
  replace HT := Lib.hid (HT.out.on hb)
  replace BB := Lib.hid (BB.out.trans (hb.mono BB.out.size))
  replace Ra := Lib.hid (Ra.out.past (rTm.keeps) hb)
  replace Rb := Lib.hid (Rb.out.past (rTm.keeps) hb)
  replace Rc := Lib.hid (Rc.out.past (rTm.keeps) hb)
  replace Kf := Lib.hid (Kf.out.below hb Kf.out.lt)
  replace Kh := Lib.hid (Kh.out.below hb Kh.out.lt)
  clear hb
  go_wp2_with fail
  refine (FewTerms_any ka 8 4 v3 Ra (by decide) (by decide)).mono ?_
  rintro e v4 ⟨b, rfl, hp, hb⟩
  replace Gf := Lib.hid (Gf.out.past hb)
  replace Gh := Lib.hid (Gh.out.past hb)
  replace HT := Lib.hid (HT.out.on hb)
  replace BB := Lib.hid (BB.out.trans (hb.mono BB.out.size))
  replace Ra := Lib.hid (Ra.out.past (rTm.keeps) hb)
  replace Rb := Lib.hid (Rb.out.past (rTm.keeps) hb)
  replace Rc := Lib.hid (Rc.out.past (rTm.keeps) hb)
  replace Kf := Lib.hid (Kf.out.below hb Kf.out.lt)
  replace Kh := Lib.hid (Kh.out.below hb Kh.out.lt)
  clear hb
  rcases b with _ | _
  · clear hp
    go_wp2_with fail
    go_ret
    exact ⟨rfl, BB.out⟩
  have Pa := Lib.hid (hp rfl)
  clear hp
  go_wp2_with fail
  refine (FewTerms_any kb 8 4 v4 Rb (by decide) (by decide)).mono ?_
  rintro e v5 ⟨b, rfl, hp, hb⟩
  replace Gf := Lib.hid (Gf.out.past hb)
  replace Gh := Lib.hid (Gh.out.past hb)
  replace HT := Lib.hid (HT.out.on hb)
  replace BB := Lib.hid (BB.out.trans (hb.mono BB.out.size))
  replace Ra := Lib.hid (Ra.out.past (rTm.keeps) hb)
  replace Rb := Lib.hid (Rb.out.past (rTm.keeps) hb)
  replace Rc := Lib.hid (Rc.out.past (rTm.keeps) hb)
  replace Kf := Lib.hid (Kf.out.below hb Kf.out.lt)
  replace Kh := Lib.hid (Kh.out.below hb Kh.out.lt)
  clear hb
  rcases b with _ | _
  · clear hp
    go_wp2_with fail
    go_ret
    exact ⟨rfl, BB.out⟩
  have Pb := Lib.hid (hp rfl)
  clear hp
  go_wp2_with fail
  refine (FewTerms_any kc 8 4 v5 Rc (by decide) (by decide)).mono ?_
  rintro e v6 ⟨b, rfl, hp, hb⟩
  replace Gf := Lib.hid (Gf.out.past hb)
  replace Gh := Lib.hid (Gh.out.past hb)
  replace HT := Lib.hid (HT.out.on hb)
  replace BB := Lib.hid (BB.out.trans (hb.mono BB.out.size))
  replace Ra := Lib.hid (Ra.out.past (rTm.keeps) hb)
  replace Rb := Lib.hid (Rb.out.past (rTm.keeps) hb)
  replace Rc := Lib.hid (Rc.out.past (rTm.keeps) hb)
  replace Kf := Lib.hid (Kf.out.below hb Kf.out.lt)
  replace Kh := Lib.hid (Kh.out.below hb Kh.out.lt)
  clear hb
  rcases b with _ | _
  · clear hp
    go_wp2_with fail
    go_ret
    exact ⟨rfl, BB.out⟩
  have Pc := Lib.hid (hp rfl)
  clear hp
  obtain ⟨yf0, yf1, yf2, yf3, -, -, -, -⟩ := fr_cells Kf.out
  go_wp2_with fail
  by_cases hdf : (nf : Int) ≤ 4 ∧ (mf : Int) ≤ 4
  case neg =>
    refine (few5_F ⟨sf, Af, nf, cf, tf, Bf, mf, df⟩ 4 v6 (by dsimp only; omega)).mono ?_
    rintro e v7 ⟨rfl, hb⟩
    replace Gf := Lib.hid (Gf.out.past hb)
    replace Gh := Lib.hid (Gh.out.past hb)
    replace HT := Lib.hid (HT.out.on hb)
    replace BB := Lib.hid (BB.out.trans (hb.mono BB.out.size))
    replace Ra := Lib.hid (Ra.out.past (rTm.keeps) hb)
    replace Rb := Lib.hid (Rb.out.past (rTm.keeps) hb)
    replace Rc := Lib.hid (Rc.out.past (rTm.keeps) hb)
    replace Kf := Lib.hid (Kf.out.below hb Kf.out.lt)
    replace Kh := Lib.hid (Kh.out.below hb Kh.out.lt)
    clear hb
    clear yf0 yf1 yf2 yf3
    go_wp2_with fail
    go_ret
    exact ⟨rfl, BB.out⟩
  refine (few5_T ⟨sf, Af, nf, cf, tf, Bf, mf, df⟩ 4 v6 hdf.1 hdf.2).mono ?_
  rintro e v8 ⟨rfl, hb⟩
  replace Gf := Lib.hid (Gf.out.past hb)
  replace Gh := Lib.hid (Gh.out.past hb)
  replace HT := Lib.hid (HT.out.on hb)
  replace BB := Lib.hid (BB.out.trans (hb.mono BB.out.size))
  replace Ra := Lib.hid (Ra.out.past (rTm.keeps) hb)
  replace Rb := Lib.hid (Rb.out.past (rTm.keeps) hb)
  replace Rc := Lib.hid (Rc.out.past (rTm.keeps) hb)
  replace Kf := Lib.hid (Kf.out.below hb Kf.out.lt)
  replace Kh := Lib.hid (Kh.out.below hb Kh.out.lt)
  clear hb
  clear yf0 yf1 yf2 yf3
  obtain ⟨yh0, yh1, yh2, yh3, -, -, -, -⟩ := fr_cells Kh.out
  go_wp2_with fail
  by_cases hdh : (nh : Int) ≤ 4 ∧ (mh : Int) ≤ 4
  case neg =>
    refine (few5_F ⟨sh, Ah, nh, ch, th, Bh, mh, dh⟩ 4 v8 (by dsimp only; omega)).mono ?_
    rintro e v9 ⟨rfl, hb⟩
    replace Gf := Lib.hid (Gf.out.past hb)
    replace Gh := Lib.hid (Gh.out.past hb)
    replace HT := Lib.hid (HT.out.on hb)
    replace BB := Lib.hid (BB.out.trans (hb.mono BB.out.size))
    replace Ra := Lib.hid (Ra.out.past (rTm.keeps) hb)
    replace Rb := Lib.hid (Rb.out.past (rTm.keeps) hb)
    replace Rc := Lib.hid (Rc.out.past (rTm.keeps) hb)
    replace Kf := Lib.hid (Kf.out.below hb Kf.out.lt)
    replace Kh := Lib.hid (Kh.out.below hb Kh.out.lt)
    clear hb
    clear yh0 yh1 yh2 yh3
    go_wp2_with fail
    go_ret
    exact ⟨rfl, BB.out⟩
  refine (few5_T ⟨sh, Ah, nh, ch, th, Bh, mh, dh⟩ 4 v8 hdh.1 hdh.2).mono ?_
  rintro e v10 ⟨rfl, hb⟩
  replace Gf := Lib.hid (Gf.out.past hb)
  replace Gh := Lib.hid (Gh.out.past hb)
  replace HT := Lib.hid (HT.out.on hb)
  replace BB := Lib.hid (BB.out.trans (hb.mono BB.out.size))
  replace Ra := Lib.hid (Ra.out.past (rTm.keeps) hb)
  replace Rb := Lib.hid (Rb.out.past (rTm.keeps) hb)
  replace Rc := Lib.hid (Rc.out.past (rTm.keeps) hb)
  replace Kf := Lib.hid (Kf.out.below hb Kf.out.lt)
  replace Kh := Lib.hid (Kh.out.below hb Kh.out.lt)
  clear hb
  clear yh0 yh1 yh2 yh3
  obtain ⟨la, hla⟩ := ts_of (k := 4) Ra.out (fun t ht => by have := Pa.out.2 t ht; omega)
  have hna : na ≤ 8 := by have := Pa.out.1; omega
  obtain ⟨lb, hlb⟩ := ts_of (k := 4) Rb.out (fun t ht => by have := Pb.out.2 t ht; omega)
  have hnb : nb ≤ 8 := by have := Pb.out.1; omega
  obtain ⟨lc, hlc⟩ := ts_of (k := 4) Rc.out (fun t ht => by have := Pc.out.2 t ht; omega)
  have hnc : nc ≤ 8 := by have := Pc.out.1; omega
  obtain ⟨xf, hxf⟩ := Gf.out.fo (k := 4) (by dsimp only; omega) (by dsimp only; omega)
  obtain ⟨xh, hxh⟩ := Gh.out.fo (k := 4) (by dsimp only; omega) (by dsimp only; omega)
  have Ta := Lib.hid hla
  have Tb := Lib.hid hlb
  have Tc := Lib.hid hlc
  have Ff := Lib.hid hxf
  have Fh := Lib.hid hxh
  clear hla hlb hlc hxf hxh hdf hdh
  clear Ra Rb Rc Gf Gh
  clear Pa Pb Pc
  go_wp2_with fail
  obtain ⟨o, ho⟩ : ∃ o, goT (-1) 1500 la = o := ⟨_, rfl⟩
  refine (RT_any ka 1500 v10 Ta HT (by decide) (by omega) ho).mono ?_
  rintro e v11 ⟨rfl, hb⟩
  replace HT := Lib.hid (HT.out.on hb)
  replace BB := Lib.hid (BB.out.trans (hb.mono BB.out.size))
  replace Kf := Lib.hid (Kf.out.below hb Kf.out.lt)
  replace Kh := Lib.hid (Kh.out.below hb Kh.out.lt)
  replace Ta := Lib.hid (Ta.out.past (TmEl.keeps _) hb)
  replace Tb := Lib.hid (Tb.out.past (TmEl.keeps _) hb)
  replace Tc := Lib.hid (Tc.out.past (TmEl.keeps _) hb)
  replace Ff := Lib.hid (Ff.out.past hb)
  replace Fh := Lib.hid (Fh.out.past hb)
  clear hb
  rcases o with _ | _
  · clear ho
    go_wp2_with fail
    go_ret
    exact ⟨rfl, BB.out⟩
  have Qa := Lib.hid ho
  clear ho
  go_wp2_with fail
  obtain ⟨o, ho⟩ : ∃ o, goT (-1) 1500 lb = o := ⟨_, rfl⟩
  refine (RT_any kb 1500 v11 Tb HT (by decide) (by omega) ho).mono ?_
  rintro e v12 ⟨rfl, hb⟩
  replace HT := Lib.hid (HT.out.on hb)
  replace BB := Lib.hid (BB.out.trans (hb.mono BB.out.size))
  replace Kf := Lib.hid (Kf.out.below hb Kf.out.lt)
  replace Kh := Lib.hid (Kh.out.below hb Kh.out.lt)
  replace Ta := Lib.hid (Ta.out.past (TmEl.keeps _) hb)
  replace Tb := Lib.hid (Tb.out.past (TmEl.keeps _) hb)
  replace Tc := Lib.hid (Tc.out.past (TmEl.keeps _) hb)
  replace Ff := Lib.hid (Ff.out.past hb)
  replace Fh := Lib.hid (Fh.out.past hb)
  clear hb
  rcases o with _ | _
  · clear ho
    go_wp2_with fail
    go_ret
    exact ⟨rfl, BB.out⟩
  have Qb := Lib.hid ho
  clear ho
  go_wp2_with fail
  obtain ⟨o, ho⟩ : ∃ o, goT (-1) 1500 lc = o := ⟨_, rfl⟩
  refine (RT_any kc 1500 v12 Tc HT (by decide) (by omega) ho).mono ?_
  rintro e v13 ⟨rfl, hb⟩
  replace HT := Lib.hid (HT.out.on hb)
  replace BB := Lib.hid (BB.out.trans (hb.mono BB.out.size))
  replace Kf := Lib.hid (Kf.out.below hb Kf.out.lt)
  replace Kh := Lib.hid (Kh.out.below hb Kh.out.lt)
  replace Ta := Lib.hid (Ta.out.past (TmEl.keeps _) hb)
  replace Tb := Lib.hid (Tb.out.past (TmEl.keeps _) hb)
  replace Tc := Lib.hid (Tc.out.past (TmEl.keeps _) hb)
  replace Ff := Lib.hid (Ff.out.past hb)
  replace Fh := Lib.hid (Fh.out.past hb)
  clear hb
  rcases o with _ | _
  · clear ho
    go_wp2_with fail
    go_ret
    exact ⟨rfl, BB.out⟩
  have Qc := Lib.hid ho
  clear ho
  obtain ⟨yf0, yf1, yf2, yf3, -, -, -, -⟩ := fr_cells Kf.out
  go_wp2_with fail
  obtain ⟨o, ho⟩ : ∃ o, xf.isSome = o := ⟨_, rfl⟩
  refine (right_O ⟨sf, Af, nf, cf, tf, Bf, mf, df⟩ Ff.out HT.out (by decide) ho).mono ?_
  rintro e v14 ⟨rfl, hb⟩
  replace HT := Lib.hid (HT.out.on hb)
  replace BB := Lib.hid (BB.out.trans (hb.mono BB.out.size))
  replace Kf := Lib.hid (Kf.out.below hb Kf.out.lt)
  replace Kh := Lib.hid (Kh.out.below hb Kh.out.lt)
  replace Ta := Lib.hid (Ta.out.past (TmEl.keeps _) hb)
  replace Tb := Lib.hid (Tb.out.past (TmEl.keeps _) hb)
  replace Tc := Lib.hid (Tc.out.past (TmEl.keeps _) hb)
  replace Ff := Lib.hid (Ff.out.past hb)
  replace Fh := Lib.hid (Fh.out.past hb)
  clear hb
  clear yf0 yf1 yf2 yf3
  rcases o with _ | _
  · clear ho
    go_wp2_with fail
    go_ret
    exact ⟨rfl, BB.out⟩
  obtain ⟨xf, rfl⟩ := Option.isSome_iff_exists.1 ho
  clear ho
  replace Ff : Hid (Fg v14 8 xf ⟨sf, Af, nf, cf, tf, Bf, mf, df⟩) := Ff.out
  obtain ⟨yh0, yh1, yh2, yh3, -, -, -, -⟩ := fr_cells Kh.out
  go_wp2_with fail
  obtain ⟨o, ho⟩ : ∃ o, xh.isSome = o := ⟨_, rfl⟩
  refine (right_O ⟨sh, Ah, nh, ch, th, Bh, mh, dh⟩ Fh.out HT.out (by decide) ho).mono ?_
  rintro e v15 ⟨rfl, hb⟩
  replace HT := Lib.hid (HT.out.on hb)
  replace BB := Lib.hid (BB.out.trans (hb.mono BB.out.size))
  replace Kf := Lib.hid (Kf.out.below hb Kf.out.lt)
  replace Kh := Lib.hid (Kh.out.below hb Kh.out.lt)
  replace Ta := Lib.hid (Ta.out.past (TmEl.keeps _) hb)
  replace Tb := Lib.hid (Tb.out.past (TmEl.keeps _) hb)
  replace Tc := Lib.hid (Tc.out.past (TmEl.keeps _) hb)
  replace Ff := Lib.hid (Fg.past Ff.out hb)
  replace Fh := Lib.hid (Fh.out.past hb)
  clear hb
  clear yh0 yh1 yh2 yh3
  rcases o with _ | _
  · clear ho
    go_wp2_with fail
    go_ret
    exact ⟨rfl, BB.out⟩
  obtain ⟨xh, rfl⟩ := Option.isSome_iff_exists.1 ho
  clear ho
  replace Fh : Hid (Fg v15 8 xh ⟨sh, Ah, nh, ch, th, Bh, mh, dh⟩) := Fh.out
  obtain ⟨ua, rfl, ra⟩ := goT_up_of Qa.out
  have da : ua.length ≤ 8 := by have := Ta.out.len; rw [up_len] at this; omega
  clear Qa
  obtain ⟨ub, rfl, rb⟩ := goT_up_of Qb.out
  have db : ub.length ≤ 8 := by have := Tb.out.len; rw [up_len] at this; omega
  clear Qb
  obtain ⟨uc, rfl, rc⟩ := goT_up_of Qc.out
  have dc : uc.length ≤ 8 := by have := Tc.out.len; rw [up_len] at this; omega
  clear Qc
  go_wp2_with fail
  refine (Plus_T (k := 8) ka kb (ts_more Ta.out (by decide)) (ts_more Tb.out (by decide)) HT.out ra rb (by decide) hac hbc (by omega) (by omega)).mono ?_
  rintro e v16 ⟨Ap, pp, ep, rfl, hp, hp, hb⟩
  have Tp := Lib.hid hp
  clear hp
  replace HT := Lib.hid (HT.out.on hb)
  replace BB := Lib.hid (BB.out.trans (hb.mono BB.out.size))
  replace Kf := Lib.hid (Kf.out.below hb Kf.out.lt)
  replace Kh := Lib.hid (Kh.out.below hb Kh.out.lt)
  replace Ta := Lib.hid (Ta.out.past (TmEl.keeps _) hb)
  replace Tb := Lib.hid (Tb.out.past (TmEl.keeps _) hb)
  replace Tc := Lib.hid (Tc.out.past (TmEl.keeps _) hb)
  replace Ff := Lib.hid (Fg.past Ff.out hb)
  replace Fh := Lib.hid (Fg.past Fh.out hb)
  clear hb
  have rp : rightT (-1) 1500 (plusT (ua) (ub)) = true := right_plus ra rb
  have lp : (plusT (ua) (ub)).length ≤ 16 := by have h2 := length_plus (ua) (ub); omega
  have dp : pp ≤ 16 := by have h1 := Tp.out.len; rw [up_len] at h1; omega
  go_wp2_with fail
  refine (Plus_T (k := 8) kb ka (ts_more Tb.out (by decide)) (ts_more Ta.out (by decide)) HT.out rb ra (by decide) hbc hac (by omega) (by omega)).mono ?_
  rintro e v17 ⟨Aq, pq, eq, rfl, hq, hp, hb⟩
  have Tq := Lib.hid hp
  clear hp
  replace HT := Lib.hid (HT.out.on hb)
  replace BB := Lib.hid (BB.out.trans (hb.mono BB.out.size))
  replace Kf := Lib.hid (Kf.out.below hb Kf.out.lt)
  replace Kh := Lib.hid (Kh.out.below hb Kh.out.lt)
  replace Ta := Lib.hid (Ta.out.past (TmEl.keeps _) hb)
  replace Tb := Lib.hid (Tb.out.past (TmEl.keeps _) hb)
  replace Tc := Lib.hid (Tc.out.past (TmEl.keeps _) hb)
  replace Ff := Lib.hid (Fg.past Ff.out hb)
  replace Fh := Lib.hid (Fg.past Fh.out hb)
  replace Tp := Lib.hid (Tp.out.past (TmEl.keeps _) hb)
  clear hb
  have rq : rightT (-1) 1500 (plusT (ub) (ua)) = true := right_plus rb ra
  have lq : (plusT (ub) (ua)).length ≤ 16 := by have h2 := length_plus (ub) (ua); omega
  have dq : pq ≤ 16 := by have h1 := Tq.out.len; rw [up_len] at h1; omega
  go_wp2_with fail
  refine (Same_is (k := 200) ep eq (ts_more Tp.out (by decide)) (ts_more Tq.out (by decide)) (by decide) (by omega) (b := true) (decide_eq_true (plus_comm ra rb))).mono ?_
  rintro e v18 ⟨rfl, hb⟩
  replace HT := Lib.hid (HT.out.on hb)
  replace BB := Lib.hid (BB.out.trans (hb.mono BB.out.size))
  replace Kf := Lib.hid (Kf.out.below hb Kf.out.lt)
  replace Kh := Lib.hid (Kh.out.below hb Kh.out.lt)
  replace Ta := Lib.hid (Ta.out.past (TmEl.keeps _) hb)
  replace Tb := Lib.hid (Tb.out.past (TmEl.keeps _) hb)
  replace Tc := Lib.hid (Tc.out.past (TmEl.keeps _) hb)
  replace Ff := Lib.hid (Fg.past Ff.out hb)
  replace Fh := Lib.hid (Fg.past Fh.out hb)
  replace Tp := Lib.hid (Tp.out.past (TmEl.keeps _) hb)
  replace Tq := Lib.hid (Tq.out.past (TmEl.keeps _) hb)
  clear hb
  clear Tp Tq
  go_wp2_with fail
  refine (Plus_T (k := 8) ka kb (ts_more Ta.out (by decide)) (ts_more Tb.out (by decide)) HT.out ra rb (by decide) hac hbc (by omega) (by omega)).mono ?_
  rintro e v19 ⟨Ap2, pp2, ep2, rfl, hp2, hp, hb⟩
  have Tp2 := Lib.hid hp
  clear hp
  replace HT := Lib.hid (HT.out.on hb)
  replace BB := Lib.hid (BB.out.trans (hb.mono BB.out.size))
  replace Kf := Lib.hid (Kf.out.below hb Kf.out.lt)
  replace Kh := Lib.hid (Kh.out.below hb Kh.out.lt)
  replace Ta := Lib.hid (Ta.out.past (TmEl.keeps _) hb)
  replace Tb := Lib.hid (Tb.out.past (TmEl.keeps _) hb)
  replace Tc := Lib.hid (Tc.out.past (TmEl.keeps _) hb)
  replace Ff := Lib.hid (Fg.past Ff.out hb)
  replace Fh := Lib.hid (Fg.past Fh.out hb)
  clear hb
  have rp2 : rightT (-1) 1500 (plusT (ua) (ub)) = true := right_plus ra rb
  have lp2 : (plusT (ua) (ub)).length ≤ 16 := by have h2 := length_plus (ua) (ub); omega
  have dp2 : pp2 ≤ 16 := by have h1 := Tp2.out.len; rw [up_len] at h1; omega
  go_wp2_with fail
  refine (Plus_T (k := 17) ep2 kc (ts_more Tp2.out (by decide)) (ts_more Tc.out (by decide)) HT.out rp2 rc (by decide) hp2 hcc (by omega) (by omega)).mono ?_
  rintro e v20 ⟨Aq2, pq2, eq2, rfl, hq2, hp, hb⟩
  have Tq2 := Lib.hid hp
  clear hp
  replace HT := Lib.hid (HT.out.on hb)
  replace BB := Lib.hid (BB.out.trans (hb.mono BB.out.size))
  replace Kf := Lib.hid (Kf.out.below hb Kf.out.lt)
  replace Kh := Lib.hid (Kh.out.below hb Kh.out.lt)
  replace Ta := Lib.hid (Ta.out.past (TmEl.keeps _) hb)
  replace Tb := Lib.hid (Tb.out.past (TmEl.keeps _) hb)
  replace Tc := Lib.hid (Tc.out.past (TmEl.keeps _) hb)
  replace Ff := Lib.hid (Fg.past Ff.out hb)
  replace Fh := Lib.hid (Fg.past Fh.out hb)
  replace Tp2 := Lib.hid (Tp2.out.past (TmEl.keeps _) hb)
  clear hb
  have rq2 : rightT (-1) 1500 (plusT (plusT (ua) (ub)) (uc)) = true := right_plus rp2 rc
  have lq2 : (plusT (plusT (ua) (ub)) (uc)).length ≤ 24 := by have h2 := length_plus (plusT (ua) (ub)) (uc); omega
  have dq2 : pq2 ≤ 24 := by have h1 := Tq2.out.len; rw [up_len] at h1; omega
  go_wp2_with fail
  refine (Plus_T (k := 8) kb kc (ts_more Tb.out (by decide)) (ts_more Tc.out (by decide)) HT.out rb rc (by decide) hbc hcc (by omega) (by omega)).mono ?_
  rintro e v21 ⟨As2, ps2, es2, rfl, hs2, hp, hb⟩
  have Ts2 := Lib.hid hp
  clear hp
  replace HT := Lib.hid (HT.out.on hb)
  replace BB := Lib.hid (BB.out.trans (hb.mono BB.out.size))
  replace Kf := Lib.hid (Kf.out.below hb Kf.out.lt)
  replace Kh := Lib.hid (Kh.out.below hb Kh.out.lt)
  replace Ta := Lib.hid (Ta.out.past (TmEl.keeps _) hb)
  replace Tb := Lib.hid (Tb.out.past (TmEl.keeps _) hb)
  replace Tc := Lib.hid (Tc.out.past (TmEl.keeps _) hb)
  replace Ff := Lib.hid (Fg.past Ff.out hb)
  replace Fh := Lib.hid (Fg.past Fh.out hb)
  replace Tp2 := Lib.hid (Tp2.out.past (TmEl.keeps _) hb)
  replace Tq2 := Lib.hid (Tq2.out.past (TmEl.keeps _) hb)
  clear hb
  have rs2 : rightT (-1) 1500 (plusT (ub) (uc)) = true := right_plus rb rc
  have ls2 : (plusT (ub) (uc)).length ≤ 16 := by have h2 := length_plus (ub) (uc); omega
  have ds2 : ps2 ≤ 16 := by have h1 := Ts2.out.len; rw [up_len] at h1; omega
  go_wp2_with fail
  refine (Plus_T (k := 17) ka es2 (ts_more Ta.out (by decide)) (ts_more Ts2.out (by decide)) HT.out ra rs2 (by decide) hac hs2 (by omega) (by omega)).mono ?_
  rintro e v22 ⟨At2, pt2, et2, rfl, ht2, hp, hb⟩
  have Tt2 := Lib.hid hp
  clear hp
  replace HT := Lib.hid (HT.out.on hb)
  replace BB := Lib.hid (BB.out.trans (hb.mono BB.out.size))
  replace Kf := Lib.hid (Kf.out.below hb Kf.out.lt)
  replace Kh := Lib.hid (Kh.out.below hb Kh.out.lt)
  replace Ta := Lib.hid (Ta.out.past (TmEl.keeps _) hb)
  replace Tb := Lib.hid (Tb.out.past (TmEl.keeps _) hb)
  replace Tc := Lib.hid (Tc.out.past (TmEl.keeps _) hb)
  replace Ff := Lib.hid (Fg.past Ff.out hb)
  replace Fh := Lib.hid (Fg.past Fh.out hb)
  replace Tp2 := Lib.hid (Tp2.out.past (TmEl.keeps _) hb)
  replace Tq2 := Lib.hid (Tq2.out.past (TmEl.keeps _) hb)
  replace Ts2 := Lib.hid (Ts2.out.past (TmEl.keeps _) hb)
  clear hb
  have rt2 : rightT (-1) 1500 (plusT (ua) (plusT (ub) (uc))) = true := right_plus ra rs2
  have lt2 : (plusT (ua) (plusT (ub) (uc))).length ≤ 24 := by have h2 := length_plus (ua) (plusT (ub) (uc)); omega
  have dt2 : pt2 ≤ 24 := by have h1 := Tt2.out.len; rw [up_len] at h1; omega
  go_wp2_with fail
  refine (Same_is (k := 200) eq2 et2 (ts_more Tq2.out (by decide)) (ts_more Tt2.out (by decide)) (by decide) (by omega) (b := true) (decide_eq_true (plus_assoc ra rb rc))).mono ?_
  rintro e v23 ⟨rfl, hb⟩
  replace HT := Lib.hid (HT.out.on hb)
  replace BB := Lib.hid (BB.out.trans (hb.mono BB.out.size))
  replace Kf := Lib.hid (Kf.out.below hb Kf.out.lt)
  replace Kh := Lib.hid (Kh.out.below hb Kh.out.lt)
  replace Ta := Lib.hid (Ta.out.past (TmEl.keeps _) hb)
  replace Tb := Lib.hid (Tb.out.past (TmEl.keeps _) hb)
  replace Tc := Lib.hid (Tc.out.past (TmEl.keeps _) hb)
  replace Ff := Lib.hid (Fg.past Ff.out hb)
  replace Fh := Lib.hid (Fg.past Fh.out hb)
  replace Tp2 := Lib.hid (Tp2.out.past (TmEl.keeps _) hb)
  replace Tq2 := Lib.hid (Tq2.out.past (TmEl.keeps _) hb)
  replace Ts2 := Lib.hid (Ts2.out.past (TmEl.keeps _) hb)
  replace Tt2 := Lib.hid (Tt2.out.past (TmEl.keeps _) hb)
  clear hb
  clear Tp2 Tq2 Ts2 Tt2
  go_wp2_with fail
  refine (Plus_T (k := 8) ka 0 Ta.out (Els.nil : Ts 8 v23 none 0 (up [])) HT.out ra (show rightT (-1) 1500 [] = true from rfl) (by decide) hac (by decide) (by omega) (by decide)).mono ?_
  rintro e v24 ⟨Az, pz, ez, rfl, hz, hp, hb⟩
  have Tz := Lib.hid hp
  clear hp
  replace HT := Lib.hid (HT.out.on hb)
  replace BB := Lib.hid (BB.out.trans (hb.mono BB.out.size))
  replace Kf := Lib.hid (Kf.out.below hb Kf.out.lt)
  replace Kh := Lib.hid (Kh.out.below hb Kh.out.lt)
  replace Ta := Lib.hid (Ta.out.past (TmEl.keeps _) hb)
  replace Tb := Lib.hid (Tb.out.past (TmEl.keeps _) hb)
  replace Tc := Lib.hid (Tc.out.past (TmEl.keeps _) hb)
  replace Ff := Lib.hid (Fg.past Ff.out hb)
  replace Fh := Lib.hid (Fg.past Fh.out hb)
  clear hb
  have ez0 : plusT ua [] = ua := plus_nil ua
  rw [ez0] at Tz
  have dz : pz ≤ 8 := by have h1 := Tz.out.len; rw [up_len] at h1; omega
  go_wp2_with fail
  refine (Same_is (k := 200) ez ka (ts_more Tz.out (by decide)) (ts_more Ta.out (by decide)) (by decide) (by omega) (b := true) (decide_eq_true rfl)).mono ?_
  rintro e v25 ⟨rfl, hb⟩
  replace HT := Lib.hid (HT.out.on hb)
  replace BB := Lib.hid (BB.out.trans (hb.mono BB.out.size))
  replace Kf := Lib.hid (Kf.out.below hb Kf.out.lt)
  replace Kh := Lib.hid (Kh.out.below hb Kh.out.lt)
  replace Ta := Lib.hid (Ta.out.past (TmEl.keeps _) hb)
  replace Tb := Lib.hid (Tb.out.past (TmEl.keeps _) hb)
  replace Tc := Lib.hid (Tc.out.past (TmEl.keeps _) hb)
  replace Ff := Lib.hid (Fg.past Ff.out hb)
  replace Fh := Lib.hid (Fg.past Fh.out hb)
  replace Tz := Lib.hid (Tz.out.past (TmEl.keeps _) hb)
  clear hb
  clear Tz
  go_wp2_with fail
  refine (int_R 1 v25 (by decide) (by decide)).mono ?_
  rintro e v26 ⟨⟨si, Ai, ni, ci, ti, Bi, mi, di⟩, rfl, -, -, hf, -, -, hb⟩
  rw [show (((1 : Int)) : Rat) = 1 from rfl] at hf
  have Fi := Lib.hid hf
  clear hf
  dsimp only [frV]
  replace HT := Lib.hid (HT.out.on hb)
  replace BB := Lib.hid (BB.out.trans (hb.mono BB.out.size))
  replace Kf := Lib.hid (Kf.out.below hb Kf.out.lt)
  replace Kh := Lib.hid (Kh.out.below hb Kh.out.lt)
  replace Ta := Lib.hid (Ta.out.past (TmEl.keeps _) hb)
  replace Tb := Lib.hid (Tb.out.past (TmEl.keeps _) hb)
  replace Tc := Lib.hid (Tc.out.past (TmEl.keeps _) hb)
  replace Ff := Lib.hid (Fg.past Ff.out hb)
  replace Fh := Lib.hid (Fg.past Fh.out hb)
  clear hb
  go_wp2_with fail
  refine (Times_T (k := 8) ka ⟨si, Ai, ni, ci, ti, Bi, mi, di⟩ (ts_more Ta.out (by decide)) (Fi.out.more (by decide)) HT.out ra (by decide) (by omega)).mono ?_
  rintro e v27 ⟨Ax, px, ex, rfl, hx, hp, hb⟩
  rw [times_one ra] at hp
  have Tx := Lib.hid hp
  clear hp
  replace HT := Lib.hid (HT.out.on hb)
  replace BB := Lib.hid (BB.out.trans (hb.mono BB.out.size))
  replace Kf := Lib.hid (Kf.out.below hb Kf.out.lt)
  replace Kh := Lib.hid (Kh.out.below hb Kh.out.lt)
  replace Ta := Lib.hid (Ta.out.past (TmEl.keeps _) hb)
  replace Tb := Lib.hid (Tb.out.past (TmEl.keeps _) hb)
  replace Tc := Lib.hid (Tc.out.past (TmEl.keeps _) hb)
  replace Ff := Lib.hid (Fg.past Ff.out hb)
  replace Fh := Lib.hid (Fg.past Fh.out hb)
  replace Fi := Lib.hid (Fg.past Fi.out hb)
  clear hb
  have dx : px ≤ 8 := by have h1 := Tx.out.len; rw [up_len] at h1; omega
  clear Fi
  go_wp2_with fail
  refine (Same_is (k := 200) ex ka (ts_more Tx.out (by decide)) (ts_more Ta.out (by decide)) (by decide) (by omega) (b := true) (decide_eq_true rfl)).mono ?_
  rintro e v28 ⟨rfl, hb⟩
  replace HT := Lib.hid (HT.out.on hb)
  replace BB := Lib.hid (BB.out.trans (hb.mono BB.out.size))
  replace Kf := Lib.hid (Kf.out.below hb Kf.out.lt)
  replace Kh := Lib.hid (Kh.out.below hb Kh.out.lt)
  replace Ta := Lib.hid (Ta.out.past (TmEl.keeps _) hb)
  replace Tb := Lib.hid (Tb.out.past (TmEl.keeps _) hb)
  replace Tc := Lib.hid (Tc.out.past (TmEl.keeps _) hb)
  replace Ff := Lib.hid (Fg.past Ff.out hb)
  replace Fh := Lib.hid (Fg.past Fh.out hb)
  replace Tx := Lib.hid (Tx.out.past (TmEl.keeps _) hb)
  clear hb
  clear Tx
  go_wp2_with fail
  refine (int_R (-1) v28 (by decide) (by decide)).mono ?_
  rintro e v29 ⟨⟨sj, Aj, nj, cj, tj, Bj, mj, dj⟩, rfl, -, -, hf, -, -, hb⟩
  rw [show ((((-1) : Int)) : Rat) = (-1) from rfl] at hf
  have Fj := Lib.hid hf
  clear hf
  dsimp only [frV]
  replace HT := Lib.hid (HT.out.on hb)
  replace BB := Lib.hid (BB.out.trans (hb.mono BB.out.size))
  replace Kf := Lib.hid (Kf.out.below hb Kf.out.lt)
  replace Kh := Lib.hid (Kh.out.below hb Kh.out.lt)
  replace Ta := Lib.hid (Ta.out.past (TmEl.keeps _) hb)
  replace Tb := Lib.hid (Tb.out.past (TmEl.keeps _) hb)
  replace Tc := Lib.hid (Tc.out.past (TmEl.keeps _) hb)
  replace Ff := Lib.hid (Fg.past Ff.out hb)
  replace Fh := Lib.hid (Fg.past Fh.out hb)
  clear hb
  go_wp2_with fail
  refine (Times_T (k := 8) ka ⟨sj, Aj, nj, cj, tj, Bj, mj, dj⟩ (ts_more Ta.out (by decide)) (Fj.out.more (by decide)) HT.out ra (by decide) (by omega)).mono ?_
  rintro e v30 ⟨Ay, py, ey, rfl, hy, hp, hb⟩
  have Ty := Lib.hid hp
  clear hp
  replace HT := Lib.hid (HT.out.on hb)
  replace BB := Lib.hid (BB.out.trans (hb.mono BB.out.size))
  replace Kf := Lib.hid (Kf.out.below hb Kf.out.lt)
  replace Kh := Lib.hid (Kh.out.below hb Kh.out.lt)
  replace Ta := Lib.hid (Ta.out.past (TmEl.keeps _) hb)
  replace Tb := Lib.hid (Tb.out.past (TmEl.keeps _) hb)
  replace Tc := Lib.hid (Tc.out.past (TmEl.keeps _) hb)
  replace Ff := Lib.hid (Fg.past Ff.out hb)
  replace Fh := Lib.hid (Fg.past Fh.out hb)
  replace Fj := Lib.hid (Fg.past Fj.out hb)
  clear hb
  have dy : py ≤ 8 := by have h1 := Ty.out.len; rw [up_len] at h1; have h2 := length_times8 (-1) ua; omega
  clear Fj
  go_wp2_with fail
  refine (Plus_T (k := 16) ka ey (ts_more Ta.out (by decide)) Ty.out HT.out ra (right_times ra) (by decide) hac hy (by omega) (by omega)).mono ?_
  rintro e v31 ⟨Ag, pg, eg, rfl, hg, hp, hb⟩
  rw [plus_opposite ra] at hp
  have hpg : pg = 0 := hp.len.symm
  clear hp hg
  subst hpg
  replace HT := Lib.hid (HT.out.on hb)
  replace BB := Lib.hid (BB.out.trans (hb.mono BB.out.size))
  replace Kf := Lib.hid (Kf.out.below hb Kf.out.lt)
  replace Kh := Lib.hid (Kh.out.below hb Kh.out.lt)
  replace Ta := Lib.hid (Ta.out.past (TmEl.keeps _) hb)
  replace Tb := Lib.hid (Tb.out.past (TmEl.keeps _) hb)
  replace Tc := Lib.hid (Tc.out.past (TmEl.keeps _) hb)
  replace Ff := Lib.hid (Fg.past Ff.out hb)
  replace Fh := Lib.hid (Fg.past Fh.out hb)
  replace Ty := Lib.hid (Ty.out.past (TmEl.keeps _) hb)
  clear hb
  clear Ty
  go_wp2_with fail
  refine (int_R 0 v31 (by decide) (by decide)).mono ?_
  rintro e v32 ⟨⟨sl, Al, nl, cl, tl, Bl, ml, dl⟩, rfl, -, -, hf, -, -, hb⟩
  rw [show (((0 : Int)) : Rat) = 0 from rfl] at hf
  have Fl := Lib.hid hf
  clear hf
  dsimp only [frV]
  replace HT := Lib.hid (HT.out.on hb)
  replace BB := Lib.hid (BB.out.trans (hb.mono BB.out.size))
  replace Kf := Lib.hid (Kf.out.below hb Kf.out.lt)
  replace Kh := Lib.hid (Kh.out.below hb Kh.out.lt)
  replace Ta := Lib.hid (Ta.out.past (TmEl.keeps _) hb)
  replace Tb := Lib.hid (Tb.out.past (TmEl.keeps _) hb)
  replace Tc := Lib.hid (Tc.out.past (TmEl.keeps _) hb)
  replace Ff := Lib.hid (Fg.past Ff.out hb)
  replace Fh := Lib.hid (Fg.past Fh.out hb)
  clear hb
  go_wp2_with fail
  refine (Times_T (k := 8) ka ⟨sl, Al, nl, cl, tl, Bl, ml, dl⟩ (ts_more Ta.out (by decide)) (Fl.out.more (by decide)) HT.out ra (by decide) (by omega)).mono ?_
  rintro e v33 ⟨Am, pm, em, rfl, -, hp, hb⟩
  rw [times_zero] at hp
  have hpm : pm = 0 := hp.len.symm
  clear hp
  subst hpm
  replace HT := Lib.hid (HT.out.on hb)
  replace BB := Lib.hid (BB.out.trans (hb.mono BB.out.size))
  replace Kf := Lib.hid (Kf.out.below hb Kf.out.lt)
  replace Kh := Lib.hid (Kh.out.below hb Kh.out.lt)
  replace Ta := Lib.hid (Ta.out.past (TmEl.keeps _) hb)
  replace Tb := Lib.hid (Tb.out.past (TmEl.keeps _) hb)
  replace Tc := Lib.hid (Tc.out.past (TmEl.keeps _) hb)
  replace Ff := Lib.hid (Fg.past Ff.out hb)
  replace Fh := Lib.hid (Fg.past Fh.out hb)
  replace Fl := Lib.hid (Fg.past Fl.out hb)
  clear hb
  clear Fl
  obtain ⟨yf0, yf1, yf2, yf3, -, -, -, -⟩ := fr_cells Kf.out
  obtain ⟨yh0, yh1, yh2, yh3, -, -, -, -⟩ := fr_cells Kh.out
  go_wp2_with fail
  refine (add_R ⟨sf, Af, nf, cf, tf, Bf, mf, df⟩ ⟨sh, Ah, nh, ch, th, Bh, mh, dh⟩ Ff.out Fh.out HT.out (by decide)).mono ?_
  rintro e v34 ⟨⟨ss, As, ns, cs, ts, Bs, ms, ds⟩, rfl, -, -, hf, -, -, hb⟩
  have Fs := Lib.hid hf
  clear hf
  dsimp only [frV]
  replace HT := Lib.hid (HT.out.on hb)
  replace BB := Lib.hid (BB.out.trans (hb.mono BB.out.size))
  replace Kf := Lib.hid (Kf.out.below hb Kf.out.lt)
  replace Kh := Lib.hid (Kh.out.below hb Kh.out.lt)
  replace Ta := Lib.hid (Ta.out.past (TmEl.keeps _) hb)
  replace Tb := Lib.hid (Tb.out.past (TmEl.keeps _) hb)
  replace Tc := Lib.hid (Tc.out.past (TmEl.keeps _) hb)
  replace Ff := Lib.hid (Fg.past Ff.out hb)
  replace Fh := Lib.hid (Fg.past Fh.out hb)
  clear hb
  clear yf0 yf1 yf2 yf3 yh0 yh1 yh2 yh3
  go_upto_region 9 with (fail)
  obtain ⟨v35, hv35⟩ : ∃ v, v = v34.alloc (.cells #[.int .i64 ss, .slice As ns cs, .int .i64 ts, .slice Bs ms ds] 27) := ⟨_, rfl⟩
  rw [← hv35]
  have Ks : Hid (Blk v35 v34.heap.size 27 #[.int .i64 ss, .slice As ns cs, .int .i64 ts, .slice Bs ms ds]) := by show Blk _ _ _ _; rw [hv35]; exact Blk.new _ _ _
  have hb35 : Below v34.heap.size v34 v35 := by rw [hv35]; exact bal (Below.refl _ _)
  replace HT := Lib.hid (HT.out.on hb35)
  replace BB := Lib.hid (BB.out.trans (hb35.mono BB.out.size))
  replace Kf := Lib.hid (Kf.out.below hb35 Kf.out.lt)
  replace Kh := Lib.hid (Kh.out.below hb35 Kh.out.lt)
  replace Ta := Lib.hid (Ta.out.past (TmEl.keeps _) hb35)
  replace Tb := Lib.hid (Tb.out.past (TmEl.keeps _) hb35)
  replace Tc := Lib.hid (Tc.out.past (TmEl.keeps _) hb35)
  replace Ff := Lib.hid (Fg.past Ff.out hb35)
  replace Fh := Lib.hid (Fg.past Fh.out hb35)
  replace Fs := Lib.hid (Fg.past Fs.out hb35)
  obtain ⟨gs, hg35⟩ : ∃ g, g = v34.heap.size := ⟨_, rfl⟩
  rw [← hg35] at Ks ⊢
  clear hv35 hb35 hg35
  obtain ⟨yf0, yf1, yf2, yf3, -, -, -, -⟩ := fr_cells Kf.out
  obtain ⟨yh0, yh1, yh2, yh3, -, -, -, -⟩ := fr_cells Kh.out
  go_wp2_with fail
  refine (mul_R ⟨sf, Af, nf, cf, tf, Bf, mf, df⟩ ⟨sh, Ah, nh, ch, th, Bh, mh, dh⟩ Ff.out Fh.out HT.out (by decide)).mono ?_
  rintro e v36 ⟨⟨su, Au, nu, cu, tu, Bu, mu, du⟩, rfl, -, -, hf, -, -, hb⟩
  have Fu := Lib.hid hf
  clear hf
  dsimp only [frV]
  replace HT := Lib.hid (HT.out.on hb)
  replace BB := Lib.hid (BB.out.trans (hb.mono BB.out.size))
  replace Kf := Lib.hid (Kf.out.below hb Kf.out.lt)
  replace Kh := Lib.hid (Kh.out.below hb Kh.out.lt)
  replace Ta := Lib.hid (Ta.out.past (TmEl.keeps _) hb)
  replace Tb := Lib.hid (Tb.out.past (TmEl.keeps _) hb)
  replace Tc := Lib.hid (Tc.out.past (TmEl.keeps _) hb)
  replace Ff := Lib.hid (Fg.past Ff.out hb)
  replace Fh := Lib.hid (Fg.past Fh.out hb)
  replace Fs := Lib.hid (Fg.past Fs.out hb)
  replace Ks := Lib.hid (Ks.out.below hb Ks.out.lt)
  clear hb
  clear yf0 yf1 yf2 yf3 yh0 yh1 yh2 yh3
  go_upto_region 10 with (fail)
  obtain ⟨v37, hv37⟩ : ∃ v, v = v36.alloc (.cells #[.int .i64 su, .slice Au nu cu, .int .i64 tu, .slice Bu mu du] 27) := ⟨_, rfl⟩
  rw [← hv37]
  have Ku : Hid (Blk v37 v36.heap.size 27 #[.int .i64 su, .slice Au nu cu, .int .i64 tu, .slice Bu mu du]) := by show Blk _ _ _ _; rw [hv37]; exact Blk.new _ _ _
  have hb37 : Below v36.heap.size v36 v37 := by rw [hv37]; exact bal (Below.refl _ _)
  replace HT := Lib.hid (HT.out.on hb37)
  replace BB := Lib.hid (BB.out.trans (hb37.mono BB.out.size))
  replace Kf := Lib.hid (Kf.out.below hb37 Kf.out.lt)
  replace Kh := Lib.hid (Kh.out.below hb37 Kh.out.lt)
  replace Ta := Lib.hid (Ta.out.past (TmEl.keeps _) hb37)
  replace Tb := Lib.hid (Tb.out.past (TmEl.keeps _) hb37)
  replace Tc := Lib.hid (Tc.out.past (TmEl.keeps _) hb37)
  replace Ff := Lib.hid (Fg.past Ff.out hb37)
  replace Fh := Lib.hid (Fg.past Fh.out hb37)
  replace Fs := Lib.hid (Fg.past Fs.out hb37)
  replace Ks := Lib.hid (Ks.out.below hb37 Ks.out.lt)
  replace Fu := Lib.hid (Fg.past Fu.out hb37)
  obtain ⟨gu, hg37⟩ : ∃ g, g = v36.heap.size := ⟨_, rfl⟩
  rw [← hg37] at Ku ⊢
  clear hv37 hb37 hg37
  have l8 : ∀ f : Rat, (timesT f ua).length ≤ 8 := fun f => by have := length_times8 f ua; omega
  have l8b : ∀ f : Rat, (timesT f ub).length ≤ 8 := fun f => by have := length_times8 f ub; omega
  have CTs := Lib.hid (fun W (hb : Below v37.heap.size v37 W) => Times_T (k := 17) (w := W) ka ⟨ss, As, ns, cs, ts, Bs, ms, ds⟩ (ts_more (Ta.out.past (TmEl.keeps _) hb) (by decide)) (Fg.more (Fg.past Fs.out hb) (by decide)) (HT.out.on hb) ra (by decide) (by omega))
  have CTf := Lib.hid (fun W (hb : Below v37.heap.size v37 W) => Times_T (k := 8) (w := W) ka ⟨sf, Af, nf, cf, tf, Bf, mf, df⟩ (ts_more (Ta.out.past (TmEl.keeps _) hb) (by decide)) (Fg.more (Fg.past Ff.out hb) (by decide)) (HT.out.on hb) ra (by decide) (by omega))
  have CTh := Lib.hid (fun W (hb : Below v37.heap.size v37 W) => Times_T (k := 8) (w := W) ka ⟨sh, Ah, nh, ch, th, Bh, mh, dh⟩ (ts_more (Ta.out.past (TmEl.keeps _) hb) (by decide)) (Fg.more (Fg.past Fh.out hb) (by decide)) (HT.out.on hb) ra (by decide) (by omega))
  have CTu := Lib.hid (fun W (hb : Below v37.heap.size v37 W) => Times_T (k := 16) (w := W) ka ⟨su, Au, nu, cu, tu, Bu, mu, du⟩ (ts_more (Ta.out.past (TmEl.keeps _) hb) (by decide)) (Fg.more (Fg.past Fu.out hb) (by decide)) (HT.out.on hb) ra (by decide) (by omega))
  have CP : Hid (∀ (W : World) (A A2 : Option Addr) (p p2 c c2 : Nat), Below v37.heap.size v37 W → Ts 16 W A p (up (timesT xf ua)) → Ts 16 W A2 p2 (up (timesT xh ua)) → p ≤ c → p2 ≤ c2 → Calls Tryd.prog 10 #[.slice A p c, .slice A2 p2 c2] W (ListEnd W 33 (plusT (timesT xf ua) (timesT xh ua)))) := fun W A A2 p p2 c c2 hb t1 t2 h1 h2 => Plus_T (k := 16) c c2 t1 t2 (HT.out.on hb) (right_times ra) (right_times ra) (by decide) h1 h2 (by have e1 := t1.len; rw [up_len] at e1; have e2 := l8 xf; omega) (by have e1 := t2.len; rw [up_len] at e1; have e2 := l8 xh; omega)
  have CS : Hid (∀ (W : World) (A A2 : Option Addr) (p p2 c c2 : Nat), Ts 34 W A p (up (timesT (xf + xh) ua)) → Ts 33 W A2 p2 (up (plusT (timesT xf ua) (timesT xh ua))) → Calls Tryd.prog 9 #[.slice A p c, .slice A2 p2 c2] W (BoolB true W)) := fun W A A2 p p2 c c2 t1 t2 => Same_is (k := 200) c c2 (ts_more t1 (by decide)) (ts_more t2 (by decide)) (by decide) (by have e1 := t1.len; rw [up_len] at e1; have e2 := l8 (xf + xh); omega) (decide_eq_true (times_sum ra))
  have CT2 : Hid (∀ (W : World) (A : Option Addr) (p c : Nat), Below v37.heap.size v37 W → Ts 16 W A p (up (timesT xf ua)) → Calls Tryd.prog 11 #[.slice A p c, frV ⟨sh, Ah, nh, ch, th, Bh, mh, dh⟩] W (ListEnd W 32 (timesT xh (timesT xf ua)))) := fun W A p c hb t1 => Times_T (k := 16) (w := W) c ⟨sh, Ah, nh, ch, th, Bh, mh, dh⟩ t1 (Fg.more (Fg.past Fh.out hb) (by decide)) (HT.out.on hb) (right_times ra) (by decide) (by have e1 := t1.len; rw [up_len] at e1; have e2 := l8 xf; omega)
  have CS2 : Hid (∀ (W : World) (A A2 : Option Addr) (p p2 c c2 : Nat), Ts 32 W A p (up (timesT (xf * xh) ua)) → Ts 32 W A2 p2 (up (timesT xh (timesT xf ua))) → Calls Tryd.prog 9 #[.slice A p c, .slice A2 p2 c2] W (BoolB true W)) := fun W A A2 p p2 c c2 t1 t2 => Same_is (k := 200) c c2 (ts_more t1 (by decide)) (ts_more t2 (by decide)) (by decide) (by have e1 := t1.len; rw [up_len] at e1; have e2 := l8 (xf * xh); omega) (decide_eq_true (times_prod ra))
  dsimp only [frV] at CTs CTf CTh CTu CT2
  have HS : Hid (∀ w', Below v37.heap.size v37 w' → w'.cell? ⟨gf, 0, none⟩ = some (.int .i64 sf) ∧ w'.cell? ⟨gf, 1, none⟩ = some (.slice Af nf cf) ∧ w'.cell? ⟨gf, 2, none⟩ = some (.int .i64 tf) ∧ w'.cell? ⟨gf, 3, none⟩ = some (.slice Bf mf df) ∧ w'.cell? ⟨gh, 0, none⟩ = some (.int .i64 sh) ∧ w'.cell? ⟨gh, 1, none⟩ = some (.slice Ah nh ch) ∧ w'.cell? ⟨gh, 2, none⟩ = some (.int .i64 th) ∧ w'.cell? ⟨gh, 3, none⟩ = some (.slice Bh mh dh) ∧ w'.cell? ⟨gs, 0, none⟩ = some (.int .i64 ss) ∧ w'.cell? ⟨gs, 1, none⟩ = some (.slice As ns cs) ∧ w'.cell? ⟨gs, 2, none⟩ = some (.int .i64 ts) ∧ w'.cell? ⟨gs, 3, none⟩ = some (.slice Bs ms ds) ∧ w'.cell? ⟨gu, 0, none⟩ = some (.int .i64 su) ∧ w'.cell? ⟨gu, 1, none⟩ = some (.slice Au nu cu) ∧ w'.cell? ⟨gu, 2, none⟩ = some (.int .i64 tu) ∧ w'.cell? ⟨gu, 3, none⟩ = some (.slice Bu mu du)) := fun w' hb => ⟨cell_on hb (Kf.out.cell 0), cell_on hb (Kf.out.cell 1), cell_on hb (Kf.out.cell 2), cell_on hb (Kf.out.cell 3), cell_on hb (Kh.out.cell 0), cell_on hb (Kh.out.cell 1), cell_on hb (Kh.out.cell 2), cell_on hb (Kh.out.cell 3), cell_on hb (Ks.out.cell 0), cell_on hb (Ks.out.cell 1), cell_on hb (Ks.out.cell 2), cell_on hb (Ks.out.cell 3), cell_on hb (Ku.out.cell 0), cell_on hb (Ku.out.cell 1), cell_on hb (Ku.out.cell 2), cell_on hb (Ku.out.cell 3)⟩
  first
  | (go_region_held3 (fun w' => w'.cell? ⟨gf, 0, none⟩ = some (.int .i64 sf) ∧ w'.cell? ⟨gf, 1, none⟩ = some (.slice Af nf cf) ∧ w'.cell? ⟨gf, 2, none⟩ = some (.int .i64 tf) ∧ w'.cell? ⟨gf, 3, none⟩ = some (.slice Bf mf df) ∧ w'.cell? ⟨gh, 0, none⟩ = some (.int .i64 sh) ∧ w'.cell? ⟨gh, 1, none⟩ = some (.slice Ah nh ch) ∧ w'.cell? ⟨gh, 2, none⟩ = some (.int .i64 th) ∧ w'.cell? ⟨gh, 3, none⟩ = some (.slice Bh mh dh) ∧ w'.cell? ⟨gs, 0, none⟩ = some (.int .i64 ss) ∧ w'.cell? ⟨gs, 1, none⟩ = some (.slice As ns cs) ∧ w'.cell? ⟨gs, 2, none⟩ = some (.int .i64 ts) ∧ w'.cell? ⟨gs, 3, none⟩ = some (.slice Bs ms ds) ∧ w'.cell? ⟨gu, 0, none⟩ = some (.int .i64 su) ∧ w'.cell? ⟨gu, 1, none⟩ = some (.slice Au nu cu) ∧ w'.cell? ⟨gu, 2, none⟩ = some (.int .i64 tu) ∧ w'.cell? ⟨gu, 3, none⟩ = some (.slice Bu mu du))
      (first | with_reducible exact HS.out _ Z9.out | with_reducible exact HS.out _ Z8.out | with_reducible exact HS.out _ Z7.out | with_reducible exact HS.out _ Z6.out | with_reducible exact HS.out _ Z5.out | with_reducible exact HS.out _ Z4.out | with_reducible exact HS.out _ Z3.out | with_reducible exact HS.out _ Z2.out | with_reducible exact HS.out _ Z1.out | exact HS.out _ (bdr v37))
      (first | (go_at_call 9; (with_reducible refine (CS2.out _ _ _ _ _ _ _ Tt6.out Tt8.out).mono ?_); rintro e z9 ⟨rfl, hb⟩; have Z9 := Lib.hid ((Z8.out).trans (hb.mono (Z8.out).size)); replace Tt1 := Lib.hid (Tt1.out.past (TmEl.keeps _) hb); replace Tt2 := Lib.hid (Tt2.out.past (TmEl.keeps _) hb); replace Tt3 := Lib.hid (Tt3.out.past (TmEl.keeps _) hb); replace Tt4 := Lib.hid (Tt4.out.past (TmEl.keeps _) hb); replace Tt6 := Lib.hid (Tt6.out.past (TmEl.keeps _) hb); replace Tt7 := Lib.hid (Tt7.out.past (TmEl.keeps _) hb); replace Tt8 := Lib.hid (Tt8.out.past (TmEl.keeps _) hb); clear hb) | (go_at_call 11; (with_reducible refine (CT2.out _ _ _ _ (Z7.out) Tt7.out).mono ?_); rintro e z8 ⟨At8, pt8, ct8, rfl, ht8, hp, hb⟩; have Z8 := Lib.hid ((Z7.out).trans (hb.mono (Z7.out).size)); have Tt8 := Lib.hid hp; replace Tt1 := Lib.hid (Tt1.out.past (TmEl.keeps _) hb); replace Tt2 := Lib.hid (Tt2.out.past (TmEl.keeps _) hb); replace Tt3 := Lib.hid (Tt3.out.past (TmEl.keeps _) hb); replace Tt4 := Lib.hid (Tt4.out.past (TmEl.keeps _) hb); replace Tt6 := Lib.hid (Tt6.out.past (TmEl.keeps _) hb); replace Tt7 := Lib.hid (Tt7.out.past (TmEl.keeps _) hb); clear hp hb) | (go_at_call 11; (with_reducible refine (CTf.out _ (Z6.out)).mono ?_); rintro e z7 ⟨At7, pt7, ct7, rfl, ht7, hp, hb⟩; have Z7 := Lib.hid ((Z6.out).trans (hb.mono (Z6.out).size)); have Tt7 := Lib.hid hp; replace Tt1 := Lib.hid (Tt1.out.past (TmEl.keeps _) hb); replace Tt2 := Lib.hid (Tt2.out.past (TmEl.keeps _) hb); replace Tt3 := Lib.hid (Tt3.out.past (TmEl.keeps _) hb); replace Tt4 := Lib.hid (Tt4.out.past (TmEl.keeps _) hb); replace Tt6 := Lib.hid (Tt6.out.past (TmEl.keeps _) hb); clear hp hb) | (go_at_call 11; (with_reducible refine (CTu.out _ (Z5.out)).mono ?_); rintro e z6 ⟨At6, pt6, ct6, rfl, ht6, hp, hb⟩; have Z6 := Lib.hid ((Z5.out).trans (hb.mono (Z5.out).size)); have Tt6 := Lib.hid hp; replace Tt1 := Lib.hid (Tt1.out.past (TmEl.keeps _) hb); replace Tt2 := Lib.hid (Tt2.out.past (TmEl.keeps _) hb); replace Tt3 := Lib.hid (Tt3.out.past (TmEl.keeps _) hb); replace Tt4 := Lib.hid (Tt4.out.past (TmEl.keeps _) hb); clear hp hb) | (go_at_call 9; (with_reducible refine (CS.out _ _ _ _ _ _ _ Tt1.out Tt4.out).mono ?_); rintro e z5 ⟨rfl, hb⟩; have Z5 := Lib.hid ((Z4.out).trans (hb.mono (Z4.out).size)); replace Tt1 := Lib.hid (Tt1.out.past (TmEl.keeps _) hb); replace Tt2 := Lib.hid (Tt2.out.past (TmEl.keeps _) hb); replace Tt3 := Lib.hid (Tt3.out.past (TmEl.keeps _) hb); replace Tt4 := Lib.hid (Tt4.out.past (TmEl.keeps _) hb); clear hb) | (go_at_call 10; (with_reducible refine (CP.out _ _ _ _ _ _ _ (Z3.out) Tt2.out Tt3.out ht2 ht3).mono ?_); rintro e z4 ⟨At4, pt4, ct4, rfl, ht4, hp, hb⟩; have Z4 := Lib.hid ((Z3.out).trans (hb.mono (Z3.out).size)); have Tt4 := Lib.hid hp; replace Tt1 := Lib.hid (Tt1.out.past (TmEl.keeps _) hb); replace Tt2 := Lib.hid (Tt2.out.past (TmEl.keeps _) hb); replace Tt3 := Lib.hid (Tt3.out.past (TmEl.keeps _) hb); clear hp hb) | (go_at_call 11; (with_reducible refine (CTh.out _ (Z2.out)).mono ?_); rintro e z3 ⟨At3, pt3, ct3, rfl, ht3, hp, hb⟩; have Z3 := Lib.hid ((Z2.out).trans (hb.mono (Z2.out).size)); have Tt3 := Lib.hid hp; replace Tt1 := Lib.hid (Tt1.out.past (TmEl.keeps _) hb); replace Tt2 := Lib.hid (Tt2.out.past (TmEl.keeps _) hb); clear hp hb) | (go_at_call 11; (with_reducible refine (CTf.out _ (Z1.out)).mono ?_); rintro e z2 ⟨At2, pt2, ct2, rfl, ht2, hp, hb⟩; have Z2 := Lib.hid ((Z1.out).trans (hb.mono (Z1.out).size)); have Tt2 := Lib.hid hp; replace Tt1 := Lib.hid (Tt1.out.past (TmEl.keeps _) hb); clear hp hb) | (go_at_call 11; (with_reducible refine (CTs.out _ (bdr v37)).mono ?_); rintro e z1 ⟨At1, pt1, ct1, rfl, ht1, hp, hb⟩; have Z1 := Lib.hid ((bdr v37).trans (hb.mono (bdr v37).size)); have Tt1 := Lib.hid hp; clear hp hb)))
  | fail "no"
  have hb := Z9.out
  clear HS Z1 Z2 Z3 Z4 Z5 Z6 Z7 Z8 Z9 Tt1 Tt2 Tt3 Tt4 Tt6 Tt7 Tt8
  replace HT := Lib.hid (HT.out.on hb)
  replace BB := Lib.hid (BB.out.trans (hb.mono BB.out.size))
  replace Kf := Lib.hid (Kf.out.below hb Kf.out.lt)
  replace Kh := Lib.hid (Kh.out.below hb Kh.out.lt)
  replace Ta := Lib.hid (Ta.out.past (TmEl.keeps _) hb)
  replace Tb := Lib.hid (Tb.out.past (TmEl.keeps _) hb)
  replace Tc := Lib.hid (Tc.out.past (TmEl.keeps _) hb)
  replace Ff := Lib.hid (Fg.past Ff.out hb)
  replace Fh := Lib.hid (Fg.past Fh.out hb)
  replace Fs := Lib.hid (Fg.past Fs.out hb)
  replace Ks := Lib.hid (Ks.out.below hb Ks.out.lt)
  replace Fu := Lib.hid (Fg.past Fu.out hb)
  replace Ku := Lib.hid (Ku.out.below hb Ku.out.lt)
  clear hb
  clear CTs CTf CTh CTu CP CS CT2 CS2
  clear Ks Ku Kh
  clear Fs Fu Fh
  go_wp2_with fail
  have CPa := Lib.hid (fun W (hb : Below z9.heap.size z9 W) => Plus_T (k := 8) (w := W) ka kb (Ta.out.past (TmEl.keeps _) hb) (Tb.out.past (TmEl.keeps _) hb) (HT.out.on hb) ra rb (by decide) hac hbc (by omega) (by omega))
  have CTa := Lib.hid (fun W (hb : Below z9.heap.size z9 W) => Times_T (k := 8) (w := W) ka ⟨sf, Af, nf, cf, tf, Bf, mf, df⟩ (ts_more (Ta.out.past (TmEl.keeps _) hb) (by decide)) (Fg.more (Fg.past Ff.out hb) (by decide)) (HT.out.on hb) ra (by decide) (by omega))
  have CTb := Lib.hid (fun W (hb : Below z9.heap.size z9 W) => Times_T (k := 8) (w := W) kb ⟨sf, Af, nf, cf, tf, Bf, mf, df⟩ (ts_more (Tb.out.past (TmEl.keeps _) hb) (by decide)) (Fg.more (Fg.past Ff.out hb) (by decide)) (HT.out.on hb) rb (by decide) (by omega))
  have CT3 : Hid (∀ (W : World) (A : Option Addr) (p c : Nat), Below z9.heap.size z9 W → Ts 17 W A p (up (plusT ua ub)) → Calls Tryd.prog 11 #[.slice A p c, frV ⟨sf, Af, nf, cf, tf, Bf, mf, df⟩] W (ListEnd W 34 (timesT xf (plusT ua ub)))) := fun W A p c hb t1 => Times_T (k := 17) (w := W) c ⟨sf, Af, nf, cf, tf, Bf, mf, df⟩ t1 (Fg.more (Fg.past Ff.out hb) (by decide)) (HT.out.on hb) (right_plus ra rb) (by decide) (by have e1 := t1.len; rw [up_len] at e1; have e2 := length_plus ua ub; omega)
  have CP : Hid (∀ (W : World) (A A2 : Option Addr) (p p2 c c2 : Nat), Below z9.heap.size z9 W → Ts 16 W A p (up (timesT xf ua)) → Ts 16 W A2 p2 (up (timesT xf ub)) → p ≤ c → p2 ≤ c2 → Calls Tryd.prog 10 #[.slice A p c, .slice A2 p2 c2] W (ListEnd W 33 (plusT (timesT xf ua) (timesT xf ub)))) := fun W A A2 p p2 c c2 hb t1 t2 h1 h2 => Plus_T (k := 16) c c2 t1 t2 (HT.out.on hb) (right_times ra) (right_times rb) (by decide) h1 h2 (by have e1 := t1.len; rw [up_len] at e1; have e2 := l8 xf; omega) (by have e1 := t2.len; rw [up_len] at e1; have e2 := l8b xf; omega)
  have CS : Hid (∀ (W : World) (A A2 : Option Addr) (p p2 c c2 : Nat), Ts 34 W A p (up (timesT xf (plusT ua ub))) → Ts 33 W A2 p2 (up (plusT (timesT xf ua) (timesT xf ub))) → Calls Tryd.prog 9 #[.slice A p c, .slice A2 p2 c2] W (BoolB true W)) := fun W A A2 p p2 c c2 t1 t2 => Same_is (k := 200) c c2 (ts_more t1 (by decide)) (ts_more t2 (by decide)) (by decide) (by have e1 := t1.len; rw [up_len] at e1; have e2 := (show (timesT xf (plusT ua ub)).length ≤ 16 from by have := length_times8 xf (plusT ua ub); have := length_plus ua ub; omega); omega) (decide_eq_true (times_plus ra rb))
  dsimp only [frV] at CTa CTb CT3
  have HS : Hid (∀ w', Below z9.heap.size z9 w' → w'.cell? ⟨gf, 0, none⟩ = some (.int .i64 sf) ∧ w'.cell? ⟨gf, 1, none⟩ = some (.slice Af nf cf) ∧ w'.cell? ⟨gf, 2, none⟩ = some (.int .i64 tf) ∧ w'.cell? ⟨gf, 3, none⟩ = some (.slice Bf mf df)) := fun w' hb => ⟨cell_on hb (Kf.out.cell 0), cell_on hb (Kf.out.cell 1), cell_on hb (Kf.out.cell 2), cell_on hb (Kf.out.cell 3)⟩
  first
  | (go_region_held3 (fun w' => w'.cell? ⟨gf, 0, none⟩ = some (.int .i64 sf) ∧ w'.cell? ⟨gf, 1, none⟩ = some (.slice Af nf cf) ∧ w'.cell? ⟨gf, 2, none⟩ = some (.int .i64 tf) ∧ w'.cell? ⟨gf, 3, none⟩ = some (.slice Bf mf df))
      (first | with_reducible exact HS.out _ Z6.out | with_reducible exact HS.out _ Z5.out | with_reducible exact HS.out _ Z4.out | with_reducible exact HS.out _ Z3.out | with_reducible exact HS.out _ Z2.out | with_reducible exact HS.out _ Z1.out | exact HS.out _ (bdr z9))
      (first | (go_at_call 9; (with_reducible refine (CS.out _ _ _ _ _ _ _ Tt2.out Tt5.out).mono ?_); rintro e z6 ⟨rfl, hb⟩; have Z6 := Lib.hid ((Z5.out).trans (hb.mono (Z5.out).size)); replace Tt1 := Lib.hid (Tt1.out.past (TmEl.keeps _) hb); replace Tt2 := Lib.hid (Tt2.out.past (TmEl.keeps _) hb); replace Tt3 := Lib.hid (Tt3.out.past (TmEl.keeps _) hb); replace Tt4 := Lib.hid (Tt4.out.past (TmEl.keeps _) hb); replace Tt5 := Lib.hid (Tt5.out.past (TmEl.keeps _) hb); clear hb) | (go_at_call 10; (with_reducible refine (CP.out _ _ _ _ _ _ _ (Z4.out) Tt3.out Tt4.out ht3 ht4).mono ?_); rintro e z5 ⟨At5, pt5, ct5, rfl, ht5, hp, hb⟩; have Z5 := Lib.hid ((Z4.out).trans (hb.mono (Z4.out).size)); have Tt5 := Lib.hid hp; replace Tt1 := Lib.hid (Tt1.out.past (TmEl.keeps _) hb); replace Tt2 := Lib.hid (Tt2.out.past (TmEl.keeps _) hb); replace Tt3 := Lib.hid (Tt3.out.past (TmEl.keeps _) hb); replace Tt4 := Lib.hid (Tt4.out.past (TmEl.keeps _) hb); clear hp hb) | (go_at_call 11; (with_reducible refine (CTb.out _ (Z3.out)).mono ?_); rintro e z4 ⟨At4, pt4, ct4, rfl, ht4, hp, hb⟩; have Z4 := Lib.hid ((Z3.out).trans (hb.mono (Z3.out).size)); have Tt4 := Lib.hid hp; replace Tt1 := Lib.hid (Tt1.out.past (TmEl.keeps _) hb); replace Tt2 := Lib.hid (Tt2.out.past (TmEl.keeps _) hb); replace Tt3 := Lib.hid (Tt3.out.past (TmEl.keeps _) hb); clear hp hb) | (go_at_call 11; (with_reducible refine (CTa.out _ (Z2.out)).mono ?_); rintro e z3 ⟨At3, pt3, ct3, rfl, ht3, hp, hb⟩; have Z3 := Lib.hid ((Z2.out).trans (hb.mono (Z2.out).size)); have Tt3 := Lib.hid hp; replace Tt1 := Lib.hid (Tt1.out.past (TmEl.keeps _) hb); replace Tt2 := Lib.hid (Tt2.out.past (TmEl.keeps _) hb); clear hp hb) | (go_at_call 11; (with_reducible refine (CT3.out _ _ _ _ (Z1.out) Tt1.out).mono ?_); rintro e z2 ⟨At2, pt2, ct2, rfl, ht2, hp, hb⟩; have Z2 := Lib.hid ((Z1.out).trans (hb.mono (Z1.out).size)); have Tt2 := Lib.hid hp; replace Tt1 := Lib.hid (Tt1.out.past (TmEl.keeps _) hb); clear hp hb) | (go_at_call 10; (with_reducible refine (CPa.out _ (bdr z9)).mono ?_); rintro e z1 ⟨At1, pt1, ct1, rfl, ht1, hp, hb⟩; have Z1 := Lib.hid ((bdr z9).trans (hb.mono (bdr z9).size)); have Tt1 := Lib.hid hp; clear hp hb)))
  | fail "no"
  have hb := Z6.out
  clear HS Z1 Z2 Z3 Z4 Z5 Z6 Tt1 Tt2 Tt3 Tt4 Tt5
  replace HT := Lib.hid (HT.out.on hb)
  replace BB := Lib.hid (BB.out.trans (hb.mono BB.out.size))
  replace Kf := Lib.hid (Kf.out.below hb Kf.out.lt)
  replace Ta := Lib.hid (Ta.out.past (TmEl.keeps _) hb)
  replace Tb := Lib.hid (Tb.out.past (TmEl.keeps _) hb)
  replace Tc := Lib.hid (Tc.out.past (TmEl.keeps _) hb)
  replace Ff := Lib.hid (Fg.past Ff.out hb)
  clear hb
  clear CPa CTa CTb CT3 CP CS
  go_wp2_with fail
  go_ret
  exact ⟨rfl, BB.out⟩
end Go.Proofs.YtikfjmdeeknalaaDoor
