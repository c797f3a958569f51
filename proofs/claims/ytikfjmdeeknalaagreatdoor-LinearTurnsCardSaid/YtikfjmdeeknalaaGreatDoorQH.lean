/- The walks of frac's compare and Right, and of what they call at integers that are not right. Conditions: sizes; the table of math/bits as its text lays it. -/
import Derived.Test.YtikfjmdeeknalaaGreatDoorQD
import Derived.Test.YtikfjmdeeknalaaGreatDoorQE
namespace Go.Proofs.YtikfjmdeeknalaaGreatDoor
set_option maxRecDepth 20000
open Go.RowKit

/-- The boxes of two fractions. -/
structure DuoF (w W : World) (r r2 : FrR) : Prop where
  k1 : Blk W w.heap.size 43 (frC r)
  k2 : Blk W (w.heap.size + 1) 43 (frC r2)
  bl : Below w.heap.size w W
theorem DuoF.new (w : World) (r r2 : FrR) : DuoF w ((w.alloc (.cells (frC r) 43)).alloc (.cells (frC r2) 43)) r r2 :=
  ⟨(Blk.new w _ _).alloc _, Blk.new_ (by simp), ((Below.refl _ _).alloc (Nat.le_refl _) _).alloc (by simp) _⟩
theorem DuoF.call {w W W' : World} {r r2 : FrR} (h : DuoF w W r r2) (hb : Below W.heap.size W W') : DuoF w W' r r2 :=
  ⟨h.k1.below hb h.k1.lt, h.k2.below hb h.k2.lt, h.bl.trans (hb.mono h.bl.size)⟩
theorem DuoF.cells {w W : World} {r r2 : FrR} (h : DuoF w W r r2) : (W.cell? ⟨w.heap.size, 0, none⟩ = some (.int .i64 r.s1) ∧ W.cell? ⟨w.heap.size, 1, none⟩ = some (.slice r.A1 r.n1 r.c1) ∧ W.cell? ⟨w.heap.size, 2, none⟩ = some (.int .i64 r.s2) ∧ W.cell? ⟨w.heap.size, 3, none⟩ = some (.slice r.A2 r.n2 r.c2)) ∧
    W.cell? ⟨w.heap.size + 1, 0, none⟩ = some (.int .i64 r2.s1) ∧ W.cell? ⟨w.heap.size + 1, 1, none⟩ = some (.slice r2.A1 r2.n1 r2.c1) ∧ W.cell? ⟨w.heap.size + 1, 2, none⟩ = some (.int .i64 r2.s2) ∧ W.cell? ⟨w.heap.size + 1, 3, none⟩ = some (.slice r2.A2 r2.n2 r2.c2) :=
  ⟨⟨h.k1.cell 0, h.k1.cell 1, h.k1.cell 2, h.k1.cell 3⟩, h.k2.cell 0, h.k2.cell 1, h.k2.cell 2, h.k2.cell 3⟩
theorem Bg.sgn {w : World} {k : Nat} {x s : Int} {A : Option Addr} {n : Nat} (h : Bg w k x s A n) : s = sgnZ x := by
  unfold sgnZ
  rcases h.sign with ⟨rfl, h1⟩ | ⟨rfl, h1⟩ | ⟨rfl, h1⟩
  · rw [if_neg (by omega), if_neg (by omega)]
  · rw [if_pos h1]
  · rw [if_neg (by omega), if_pos h1]
theorem ordZ_cross {x y : Rat} : ordZ (x.num * (y.den : Int)) (y.num * (x.den : Int)) = ordR x y := by
  unfold ordZ
  rcases ordR_cross (Low.self x) (Low.self y) with ⟨h, e⟩ | ⟨h, e⟩ | ⟨h, e⟩
  · rw [if_pos h, e]
  · rw [if_neg (by omega), if_pos h, e]
  · rw [if_neg (by omega), if_neg (by omega), e]
theorem ord_signs {x y : Rat} (h : sgnR x ≠ sgnR y) : ordZ (sgnR x) (sgnR y) = ordR x y := by
  rcases sgnR_cases x with ⟨a, e⟩ | ⟨a, e⟩ | ⟨a, e⟩ <;> rcases sgnR_cases y with ⟨b, f⟩ | ⟨b, f⟩ | ⟨b, f⟩
  all_goals first
    | exact absurd (e.trans f.symm) h
    | (rw [e, f, ordR_lt (by grind)]; rfl)
    | (rw [e, f, ordR_gt (by grind)]; rfl)
section
variable {w : World} {k : Nat} {x y : Rat}
set_option maxHeartbeats 16000000 in
theorem compare_F (r r2 : FrR) (h1 : Fg w k x r) (h2 : Fg w k y r2) (hk : k ≤ 100000) {o : Int} (ho : ordR x y = o) :
    Calls Tryz.prog 161 #[frV r, frV r2] w fun e w' => e = .returned (.int .i64 o) ∧ Below w.heap.size w w' := by
  have S := Lib.hid (DuoF.new w r r2)
  have C := Lib.hid (smallPair_any r r2 (h1.past S.out.bl) (h2.past S.out.bl) (by omega) (by omega))
  have H1 := Lib.hid h1
  have H2 := Lib.hid h2
  have hs1 : r.s1 = sgnR x := h1.1.sgn
  have hs2 : r2.s1 = sgnR y := h2.1.sgn
  have HO := Lib.hid ho
  have HZ : Hid (ordZ (x.num * (y.den : Int)) (y.num * (x.den : Int)) = o) := ordZ_cross.trans ho
  clear h1 h2 ho
  obtain ⟨W0, hW0⟩ : ∃ W0, W0 = ((w.alloc (.cells (frC r) 43)).alloc (.cells (frC r2) 43)) := ⟨_, rfl⟩
  rw [← hW0] at S C
  obtain ⟨s1, A1, n1, c1, s2, A2, n2, c2⟩ := r
  obtain ⟨s3, A3, n3, c3, s4, A4, n4, c4⟩ := r2
  dsimp only [frV, frC] at *
  obtain ⟨⟨ka0, ka1, ka2, ka3⟩, kb0, kb1, kb2, kb3⟩ := S.out.cells
  dsimp only at ka0 ka1 ka2 ka3 kb0 kb1 kb2 kb3
  have HB := Lib.hid S.out.bl
  by_cases hs : s1 = s3
  case neg =>
    have HE : Hid (ordZ s1 s3 = o) := by show _ = _; rw [hs1, hs2, ← HO.out]; exact ord_signs (by rw [← hs1, ← hs2]; exact hs)
    have hne : (s1 == s3) = false := by simpa using hs
    have hne2 : (s1 != s3) = true := by simpa using hs
    clear hs1 hs2 HO HZ C H1 H2 S
    go_enter Tryz.func161, Tryz.ntmps161
    go_wp2_with fail
    rw [← hW0]
    clear hW0
    go_wp2_with fail
    refine (Tryz.cmp_Compare_int s1 s3 W0).mono ?_
    rintro e w5 ⟨rfl, rfl⟩
    go_wp2_with fail
    go_ret
    exact ⟨by rw [cmp_ordZ, HE.out]; rfl, HB.out⟩
  case pos =>
  subst hs
  clear hs1 hs2 HO
  go_enter Tryz.func161, Tryz.ntmps161
  go_wp2_with fail
  rw [← hW0]
  clear hW0
  go_wp2_with fail
  refine C.out.mono ?_
  rintro e w1 ⟨a, b, c, d, fit, rfl, hfit, hb⟩
  have S1 := Lib.hid (S.out.call hb)
  have HF := Lib.hid hfit
  clear ka0 ka1 ka2 ka3 kb0 kb1 kb2 kb3 S C hb hfit HB
  cases fit
  case true =>
    obtain ⟨e1, e2, e3, e4, hbit, ra, rb, rc, rd⟩ := HF.out rfl
    obtain ⟨q1, q2⟩ := bitsP_lt ra rb
    obtain ⟨q3, q4⟩ := bitsP_lt rc rd
    obtain ⟨m0, m1⟩ := mul_bits q1 q4 (by omega)
    obtain ⟨n0, n1⟩ := mul_bits q3 q2 (by omega)
    have HE : Hid (ordZ (a * d) (c * b) = o) := by show _ = _; rw [e1, e2, e3, e4]; exact HZ.out
    have S2 := Lib.hid (S1.out.call (bal (bal (Below.refl w1.heap.size w1) (o := .cells #[.int .i64 a, .int .i64 b] 135)) (o := .cells #[.int .i64 c, .int .i64 d] 135)))
    have wr0 : IntKind.i64.wrap (a * d) = a * d := IntWalk.i64_in _ (by omega)
    have wr1 : IntKind.i64.wrap (c * b) = c * b := IntWalk.i64_in _ (by omega)
    clear e1 e2 e3 e4 hbit ra rb rc rd q1 q2 q3 q4 m0 m1 n0 n1 HF HZ
    go_wp2_with fail
    refine (Tryz.cmp_Compare_int (a * d) (c * b) _).mono ?_
    rintro e w5 ⟨rfl, rfl⟩
    go_wp2_with fail
    go_ret
    exact ⟨by rw [cmp_ordZ, HE.out]; rfl, S2.out.bl⟩
  case false =>
    clear HF
    obtain ⟨w3, hw3⟩ : ∃ w3, w3 = (w1.alloc (.cells #[.int .i64 a, .int .i64 b] 135)).alloc (.cells #[.int .i64 c, .int .i64 d] 135) := ⟨_, rfl⟩
    have S3 := Lib.hid (S1.out.call (bal (bal (Below.refl w1.heap.size w1) (o := .cells #[.int .i64 a, .int .i64 b] 135)) (o := .cells #[.int .i64 c, .int .i64 d] 135)))
    rw [← hw3] at S3
    go_upto_region 6 with (fail)
    rw [← hw3]
    clear hw3 S1
    obtain ⟨⟨ka0, ka1, ka2, ka3⟩, kb0, kb1, kb2, kb3⟩ := S3.out.cells
    dsimp only at ka0 ka1 ka2 ka3 kb0 kb1 kb2 kb3
    have HC := Lib.hid (fun (w' : World) (h : Below w3.heap.size w3 w') => (⟨(h.cell (p := ⟨w.heap.size, 0, none⟩) (World.block_lt_of_cell? _ _ ka0)).trans ka0, (h.cell (p := ⟨w.heap.size, 1, none⟩) (World.block_lt_of_cell? _ _ ka1)).trans ka1, (h.cell (p := ⟨w.heap.size, 2, none⟩) (World.block_lt_of_cell? _ _ ka2)).trans ka2, (h.cell (p := ⟨w.heap.size, 3, none⟩) (World.block_lt_of_cell? _ _ ka3)).trans ka3, (h.cell (p := ⟨w.heap.size + 1, 0, none⟩) (World.block_lt_of_cell? _ _ kb0)).trans kb0, (h.cell (p := ⟨w.heap.size + 1, 1, none⟩) (World.block_lt_of_cell? _ _ kb1)).trans kb1, (h.cell (p := ⟨w.heap.size + 1, 2, none⟩) (World.block_lt_of_cell? _ _ kb2)).trans kb2, (h.cell (p := ⟨w.heap.size + 1, 3, none⟩) (World.block_lt_of_cell? _ _ kb3)).trans kb3⟩ : w'.cell? ⟨w.heap.size, 0, none⟩ = some (.int .i64 s1) ∧ w'.cell? ⟨w.heap.size, 1, none⟩ = some (.slice A1 n1 c1) ∧ w'.cell? ⟨w.heap.size, 2, none⟩ = some (.int .i64 s2) ∧ w'.cell? ⟨w.heap.size, 3, none⟩ = some (.slice A2 n2 c2) ∧ w'.cell? ⟨w.heap.size + 1, 0, none⟩ = some (.int .i64 s1) ∧ w'.cell? ⟨w.heap.size + 1, 1, none⟩ = some (.slice A3 n3 c3) ∧ w'.cell? ⟨w.heap.size + 1, 2, none⟩ = some (.int .i64 s4) ∧ w'.cell? ⟨w.heap.size + 1, 3, none⟩ = some (.slice A4 n4 c4)))
    have D1 := Lib.hid (fun (W : World) (h' : Below w3.heap.size w3 W) => times_F (((H1.out.past S3.out.bl).1).past h') (((H2.out.past S3.out.bl).2).past h') (by omega) (by omega) c1 c4)
    have D2 := Lib.hid (fun (W : World) (h' : Below w3.heap.size w3 W) => times_F (((H2.out.past S3.out.bl).1).past h') (((H1.out.past S3.out.bl).2).past h') (by omega) (by omega) c3 c2)
    clear ka0 ka1 ka2 ka3 kb0 kb1 kb2 kb3
    have Bq0 := Lib.hid (Below.refl w3.heap.size w3).drew
    refine wp_region_held_drew (S := fun w' => Below w3.heap.size w3 w') (by kernel_rfl) Bq0.out (fun hHeld => ?_)
    obtain ⟨qw0, hw⟩ : ∃ W, W = w3.drew := ⟨_, rfl⟩
    rw [← hw] at hHeld Bq0 ⊢
    clear hw
    refine take_at (i := 0) (v := ?qv1) rfl (by kernel_rfl) (by kernel_rfl) (by kernel_rfl) (fun _ _ _ h => h) (Or.inl ⟨by rfl, ?qy1⟩) (by assumption) ?qr1
    case qy1 => (intro w hSw; (try dsimp only at hSw); go_simp; (try with_reducible rfl))
    simp only [Act.put, uA, uB, uC]
    refine take_at (i := 1) (v := ?qv2) rfl (by kernel_rfl) (by kernel_rfl) (by kernel_rfl) (fun _ _ _ h => h) (Or.inl ⟨by rfl, ?qy2⟩) (by assumption) ?qr2
    case qy2 => (intro w hSw; (try dsimp only at hSw); obtain ⟨cc0, cc1, cc2, cc3, cc4, cc5, cc6, cc7⟩ := HC.out _ hSw; go_simp; (try with_reducible rfl))
    simp only [Act.put, uA, uB, uC]
    refine take_at (i := 2) (v := ?qv3) rfl (by kernel_rfl) (by kernel_rfl) (by kernel_rfl) (fun _ _ _ h => h) (Or.inl ⟨by rfl, ?qy3⟩) (by assumption) ?qr3
    case qy3 => (intro w hSw; (try dsimp only at hSw); go_simp; (try with_reducible rfl))
    simp only [Act.put, uA, uB, uC]
    refine take_at (i := 3) (v := ?qv4) rfl (by kernel_rfl) (by kernel_rfl) (by kernel_rfl) (fun _ _ _ h => h) (Or.inl ⟨by rfl, ?qy4⟩) (by assumption) ?qr4
    case qy4 => (intro w hSw; (try dsimp only at hSw); obtain ⟨cc0, cc1, cc2, cc3, cc4, cc5, cc6, cc7⟩ := HC.out _ hSw; go_simp; (try with_reducible rfl))
    simp only [Act.put, uA, uB, uC]
    refine take_at (i := 5) (v := ?qv5) rfl (by kernel_rfl) (by kernel_rfl) (by kernel_rfl) (fun _ _ _ h => h) (Or.inl ⟨by rfl, ?qy5⟩) (by assumption) ?qr5
    case qy5 => (intro w hSw; (try dsimp only at hSw); go_simp; (try with_reducible rfl))
    simp only [Act.put, uA, uB, uC]
    refine take_at (i := 6) (v := ?qv6) rfl (by kernel_rfl) (by kernel_rfl) (by kernel_rfl) (fun _ _ _ h => h) (Or.inl ⟨by rfl, ?qy6⟩) (by assumption) ?qr6
    case qy6 => (intro w hSw; (try dsimp only at hSw); obtain ⟨cc0, cc1, cc2, cc3, cc4, cc5, cc6, cc7⟩ := HC.out _ hSw; go_simp; (try with_reducible rfl))
    simp only [Act.put, uA, uB, uC]
    refine take_at (i := 7) (v := ?qv7) rfl (by kernel_rfl) (by kernel_rfl) (by kernel_rfl) (fun _ _ _ h => h) (Or.inl ⟨by rfl, ?qy7⟩) (by assumption) ?qr7
    case qy7 => (intro w hSw; (try dsimp only at hSw); go_simp; (try with_reducible rfl))
    simp only [Act.put, uA, uB, uC]
    refine take_at (i := 8) (v := ?qv8) rfl (by kernel_rfl) (by kernel_rfl) (by kernel_rfl) (fun _ _ _ h => h) (Or.inl ⟨by rfl, ?qy8⟩) (by assumption) ?qr8
    case qy8 => (intro w hSw; (try dsimp only at hSw); obtain ⟨cc0, cc1, cc2, cc3, cc4, cc5, cc6, cc7⟩ := HC.out _ hSw; go_simp; (try with_reducible rfl))
    simp only [Act.put, uA, uB, uC]
    refine wpAnyH_ready (rs := [4]) (by kernel_rfl) (by simp) ?_
    refine cons_at (i := 4) rfl (fun K hK => ?_) AllReadyH.nil
    go_simp
    refine (D1.out _ Bq0.out).mono ?_
    rintro e qw9 ⟨s7, A7, n7, c7, rfl, hc, hg, hf, hb⟩
    try dsimp only
    have X9 := Lib.hid hb
    have Gq4_9 := Lib.hid hg
    have HCq4 := Lib.hid hc
    have FRq4 : Hid (Fresh w3 A7 n7) := fun hp ad e => Nat.le_trans Bq0.out.size (hf hp ad e)
    have Bq10 := Lib.hid (Bq0.out.trans (X9.out.mono Bq0.out.size))
    refine hK.out _ _ ?_ (fun hHeld => ?_)
    · exact Bq10.out
    clear Bq0 X9 hc hg hf hb
    clear hK K
    (try simp only [Act.put, uA, uB, uC])
    refine wpAnyH_ready (rs := [9]) (by kernel_rfl) (by simp) ?_
    refine cons_at (i := 9) rfl (fun K hK => ?_) AllReadyH.nil
    go_simp
    refine (D2.out _ Bq10.out).mono ?_
    rintro e qw11 ⟨s8, A8, n8, c8, rfl, hc, hg, hf, hb⟩
    try dsimp only
    have X11 := Lib.hid hb
    have Gq9_11 := Lib.hid hg
    have HCq9 := Lib.hid hc
    have FRq9 : Hid (Fresh w3 A8 n8) := fun hp ad e => Nat.le_trans Bq10.out.size (hf hp ad e)
    have Bq12 := Lib.hid (Bq10.out.trans (X11.out.mono Bq10.out.size))
    have Gq4_12 := Lib.hid (Gq4_9.out.past X11.out)
    refine hK.out _ _ ?_ (fun hHeld => ?_)
    · exact Bq12.out
    clear Bq10 Gq4_9 X11 hc hg hf hb
    clear hK K
    (try simp only [Act.put, uA, uB, uC])
    refine wpAnyH_ready (rs := [10]) (by kernel_rfl) (by simp) ?_
    refine cons_at (i := 10) rfl (fun K hK => ?_) AllReadyH.nil
    go_simp
    refine (compare_B Gq4_12.out Gq9_11.out (by omega) (by omega) c7 c8 HZ.out).mono ?_
    rintro e qw13 ⟨rfl, hb⟩
    try dsimp only
    have X13 := Lib.hid hb
    have Bq14 := Lib.hid (Bq12.out.trans (X13.out.mono Bq12.out.size))
    have Gq4_14 := Lib.hid (Gq4_12.out.past X13.out)
    have Gq9_14 := Lib.hid (Gq9_11.out.past X13.out)
    refine hK.out _ _ ?_ (fun hHeld => ?_)
    · exact Bq14.out
    clear Bq12 Gq4_12 Gq9_11 X13 hb
    clear hK K
    (try simp only [Act.put, uA, uB, uC])
    refine take_at (i := 11) (v := ?qv15) rfl (by kernel_rfl) (by kernel_rfl) (by kernel_rfl) (fun _ _ _ h => h) (Or.inl ⟨by rfl, ?qy15⟩) (by assumption) ?qr15
    case qy15 => (intro w hSw; (try dsimp only at hSw); go_simp; (try with_reducible rfl))
    simp only [Act.put, uA, uB, uC]
    refine wpAnyH_done (by kernel_rfl) ?_ _
    go_wp2_with fail
    go_ret
    exact ⟨rfl, S3.out.bl.trans (Bq14.out.mono S3.out.bl.size)⟩
end
end Go.Proofs.YtikfjmdeeknalaaGreatDoor

/- The walk of frac's Right at any fraction, and of what it calls at integers that are not right. Conditions: lengths; the table of math/bits as its text lays it. -/
namespace Go.Proofs.YtikfjmdeeknalaaGreatDoor
set_option maxRecDepth 20000
open Go.RowKit

theorem one_cell {w : World} {g : Nat} {t : TypeId} {a : Value} (h : Blk w g t #[a]) : w.cell? ⟨g, 0, none⟩ = some a ∧ w.frozen? ⟨g, 0, none⟩ = false := ⟨h.cell 0, h.frozen 0⟩
theorem Blk.set1 {w : World} {g : Nat} {t : TypeId} {x : Value} (h : Blk w g t #[x]) (a : Value) : Blk (w.setCell ⟨g, 0, none⟩ a) g t #[a] := by
  have := h.set_ 0 a
  simpa using this
set_option maxHeartbeats 4000000 in
theorem Int_no {w : World} {s : Int} {A : Option Addr} {n c : Nat} {l : List Int} (ha : BigArg w ⟨s, A, n, c⟩ l) (hr : rightB s l = false) (hn : n ≤ 1073741824) :
    Calls Tryz.prog 24 #[.agg #[.int .i64 s, .slice A n c]] w fun e w' => e = .returned (.tuple #[.int .i64 0, .bool false]) ∧ Below w.heap.size w w' := by
  obtain ⟨W, hW⟩ : ∃ W, W = ((w.alloc (.cells #[.int .i64 s, .slice A n c] 24)).alloc (.cells #[.int .i64 0] 3)).alloc (.cells #[.bool false] 4) := ⟨_, rfl⟩
  have HB : Hid (Below w.heap.size w W) := by show Below _ _ _; rw [hW]; exact (((Below.refl _ _).alloc (Nat.le_refl _) _).alloc (by simp) _).alloc (by simp; omega) _
  have K1 : Hid (Blk W (w.heap.size + 1) 3 #[.int .i64 0]) := by show Blk _ _ _ _; rw [hW]; exact (Blk.new_ (by simp)).alloc _
  have K2 : Hid (Blk W (w.heap.size + 1 + 1) 4 #[.bool false]) := by show Blk _ _ _ _; rw [hW]; exact Blk.new_ (by simp)
  have R := Lib.hid (right_is ha hn HB.out hr)
  clear ha hr
  dsimp only at R
  go_enter Tryz.func24, Tryz.ntmps24
  go_wp2_with fail
  rw [← hW]
  clear hW
  refine R.out.mono ?_
  rintro e w4 ⟨rfl, hb⟩
  have B4 := Lib.hid (HB.out.trans (hb.mono HB.out.size))
  have J1 := Lib.hid (K1.out.below hb K1.out.lt)
  have J2 := Lib.hid (K2.out.below hb K2.out.lt)
  obtain ⟨a0, a1⟩ := one_cell J1.out
  obtain ⟨b0, b1⟩ := one_cell J2.out
  clear hb K1 K2 R HB
  have L1 := Lib.hid ((J1.out.set1 (.int .i64 0)).far (p := ⟨w.heap.size + 1 + 1, 0, none⟩) (by simp) (.bool false))
  have L2 := Lib.hid ((J2.out.far (p := ⟨w.heap.size + 1, 0, none⟩) (by simp) (.int .i64 0)).set1 (.bool false))
  obtain ⟨c0, -⟩ := one_cell L1.out
  obtain ⟨d0, -⟩ := one_cell L2.out
  go_wp2_with fail
  exact bodyPost_ret (v := .tuple #[.int .i64 0, .bool false]) (by simp [results, Tryz.results24, go_sem, c0, d0]) rfl ⟨rfl, below_set (below_set B4.out (by omega) _ _) (by omega) _ _⟩
set_option maxHeartbeats 4000000 in
theorem Gcd_no {w : World} {s1 s2 : Int} {A1 A2 : Option Addr} {n1 c1 n2 c2 : Nat} {l1 l2 : List Int} (h1 : BigArg w ⟨s1, A1, n1, c1⟩ l1) (h2 : BigArg w ⟨s2, A2, n2, c2⟩ l2) (hr : (rightB s1 l1 && rightB s2 l2) = false) (hn1 : n1 ≤ 1073741824) (hn2 : n2 ≤ 1073741824) :
    Calls Tryz.prog 28 #[.agg #[.int .i64 s1, .slice A1 n1 c1], .agg #[.int .i64 s2, .slice A2 n2 c2]] w fun e w' => e = .returned (.tuple #[.agg #[.int .i64 0, .slice none 0 0], .int .i64 1]) ∧ Below w.heap.size w w' := by
  obtain ⟨W, hW⟩ : ∃ W, W = ((w.alloc (.cells #[.int .i64 s1, .slice A1 n1 c1] 24)).alloc (.cells #[.int .i64 s2, .slice A2 n2 c2] 24)).alloc (.cells #[.int .i64 0, .slice none 0 0] 24) := ⟨_, rfl⟩
  have HB : Hid (Below w.heap.size w W) := by show Below _ _ _; rw [hW]; exact (((Below.refl _ _).alloc (Nat.le_refl _) _).alloc (by simp) _).alloc (by simp; omega) _
  have K2 : Hid (Blk W (w.heap.size + 1) 24 #[.int .i64 s2, .slice A2 n2 c2]) := by show Blk _ _ _ _; rw [hW]; exact (Blk.new_ (by simp)).alloc _
  have K3 : Hid (Blk W (w.heap.size + 1 + 1) 24 #[.int .i64 0, .slice none 0 0]) := by show Blk _ _ _ _; rw [hW]; exact Blk.new_ (by simp)
  have R1 := Lib.hid (fun b h => right_is (b := b) h1 hn1 HB.out h)
  have R2 := Lib.hid (fun b W' hb h => right_is (w' := W') (b := b) h2 hn2 hb h)
  clear h1 h2
  dsimp only at R1 R2
  cases hr1 : rightB s1 l1
  · have M := Lib.hid (R1.out _ hr1)
    clear hr hr1 R1 R2 K2
    go_enter Tryz.func28, Tryz.ntmps28
    go_wp2_with fail
    rw [← hW]
    clear hW
    refine M.out.mono ?_
    rintro e w4 ⟨rfl, hb⟩
    have B4 := Lib.hid (HB.out.trans (hb.mono HB.out.size))
    have J3 := Lib.hid (K3.out.below hb K3.out.lt)
    obtain ⟨a0, a1, a2, a3⟩ := sm_cells J3.out
    clear hb K3 M HB
    have L := Lib.hid (J3.out.set2 (a := .int .i64 0) (b := .slice none 0 0))
    obtain ⟨c0, c1, -, -⟩ := sm_cells L.out
    go_wp2_with fail
    exact bodyPost_ret (v := .tuple #[.agg #[.int .i64 0, .slice none 0 0], .int .i64 1]) (by simp [results, Tryz.results28, go_sem, c0, c1]) rfl ⟨rfl, below_2 B4.out (by omega)⟩
  · have hr2 : rightB s2 l2 = false := by rw [hr1] at hr; simpa using hr
    have M := Lib.hid (R1.out _ hr1)
    have M2 := Lib.hid (fun W' hb => R2.out _ W' hb hr2)
    clear hr hr1 hr2 R1 R2
    go_enter Tryz.func28, Tryz.ntmps28
    go_wp2_with fail
    rw [← hW]
    clear hW
    refine M.out.mono ?_
    rintro e w4 ⟨rfl, hb⟩
    have B4 := Lib.hid (HB.out.trans (hb.mono HB.out.size))
    have J3 := Lib.hid (K3.out.below hb K3.out.lt)
    obtain ⟨b0, b1, -, -⟩ := sm_cells (K2.out.below hb K2.out.lt)
    clear hb K3 K2 M HB
    go_wp2_with fail
    refine (M2.out _ B4.out).mono ?_
    rintro e w5 ⟨rfl, hb⟩
    have B5 := Lib.hid (B4.out.trans (hb.mono B4.out.size))
    have I3 := Lib.hid (J3.out.below hb J3.out.lt)
    obtain ⟨a0, a1, a2, a3⟩ := sm_cells I3.out
    clear hb J3 M2 B4 b0 b1
    have L := Lib.hid (I3.out.set2 (a := .int .i64 0) (b := .slice none 0 0))
    obtain ⟨c0, c1, -, -⟩ := sm_cells L.out
    go_wp2_with fail
    exact bodyPost_ret (v := .tuple #[.agg #[.int .i64 0, .slice none 0 0], .int .i64 1]) (by simp [results, Tryz.results28, go_sem, c0, c1]) rfl ⟨rfl, below_2 B5.out (by omega)⟩
set_option maxHeartbeats 4000000 in
theorem smallOf_by {w : World} (r : FrR) {a b : Int} {u v : Bool}
    (M1 : ∀ W, Below w.heap.size w W → Calls Tryz.prog 24 #[.agg #[.int .i64 r.s1, .slice r.A1 r.n1 r.c1]] W fun e w' => e = .returned (.tuple #[.int .i64 a, .bool u]) ∧ Below W.heap.size W w')
    (M2 : ∀ W, Below w.heap.size w W → Calls Tryz.prog 24 #[.agg #[.int .i64 r.s2, .slice r.A2 r.n2 r.c2]] W fun e w' => e = .returned (.tuple #[.int .i64 b, .bool v]) ∧ Below W.heap.size W w') :
    Calls Tryz.prog 157 #[frV r] w fun e w' => e = .returned (.tuple #[.agg #[.int .i64 a, .int .i64 b], .bool (u && v)]) ∧ Below w.heap.size w w' := by
  have K0 : Hid (Below w.heap.size w ((w.alloc (.cells (frC r) 43)).alloc (.cells #[.int .i64 0, .int .i64 0] 135))) := ((Below.refl _ _).alloc (Nat.le_refl _) _).alloc (by simp) _
  have KA : Hid (Blk ((w.alloc (.cells (frC r) 43)).alloc (.cells #[.int .i64 0, .int .i64 0] 135)) w.heap.size 43 (frC r)) := (Blk.new w _ _).alloc _
  have KB : Hid (Blk ((w.alloc (.cells (frC r) 43)).alloc (.cells #[.int .i64 0, .int .i64 0] 135)) (w.heap.size + 1) 135 #[.int .i64 0, .int .i64 0]) := by
    show Blk _ _ _ _
    exact Blk.new_ (by simp)
  have N1 := Lib.hid M1
  have N2 := Lib.hid M2
  clear M1 M2
  obtain ⟨s1, A1, n1, c1, s2, A2, n2, c2⟩ := r
  dsimp only [frV, frC] at *
  cases u <;> cases v
  all_goals
    go_enter Tryz.func157, Tryz.ntmps157
    go_wp2_with fail
    refine (N1.out _ K0.out).mono ?_
    rintro e w1 ⟨rfl, hb⟩
    have B1 := Lib.hid (K0.out.trans (hb.mono K0.out.size))
    have B1' := Lib.hid hb
    have ka := KA.out.below hb KA.out.lt
    have f2 := ka.cell 2
    have f3 := ka.cell 3
    clear hb ka
    go_wp2_with fail
    refine (N2.out _ B1.out).mono ?_
    rintro e w2 ⟨rfl, hb⟩
    have B2 := Lib.hid (B1.out.trans (hb.mono B1.out.size))
    have KB2 := Lib.hid ((KB.out.below B1'.out KB.out.lt).below hb (KB.out.below B1'.out KB.out.lt).lt)
    obtain ⟨q0, q1, q2, q3⟩ := sm_cells KB2.out
    clear hb
    go_wp2_with fail
    obtain ⟨wf, hwf, k0, k1, -, kb⟩ := sm_end KB2.out (.int .i64 a) (.int .i64 b)
    rw [← hwf]
    clear hwf
    exact bodyPost_ret (v := .tuple #[.agg #[.int .i64 a, .int .i64 b], .bool _]) (by simp [results, Tryz.results157, go_sem, k0, k1]) rfl ⟨rfl, kb B2.out (by omega)⟩
end Go.Proofs.YtikfjmdeeknalaaGreatDoor

/- The walk of frac's Right at any fraction. Conditions: lengths; the table of math/bits as its text lays it. -/
namespace Go.Proofs.YtikfjmdeeknalaaGreatDoor
set_option maxRecDepth 20000
open Go.RowKit

/-- A fraction, right or not, as an argument. -/
structure FrArg (w : World) (r : FrR) (l1 l2 : List Int) : Prop where
  p : BigArg w ⟨r.s1, r.A1, r.n1, r.c1⟩ l1
  q : BigArg w ⟨r.s2, r.A2, r.n2, r.c2⟩ l2
/-- It is a right fraction. -/
def IsFr (w : World) (r : FrR) (x : Rat) : Prop := Fg w (r.n1 + r.n2) x r
theorem Sz.more {j k : Nat} {x : Int} (h : Sz j x) (hk : j ≤ k) : Sz k x := Nat.lt_of_lt_of_le h (Nat.pow_le_pow_right (by decide) hk)
section
variable {w : World}
theorem BigArg.past {w w' : World} {r : ArgR} {l : List Int} (h : BigArg w r l) (hb : Below w.heap.size w w') : BigArg w' r l := ⟨(h.rd.past hb).here, h.fit, h.sg⟩
set_option maxHeartbeats 8000000 in
theorem right_both {j k : Nat} {p q : Int} (r : FrR) (h1 : Bg w j p r.s1 r.A1 r.n1) (h2 : Bg w k q r.s2 r.A2 r.n2) (hs : r.s2 = 1) (hT : TabZ w) (hj : j ≤ 1000000) (hk : k ≤ 1000000) {o : Bool} (ho : decide (Int.gcd p q = 1) = o) :
    Calls Tryz.prog 58 #[frV r] w fun e w' => e = .returned (.bool o) ∧ Below w.heap.size w w' := by
  have hq0 : 0 < q := by rcases h2.sign with ⟨-, h⟩ | ⟨h, -⟩ | ⟨h, -⟩ <;> omega
  have HB : Hid (Below w.heap.size w (w.alloc (.cells (frC r) 43))) := (Below.refl _ _).alloc (Nat.le_refl _) _
  have KA : Hid (Blk (w.alloc (.cells (frC r) 43)) w.heap.size 43 (frC r)) := Blk.new w _ _
  have ea := pair_is (intP p)
  have eb := pair_is (intP q)
  generalize (intP p).1 = a at *
  generalize (intP p).2 = u at *
  generalize (intP q).1 = b at *
  generalize (intP q).2 = v at *
  have M := Lib.hid (smallOf_any r (h1.past HB.out) (h2.past HB.out) (by omega) (by omega) ea eb)
  cases huv : (u && v)
  case true =>
    simp only [Bool.and_eq_true] at huv
    obtain ⟨rfl, rfl⟩ := huv
    obtain ⟨a1, a2, a3⟩ := intP_of ea
    obtain ⟨b1, b2, b3⟩ := intP_of eb
    subst a1 b1
    have S1 := Lib.hid (fun w => size_any a w a2 a3)
    have S2 := Lib.hid (fun w => size_any b w b2 b3)
    have D := Lib.hid (fun w => div64_any a.natAbs b.natAbs w (by omega) (by omega))
    rw [gcd_abs] at D
    obtain ⟨g, hg⟩ : ∃ g : Int, ((Int.gcd a b : Nat) : Int) = g := ⟨_, rfl⟩
    have hgo : (g == 1) = o := by
      rw [← ho, ← hg]
      by_cases h : Int.gcd a b = 1
      · rw [decide_eq_true h, h]; rfl
      · rw [decide_eq_false h]
        simp
        omega
    rw [hg] at D
    obtain ⟨P, hP⟩ : ∃ P : Int, ((a.natAbs : Nat) : Int) = P := ⟨_, rfl⟩
    obtain ⟨Q, hQ⟩ : ∃ P : Int, ((b.natAbs : Nat) : Int) = P := ⟨_, rfl⟩
    rw [hP] at S1 D
    rw [hQ] at S2 D
    have HGO := Lib.hid hgo
    obtain ⟨s1, A1, n1, c1, s2, A2, n2, c2⟩ := r
    dsimp only [frV, frC] at *
    subst hs
    obtain ⟨k0, k1, k2, k3, -, -, -, -⟩ := fr_cells KA.out
    clear h1 h2 ea eb hP hQ hg hgo ho hq0 a2 a3 b2 b3
    go_enter Tryz.func58, Tryz.ntmps58
    go_wp2_with fail
    refine M.out.mono ?_
    rintro e w2 ⟨rfl, hb⟩
    have B2 := Lib.hid (HB.out.trans (hb.mono HB.out.size))
    obtain ⟨W, hW⟩ : ∃ W, W = w2.alloc (.cells #[.int .i64 a, .int .i64 b] 135) := ⟨_, rfl⟩
    have BW : Hid (Below w.heap.size w W) := by show Below _ _ _; rw [hW]; exact B2.out.alloc B2.out.size _
    obtain ⟨g0, hg0⟩ : ∃ g, g = w2.heap.size := ⟨_, rfl⟩
    have KW : Hid (Blk W g0 135 #[.int .i64 a, .int .i64 b]) := by show Blk _ _ _ _; rw [hW, hg0]; exact Blk.new _ _ _
    have HD : Hid (∀ d, Calls Tryz.prog 158 #[.int .u64 P, .int .u64 Q] (W.drewN d) fun e w' => e = .returned (.int .u64 g) ∧ ∃ n, w' = W.drewN n) := fun d => by
      refine (D.out _).mono ?_
      rintro e w' ⟨rfl, hd⟩
      obtain ⟨d2, rfl⟩ := hd
      exact ⟨rfl, Drew.more ⟨d, rfl⟩⟩
    clear hb B2 M KA D k0 k1 k2 k3
    obtain ⟨z0, z1, -, -⟩ := sm_cells KW.out
    go_upto_region 5 with (fail)
    rw [← hW, ← hg0]
    clear hW hg0
    go_quiet ((first | (go_at_call_of 159 (Value.int .i64 a); exact (S1.out _).mono fun _ _ h => ⟨h.1, _, h.2.symm⟩) | (go_at_call_of 159 (Value.int .i64 b); exact (S2.out _).mono fun _ _ h => ⟨h.1, _, h.2.symm⟩) | (go_at_call 158; exact HD.out _)))
    go_wp2_with fail
    go_ret
    exact ⟨by rw [HGO.out]; rfl, BW.out.trans ((Drew.below ⟨_, rfl⟩).mono BW.out.size)⟩
  case false =>
    obtain ⟨g, hg⟩ : ∃ g : Int, ((Int.gcd p q : Nat) : Int) = g := ⟨_, rfl⟩
    have HGG := Lib.hid hg
    have HZG : Hid (Sz (j + k) g) := by show Sz _ _; rw [← hg]; exact gcd_sz (h1.1.more (by omega)) (h2.1.more (by omega))
    have HO : Hid (decide (g = 1) = o) := by
      show _ = _
      rw [← ho, ← hg]
      exact decide_eq_decide.2 (by omega)
    rw [huv] at M
    have H1 := Lib.hid h1
    have H2 := Lib.hid h2
    have HT := Lib.hid hT
    obtain ⟨s1, A1, n1, c1, s2, A2, n2, c2⟩ := r
    dsimp only [frV, frC] at *
    subst hs
    obtain ⟨k0, k1, k2, k3, -, -, -, -⟩ := fr_cells KA.out
    clear h1 h2 ea eb hg ho hq0 hT huv
    go_enter Tryz.func58, Tryz.ntmps58
    go_wp2_with fail
    refine M.out.mono ?_
    rintro e w2 ⟨rfl, hb⟩
    have B2 := Lib.hid (HB.out.trans (hb.mono HB.out.size))
    have K2 := Lib.hid (KA.out.below hb KA.out.lt)
    clear hb KA k0 k1 k2 k3 M
    obtain ⟨k0, k1, k2, k3, -, -, -, -⟩ := fr_cells K2.out
    have hlt : w.heap.size < w2.heap.size := K2.out.lt
    go_wp2_with fail
    refine (gcd_F (H1.out.past (B2.out.alloc B2.out.size _)) (H2.out.past (B2.out.alloc B2.out.size _)) (HT.out.on (B2.out.alloc B2.out.size _)) (by omega) (by omega) c1 c2 _ g HGG.out HZG.out).mono ?_
    rintro e w3 ⟨s, A, n, c, rfl, hc, hg, hf, hb⟩
    have B3 := Lib.hid ((B2.out.alloc B2.out.size (.cells #[.int .i64 a, .int .i64 b] 135)).trans (hb.mono (B2.out.alloc B2.out.size (.cells #[.int .i64 a, .int .i64 b] 135)).size))
    have I := Lib.hid (isOne_any (hg.al (o := .cells #[.int .i64 s, .slice A n c] 24)) c HO.out)
    clear hc hg hf hb K2 k0 k1 k2 k3 H1 H2 HT
    go_wp2_with fail
    refine I.out.mono ?_
    rintro e w4 ⟨rfl, hb⟩
    have B4 := Lib.hid ((B3.out.alloc B3.out.size (.cells #[.int .i64 s, .slice A n c] 24)).trans (hb.mono (B3.out.alloc B3.out.size (.cells #[.int .i64 s, .slice A n c] 24)).size))
    clear hb I
    go_wp2_with fail
    go_ret
    exact ⟨rfl, B4.out⟩
set_option maxHeartbeats 8000000 in
/-- Right at a fraction whose parts are not both right. -/
theorem right_none (r : FrR) {l1 l2 : List Int} (ha : FrArg w r l1 l2) (hn1 : r.n1 ≤ 1000000) (hn2 : r.n2 ≤ 1000000) (hs : r.s2 = 1) (hr : (rightB r.s1 l1 && rightB r.s2 l2) = false) :
    Calls Tryz.prog 58 #[frV r] w fun e w' => e = .returned (.bool false) ∧ Below w.heap.size w w' := by
  have HB : Hid (Below w.heap.size w (w.alloc (.cells (frC r) 43))) := (Below.refl _ _).alloc (Nat.le_refl _) _
  have KA : Hid (Blk (w.alloc (.cells (frC r) 43)) w.heap.size 43 (frC r)) := Blk.new w _ _
  have I1 : ∃ a u, (rightB r.s1 l1 = false → u = false) ∧ ∀ W, Below w.heap.size w W → Calls Tryz.prog 24 #[.agg #[.int .i64 r.s1, .slice r.A1 r.n1 r.c1]] W fun e w' => e = .returned (.tuple #[.int .i64 a, .bool u]) ∧ Below W.heap.size W w' := by
    cases h : rightB r.s1 l1
    · exact ⟨0, false, fun _ => rfl, fun W hb => Int_no (ha.p.past hb) h (by omega)⟩
    · obtain ⟨x, hx⟩ := ha.p.bg h (Nat.le_refl _)
      exact ⟨_, _, (fun h => by cases h), fun W hb => int_BI (hx.past hb) (by dsimp only; omega) r.c1 (pair_is (intP x))⟩
  have I2 : ∃ a u, (rightB r.s2 l2 = false → u = false) ∧ ∀ W, Below w.heap.size w W → Calls Tryz.prog 24 #[.agg #[.int .i64 r.s2, .slice r.A2 r.n2 r.c2]] W fun e w' => e = .returned (.tuple #[.int .i64 a, .bool u]) ∧ Below W.heap.size W w' := by
    cases h : rightB r.s2 l2
    · exact ⟨0, false, fun _ => rfl, fun W hb => Int_no (ha.q.past hb) h (by omega)⟩
    · obtain ⟨x, hx⟩ := ha.q.bg h (Nat.le_refl _)
      exact ⟨_, _, (fun h => by cases h), fun W hb => int_BI (hx.past hb) (by dsimp only; omega) r.c2 (pair_is (intP x))⟩
  obtain ⟨a, u, hu, M1⟩ := I1
  obtain ⟨b, v, hv, M2⟩ := I2
  have huv : (u && v) = false := by
    cases h1 : rightB r.s1 l1
    · rw [hu h1]; rfl
    · rw [h1, Bool.true_and] at hr
      rw [hv hr, Bool.and_false]
  have M := smallOf_by (w := w.alloc (.cells (frC r) 43)) r (fun W hb => M1 W (HB.out.trans (hb.mono HB.out.size))) (fun W hb => M2 W (HB.out.trans (hb.mono HB.out.size)))
  rw [huv] at M
  have HM := Lib.hid M
  have G := Lib.hid (fun W (hb : Below w.heap.size w W) => Gcd_no (ha.p.past hb) (ha.q.past hb) hr (by omega) (by omega))
  clear M M1 M2 hu hv huv ha hr
  obtain ⟨s1, A1, n1, c1, s2, A2, n2, c2⟩ := r
  dsimp only [frV, frC] at *
  subst hs
  obtain ⟨k0, k1, k2, k3, -, -, -, -⟩ := fr_cells KA.out
  go_enter Tryz.func58, Tryz.ntmps58
  go_wp2_with fail
  refine HM.out.mono ?_
  rintro e w2 ⟨rfl, hb⟩
  have B2 := Lib.hid (HB.out.trans (hb.mono HB.out.size))
  have K2 := Lib.hid (KA.out.below hb KA.out.lt)
  clear hb KA k0 k1 k2 k3 HM
  obtain ⟨k0, k1, k2, k3, -, -, -, -⟩ := fr_cells K2.out
  have hlt : w.heap.size < w2.heap.size := K2.out.lt
  go_wp2_with fail
  refine (G.out _ (B2.out.alloc B2.out.size _)).mono ?_
  rintro e w3 ⟨rfl, hb⟩
  have B3 := Lib.hid ((B2.out.alloc B2.out.size (.cells #[.int .i64 a, .int .i64 b] 135)).trans (hb.mono (B2.out.alloc B2.out.size (.cells #[.int .i64 a, .int .i64 b] 135)).size))
  clear hb G K2 k0 k1 k2 k3
  go_wp2_with fail
  go_ret
  exact ⟨rfl, B3.out.alloc B3.out.size _⟩
set_option maxHeartbeats 2000000 in
theorem right_sign (r : FrR) (hs : r.s2 ≠ 1) (w : World) :
    Calls Tryz.prog 58 #[frV r] w fun e w' => e = .returned (.bool false) ∧ Below w.heap.size w w' := by
  have HB : Hid (Below w.heap.size w (w.alloc (.cells (frC r) 43))) := (Below.refl _ _).alloc (Nat.le_refl _) _
  obtain ⟨s1, A1, n1, c1, s2, A2, n2, c2⟩ := r
  dsimp only [frV, frC] at *
  have h1 : (s2 == 1) = false := by simpa using hs
  have h2 : (s2 != 1) = true := by simpa using hs
  clear hs
  go_enter Tryz.func58, Tryz.ntmps58
  go_wp2_with fail
  go_ret
  exact ⟨rfl, HB.out⟩
/-- Right at a right fraction. -/
theorem right_T {k : Nat} {x : Rat} (r : FrR) (h : Fg w k x r) (hT : TabZ w) (hk : k ≤ 1000000) :
    Calls Tryz.prog 58 #[frV r] w fun e w' => e = .returned (.bool true) ∧ Below w.heap.size w w' := by
  refine right_both r h.1 h.2 ?_ hT hk hk (decide_eq_true ?_)
  · rcases h.2.sign with ⟨h1, -⟩ | ⟨-, h1⟩ | ⟨-, h1⟩
    · exact h1
    · omega
    · have := x.den_pos; omega
  · have := x.reduced
    unfold Int.gcd
    rw [Int.natAbs_natCast]
    exact this
/-- .. at any other one. -/
theorem right_F (r : FrR) {l1 l2 : List Int} (ha : FrArg w r l1 l2) (hT : TabZ w) (hn1 : r.n1 ≤ 500000) (hn2 : r.n2 ≤ 500000) (hno : ∀ x, ¬ IsFr w r x) :
    Calls Tryz.prog 58 #[frV r] w fun e w' => e = .returned (.bool false) ∧ Below w.heap.size w w' := by
  by_cases hs : r.s2 = 1
  case neg => exact right_sign r hs w
  cases hr : rightB r.s1 l1 && rightB r.s2 l2
  case false => exact right_none r ha (by omega) (by omega) hs hr
  rw [Bool.and_eq_true] at hr
  obtain ⟨p, hp⟩ := ha.p.bg hr.1 (Nat.le_refl _)
  obtain ⟨q, hq⟩ := ha.q.bg hr.2 (Nat.le_refl _)
  refine right_both r hp hq hs hT (by dsimp only; omega) (by dsimp only; omega) (decide_eq_false fun hg => ?_)
  have hq0 : 0 < q := by
    have hsg := hq.sign
    dsimp only at hsg
    rcases hsg with ⟨-, h⟩ | ⟨h, -⟩ | ⟨h, -⟩ <;> omega
  have hc : Nat.Coprime p.natAbs q.toNat := by
    have : q.toNat = q.natAbs := by omega
    rw [this]; exact hg
  have hx : Rat.den ⟨p, q.toNat, by omega, hc⟩ = q.toNat := rfl
  refine hno ⟨p, q.toNat, by omega, hc⟩ ⟨hp.more (by dsimp only; omega), ?_⟩
  show Bg w _ ((q.toNat : Nat) : Int) _ _ _
  rw [show ((q.toNat : Nat) : Int) = q by omega]
  exact hq.more (by dsimp only; omega)
end
end Go.Proofs.YtikfjmdeeknalaaGreatDoor
