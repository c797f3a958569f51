/- The law's holds (a row as a system of its own), and what LinearTurns rests on, plainly. Conditions: sizes; the table of math/bits as its text lays it. -/
import Derived.Test.YtikfjmdeeknalaaGreatDoorY4
import Derived.Test.YtikfjmdeeknalaaGreatDoorW9
namespace Go.Proofs.YtikfjmdeeknalaaGreatDoor
set_option maxRecDepth 20000
open Go.RowKit

set_option maxHeartbeats 4000000 in
/-- A row holds as a system of its own. -/
theorem holds_T {k n c m cx : Nat} {A X : Option Addr} {x : RowP} {xs : List (Option Rat)} (r : FrR) (w : World) (hl : Ts k w A n x.ts) (hn : n ≤ c ∧ n ≤ 64) (hv : Fo w k x.val r) (c1 : r.n1 ≤ r.c1) (c2 : r.n2 ≤ r.c2) (hx : Xs k w X m xs) (hT : TabZ w) (hk : k ≤ 500) (hm : m ≤ 1073741824) {b : Bool} (hb : sysH (m : Int) [x] xs = b) :
    Calls Tryz.prog 96 #[rwV A n c x.kind r, .slice X m cx] w (BoolB b w) := by
  obtain ⟨W0, hW0⟩ : ∃ W0, W0 = w.alloc (.cells (rwC A n c x.kind r) 77) := ⟨_, rfl⟩
  have B0 : Hid (Below w.heap.size w W0) := by show Below _ _ _; rw [hW0]; exact bal (Below.refl _ _)
  have K0 : Hid (Blk W0 w.heap.size 77 (rwC A n c x.kind r)) := by show Blk _ _ _ _; rw [hW0]; exact Blk.new _ _ _
  obtain ⟨W1, hW1⟩ : ∃ W1, W1 = W0.alloc (.cells (rwC A n c x.kind r) 77) := ⟨_, rfl⟩
  have B1 : Hid (Below w.heap.size w W1) := by show Below _ _ _; rw [hW1]; exact bal B0.out
  have K1 : Hid (Blk W1 W0.heap.size 77 (rwC A n c x.kind r)) := by show Blk _ _ _ _; rw [hW1]; exact Blk.new _ _ _
  obtain ⟨s, A1, n1, d1, t, A2, n2, d2⟩ := r
  obtain ⟨xt, xk, xv⟩ := x
  have C := Lib.hid (Holds_is (c := 1) (cx := cx) (m : Int) (rs_one ⟨s, A1, n1, d1, t, A2, n2, d2⟩ K1.out (hl.past (TmEl.keeps _) B1.out) hn (hv.past B1.out) c1 c2) (hx.past (FrEl.keeps _) B1.out) (hT.on B1.out) hk (by decide) hm hb)
  clear hl hv hx hT hb K1
  dsimp only [rwV, rwC] at *
  obtain ⟨z0, z1, z2, z3, z4, z5⟩ := rw_cells K0.out
  go_enter Tryz.func96, Tryz.ntmps96
  go_upto_region 1 with (fail)
  rw [← hW0]
  clear hW0
  go_wp2_with fail
  rw [← hW1]
  clear hW1
  refine C.out.mono ?_
  rintro e w2 ⟨rfl, hb⟩
  have B2 := Lib.hid (B1.out.trans (hb.mono B1.out.size))
  clear hb C z0 z1 z2 z3 z4 z5
  go_wp2_with fail
  go_ret
  exact ⟨rfl, B2.out⟩
/-- A row that is right, at a point at which its variables' system holds: it holds as it reads. -/
theorem sysH_row {N : Int} {r : RowP} {xs : List (Option Rat)} (h0 : sysH N [] xs = true) (h1 : sysR N [r] = true) : sysH N [r] xs = rowH xs r := by
  unfold sysH at *
  simp only [Bool.and_eq_true] at h0
  rw [h0.1, h1, h0.2.2.1]
  simp
/-- Another kind, and another right value: right as well. -/
theorem sysR_kind {N : Int} {r : RowP} {k : Int} {v : Rat} (h1 : sysR N [r] = true) (hk0 : 0 ≤ k) (hk1 : k < 3) : sysR N [⟨r.ts, k, some v⟩] = true := by
  unfold sysR rowR at *
  simp only [List.all_cons, List.all_nil, Bool.and_true, Bool.and_eq_true, decide_eq_true_eq, List.length_cons, List.length_nil] at *
  exact ⟨h1.1, hk0, hk1, rfl, h1.2.2.2.2⟩
theorem ordK_both (o : Int) : ordK 2 o = (ordK 0 o && ordK 1 o) := by
  unfold ordK
  rw [if_neg (by decide), if_neg (by decide), if_pos rfl, if_neg (by decide), if_pos rfl]
  rw [Bool.eq_iff_iff, Bool.and_eq_true, decide_eq_true_eq, decide_eq_true_eq, decide_eq_true_eq]
  omega
theorem ordK_some (o : Int) : (ordK 0 o || ordK 1 o) = true := by
  unfold ordK
  rw [if_pos rfl, if_neg (by decide), if_pos rfl, Bool.or_eq_true, decide_eq_true_eq, decide_eq_true_eq]
  omega
theorem ordR_cases (x y : Rat) : (x < y ∧ ordR x y = -1) ∨ (x = y ∧ ordR x y = 0) ∨ (y < x ∧ ordR x y = 1) := by
  unfold ordR
  by_cases h : x < y
  · exact .inl ⟨h, by rw [if_pos h]⟩
  · rw [if_neg h]
    by_cases h2 : x = y
    · exact .inr (.inl ⟨h2, by rw [if_pos h2]⟩)
    · have := Rat.lt_of_le_of_ne (Rat.not_lt.1 h) (Ne.symm h2)
      exact .inr (.inr ⟨this, by rw [if_neg h2]⟩)
theorem ordR_self (x : Rat) : ordR x x = 0 := by unfold ordR; rw [if_neg Rat.lt_irrefl, if_pos rfl]
theorem mul_lt {x y z : Rat} (hz : 0 < z) (h : x < y) : x * z < y * z := Rat.mul_lt_mul_of_pos_right h hz
theorem mul_lt_neg {x y z : Rat} (hz : z < 0) (h : x < y) : y * z < x * z := by
  have h1 := mul_lt (z := -z) (by have := Rat.neg_lt_neg hz; rwa [Rat.neg_zero] at this) h
  rw [Rat.mul_neg, Rat.mul_neg] at h1
  have h2 := Rat.neg_lt_neg h1
  rwa [Rat.neg_neg, Rat.neg_neg] at h2
theorem ordR_mul (x y z : Rat) : ordR (x * z) (y * z) = ordR x y * sgnR z := by
  rcases sgnR_cases z with ⟨hz, ez⟩ | ⟨hz, ez⟩ | ⟨hz, ez⟩
  · rw [ez]
    rcases ordR_cases x y with ⟨h, e⟩ | ⟨h, e⟩ | ⟨h, e⟩
    · rw [e, ordR_gt (mul_lt_neg hz h)]; rfl
    · subst h; rw [ordR_self, ordR_self]; rfl
    · rw [e, ordR_lt (mul_lt_neg hz h)]; rfl
  · subst hz; rw [ez, Rat.mul_zero, Rat.mul_zero, ordR_self]; omega
  · rw [ez, Int.mul_one]
    rcases ordR_cases x y with ⟨h, e⟩ | ⟨h, e⟩ | ⟨h, e⟩
    · rw [e, ordR_lt (mul_lt hz h)]
    · subst h; rw [ordR_self, ordR_self]
    · rw [e, ordR_gt (mul_lt hz h)]
/-- A row times a number that is not 0, its kind turned round where the number is negative. -/
theorem rowH_times {xs : List (Option Rat)} {a : List (Int × Rat)} {k k' : Int} {v f : Rat} (hf : f ≠ 0) (hk0 : 0 ≤ k) (hk : k < 3) (hk' : (sgnR f < 0 ∧ k ≠ 2 ∧ k' = 1 - k) ∨ (¬ (sgnR f < 0 ∧ k ≠ 2) ∧ k' = k)) :
    rowH xs ⟨up (timesT f a), k', some (v * f)⟩ = rowH xs ⟨up a, k, some v⟩ := by
  unfold rowH
  rw [valO_times]
  show ordK k' (ordR (valO xs (up a) * f) (v * f)) = ordK k (ordR (valO xs (up a)) v)
  rw [ordR_mul]
  generalize ordR (valO xs (up a)) v = o
  have key : ∀ {p q : Prop} [Decidable p] [Decidable q], (p ↔ q) → decide p = decide q := fun h => decide_eq_decide.2 h
  rcases sgnR_cases f with ⟨-, e⟩ | ⟨h, -⟩ | ⟨-, e⟩
  · rw [e] at hk' ⊢
    obtain rfl | rfl | rfl : k = 0 ∨ k = 1 ∨ k = 2 := by omega
    · obtain rfl : k' = 1 := by omega
      exact key (by omega)
    · obtain rfl : k' = 0 := by omega
      exact key (by omega)
    · obtain rfl : k' = 2 := by omega
      exact key (by omega)
  · exact absurd h hf
  · rw [e] at hk' ⊢
    obtain rfl : k' = k := by omega
    rw [Int.mul_one]
end Go.Proofs.YtikfjmdeeknalaaGreatDoor

/- The walk of linear's Times once more: the list that it returns stays where a block that was there turns. Conditions: sizes; the table of math/bits as its text lays it. -/
namespace Go.Proofs.YtikfjmdeeknalaaGreatDoor
set_option maxRecDepth 20000
open Go.RowKit

/-- A term that also stays where block gb turns. -/
def El2 (gb K : Nat) : World → (Int × Option Rat) → List Value → Prop := fun w t cs => Ap (TmEl K) w gb t cs
theorem El2.keeps (gb K : Nat) : Keeps (El2 gb K) := fun _ _ _ _ h hb => h.past hb
theorem El2.tm {gb K : Nat} {w : World} {t : Int × Option Rat} {cs : List Value} (h : El2 gb K w t cs) : TmEl K w t cs := h w (grown_refl w _)
theorem El2.of {w : World} {gb K : Nat} {v : Int} {x : Rat} {r : FrR} (h : Fg w K x r) (c1 : r.n1 ≤ r.c1) (c2 : r.n2 ≤ r.c2) (ho : Off r gb) : El2 gb K w (v, some x) (.int .i64 v :: frL r) := TmEl.ap h c1 c2 ho
theorem El2.ap {w : World} {gb K g : Nat} {v : Int} {x : Rat} {r : FrR} (h : Fg w K x r) (c1 : r.n1 ≤ r.c1) (c2 : r.n2 ≤ r.c2) (ho : Off r gb) (hg : Off r g) : Ap (El2 gb K) w g (v, some x) (.int .i64 v :: frL r) :=
  fun w' hw => El2.of (show Fg w' K x r from Fo.apart h hg hw) c1 c2 ho
theorem app_new2 {w wr w1 : World} {K q gb : Nat} {v : Value} {L : List (Int × Option Rat)} {u : Int} {x : Rat} {r : FrR} (hgb : gb < wr.heap.size) (hM : Mk (El2 gb K) 5 142 w wr v q L) (hB : Below w.heap.size w wr) (hb : Below wr.heap.size wr w1)
    (hf : Fg w1 K x r) (f1 : Fresh wr r.A1 r.n1) (f2 : Fresh wr r.A2 r.n2) (c1 : r.n1 ≤ r.c1) (c2 : r.n2 ≤ r.c2) :
    ∃ xs, (w1.alloc (.cells #[.int .i64 u, .int .i64 r.s1, .slice r.A1 r.n1 r.c1, .int .i64 r.s2, .slice r.A2 r.n2 r.c2] 142)).ownsRow w.heap.size 142 5 v q xs ∧
      Reads (w1.alloc (.cells #[.int .i64 u, .int .i64 r.s1, .slice r.A1 r.n1 r.c1, .int .i64 r.s2, .slice r.A2 r.n2 r.c2] 142)) (w1.heap.size + 1) 5 (some ⟨w1.heap.size, 0, none⟩) 1 (.int .i64 u :: frL r) ∧
      (∀ y ∈ (.int .i64 u :: frL r), y.oneCell' = true) ∧ w.heap.size ≤ (w1.alloc (.cells #[.int .i64 u, .int .i64 r.s1, .slice r.A1 r.n1 r.c1, .int .i64 r.s2, .slice r.A2 r.n2 r.c2] 142)).heap.size ∧
      ∀ v' w2, w2.ownsRow w.heap.size 142 5 v' (q + 1) (xs ++ (.int .i64 u :: frL r)) → (w1.alloc (.cells #[.int .i64 u, .int .i64 r.s1, .slice r.A1 r.n1 r.c1, .int .i64 r.s2, .slice r.A2 r.n2 r.c2] 142)).grownBy w2 v.ownBlock →
        (v'.ownBlock = v.ownBlock ∨ v'.ownBlock = some (w1.alloc (.cells #[.int .i64 u, .int .i64 r.s1, .slice r.A1 r.n1 r.c1, .int .i64 r.s2, .slice r.A2 r.n2 r.c2] 142)).heap.size) →
        Mk (El2 gb K) 5 142 w w2 v' (q + 1) (L ++ [(u, some x)]) ∧ Below w.heap.size w w2 := by
  obtain ⟨W, hW⟩ : ∃ W, W = w1.alloc (.cells #[.int .i64 u, .int .i64 r.s1, .slice r.A1 r.n1 r.c1, .int .i64 r.s2, .slice r.A2 r.n2 r.c2] 142) := ⟨_, rfl⟩
  have hb2 : Below wr.heap.size wr W := by rw [hW]; exact bal hb
  have hfW : Fg W K x r := by rw [hW]; exact hf.al
  have hk : Blk W w1.heap.size 142 #[.int .i64 u, .int .i64 r.s1, .slice r.A1 r.n1 r.c1, .int .i64 r.s2, .slice r.A2 r.n2 r.c2] := by rw [hW]; exact Blk.new _ _ _
  have hsz : W.heap.size = w1.heap.size + 1 := by rw [hW]; simp
  rw [← hW]
  obtain ⟨ps, h1, h2, h3, h4⟩ := hM
  have hB2 := hB.trans (hb2.mono hB.size)
  refine ⟨ps.flatten, own_on h1 hb2, ⟨rfl, fun _ => ⟨_, rfl, by simp, fun j y hj => ?_⟩⟩, fun y hy => ?_, hB2.size, fun v' w2 p1 p2 p3 => ⟨?_, hB2.grown p2 hB2.size (fun g e => (h1.lt g e).1)⟩⟩
  · rw [show (Addr.mk w1.heap.size 0 none).add j = ⟨w1.heap.size, j, none⟩ from by simp [Addr.add]; omega, hk.cell j]
    simpa [frL] using hj
  · rcases List.mem_cons.1 hy with rfl | hy
    · rfl
    · exact frL_one r y hy
  · refine Mk.step (El2.keeps gb K) (ps := ps) (cs := .int .i64 u :: frL r) h2 h3 (fun i a hi => ?_) rfl (El2.of hfW c1 c2 (off_old f1 f2 hgb)) (fun g hg => El2.ap hfW c1 c2 (off_old f1 f2 hgb) (off_old f1 f2 (h1.lt g hg).2)) p1 p2 p3
    obtain ⟨cs, d1, d2, d3, d4⟩ := h4 i a hi
    exact ⟨cs, d1, d2, El2.keeps gb K _ _ _ _ d3 hb2, fun g hg => (d4 g hg).past hb2⟩
theorem els_of2 {gb K : Nat} {T : TypeId} {w0 w : World} {A : Option Addr} {n c : Nat} {l : List (Int × Option Rat)} (h : Mk (El2 gb K) 5 T w0 w (.slice A n c) n l) : Ts K w A n l := by
  have h1 := h.els
  refine ⟨h1.1, fun hn => ?_⟩
  obtain ⟨ad, e, hb, hc⟩ := h1.2 hn
  refine ⟨ad, e, hb, fun i a hi => ?_⟩
  obtain ⟨cs, c1, c2, c3⟩ := hc i a hi
  exact ⟨cs, c1, c2.tm, c3⟩
theorem els_off2 {gb K : Nat} {T : TypeId} {w0 w : World} {A : Option Addr} {n c : Nat} {l : List (Int × Option Rat)} (h : Mk (El2 gb K) 5 T w0 w (.slice A n c) n l) (hgb : gb < w0.heap.size) : ∀ w2, w.grownBy w2 (some gb) → Ts K w2 A n l := fun w2 hw => by
  have h1 := h.els
  refine ⟨h1.1, fun hn => ?_⟩
  obtain ⟨ad, e, hb, hc⟩ := h1.2 hn
  obtain ⟨g, hg, hlt⟩ : ∃ g, ad.block = g ∧ w0.heap.size ≤ g := by
    obtain ⟨ps, p1, -⟩ := h
    obtain ⟨g, cap, hv, hg1, hg2⟩ := p1.form hn
    cases hv
    cases e
    exact ⟨g, rfl, (p1.lt g rfl).1⟩
  refine ⟨ad, e, Nat.lt_of_lt_of_le hb hw.size, fun i a hi => ?_⟩
  obtain ⟨cs, c1, c2, c3⟩ := hc i a hi
  exact ⟨cs, c1, c2 w2 hw, fun j u hj => (World.cell?_of_block (a := ad.add (i * 5 + j)) (hw.block _ (by rw [block_of_add]; exact hb) (fun e => by rw [block_of_add] at e; cases e; omega))).trans (c3 j u hj)⟩
/-- How a function that returns a list of terms ends; the list stays where block gb turns. -/
def ListEnd2 (w : World) (gb K : Nat) (l : List (Int × Rat)) (e : Ending) (w' : World) : Prop := ∃ A p c, e = .returned (.slice A p c) ∧ p ≤ c ∧ Ts K w' A p (up l) ∧ (∀ w2, w'.grownBy w2 (some gb) → Ts K w2 A p (up l)) ∧ Below w.heap.size w w'
section
variable {k n : Nat} {A : Option Addr} {la : List (Int × Rat)} {w : World} {x : Rat}
set_option maxHeartbeats 16000000 in
theorem Times_2 (gb : Nat) (hgb : gb < w.heap.size) (c : Nat) (rf : FrR) (hl : Ts k w A n (up la)) (hf : Fg w k x rf) (hx : x ≠ 0) (hT : TabZ w) (ra : rightT (-1) 1500 la = true) (hk : k ≤ 1000) (hn : n ≤ 1000) :
    Calls Tryz.prog 93 #[.slice A n c, frV rf] w (ListEnd2 w gb (k + k) (timesT x la)) := by
  obtain ⟨i0, hi, hz0, hz1, hz2⟩ := info_parts infoTm
  obtain ⟨W0, hW0⟩ : ∃ W0, W0 = w.alloc (.cells (frC rf) 43) := ⟨_, rfl⟩
  have HB0 : Hid (Below w.heap.size w W0) := by show Below _ _ _; rw [hW0]; exact bal (Below.refl _ _)
  have KF : Hid (Blk W0 w.heap.size 43 (frC rf)) := by show Blk _ _ _ _; rw [hW0]; exact Blk.new _ _ _
  obtain ⟨o, ho⟩ : ∃ o, sgnR x = o := ⟨_, rfl⟩
  have ho0 : (o == 0) = false := by
    have : o ≠ 0 := fun e => hx (sgnR_zero.1 (ho.trans e))
    simpa using this
  have C1 := Lib.hid (sign_R rf (Fg.past hf HB0.out) (hT.on HB0.out) (by omega) ho)
  have C2 := Lib.hid (fun W (hb : Below W0.heap.size W0 W) => RT_any c 1500 W (Lib.hid (hl.past (TmEl.keeps k) (HB0.out.trans (hb.mono HB0.out.size)))) (Lib.hid (hT.on (HB0.out.trans (hb.mono HB0.out.size)))) (by omega) (by omega) ((goT_up (by omega)).trans ra))
  have HL : Hid (Ts k W0 A n (up la)) := hl.past (TmEl.keeps k) HB0.out
  have HF : Hid (Fg W0 k x rf) := Fg.past hf HB0.out
  have HT : Hid (TabZ W0) := hT.on HB0.out
  have HLl : Hid (la.length = n) := by show _ = _; have := hl.len; rw [up_len] at this; exact this
  have HX : Hid (timesT x la = la.map fun t => (t.1, t.2 * x)) := by show _ = _; unfold timesT; rw [if_neg hx]
  have hmk : ∀ wx : World, (Instr.makeSlice 59 (.int .i64 0) (.int .i64 (n : Int))).run Tryz.prog wx = .ok (.slice (some ⟨wx.heap.size, 0, none⟩) 0 n) (wx.alloc (.cells (madeCells (Value.cells (.agg #[.int .i64 0, .int .i64 0, .slice none 0 0, .int .i64 0, .slice none 0 0])) (n * 5)) 142)) := fun wx => by
    have hr := run_make (P := Tryz.prog) wx 59 142 i0 _ Tryz.underlying59 hi hz0 .i64 .i64 0 (n : Int) (by omega) (by omega) (by rw [hz2]; omega) (by omega)
    rw [hz1, Int.toNat_natCast] at hr
    exact hr
  obtain ⟨Z, hZ⟩ : ∃ Z, madeCells (Value.cells (.agg #[.int .i64 0, .int .i64 0, .slice none 0 0, .int .i64 0, .slice none 0 0])) (n * 5) = Z := ⟨_, rfl⟩
  have hZs : Z.size = n * 5 := by rw [← hZ, size_madeCells]
  rw [hZ] at hmk
  clear hZ hl hf hT ra hx ho
  obtain ⟨s11, A11, n11, c11, s12, A12, n12, c12⟩ := rf
  dsimp only [frV, frC] at *
  obtain ⟨f0, f1, f2, f3, -, -, -, -⟩ := fr_cells KF.out
  go_enter Tryz.func93, Tryz.ntmps93
  go_upto_region 1 with (fail)
  rw [← hW0]
  clear hW0
  go_wp2_with fail
  refine C1.out.mono ?_
  rintro e w1 ⟨rfl, hb⟩
  have B1 := Lib.hid hb
  clear hb C1
  go_wp2_with fail
  refine (C2.out w1 B1.out).mono ?_
  rintro e w2 ⟨rfl, hb⟩
  have B2 := Lib.hid (B1.out.trans (hb.mono B1.out.size))
  clear hb C2 B1
  go_wp2_with fail
  obtain ⟨w3, hw3⟩ : ∃ w3, w3 = w2.alloc (.cells Z 142) := ⟨_, rfl⟩
  have HM0 : Hid (Mk (El2 gb (k + k)) 5 142 W0 w3 (.slice (some ⟨w2.heap.size, 0, none⟩) 0 n) 0 (up [])) := by
    refine ⟨[], ?_, rfl, rfl, fun i a h => by simp [up] at h⟩
    rw [hw3]
    exact own_room (w0 := W0) (heap_alloc_new w2 _) B2.out.size hZs (by unfold maxLen; omega)
  have B3 : Hid (Below W0.heap.size W0 w3) := by show Below _ _ _; rw [hw3]; exact B2.out.alloc B2.out.size _
  rw [← hw3]
  clear hw3 B2 hmk hZs
  go_loopw [5, 23] (fun s5 i wr => ∃ (j : Nat) (v : Value), v = s5 ∧ j ≤ n ∧ i = .int .i64 j ∧ Hid (Mk (El2 gb (k + k)) 5 142 W0 wr v j (up ((la.map fun t => (t.1, t.2 * x)).take j))) ∧ Hid (Below W0.heap.size W0 wr)) (fun _ i _ => n - (RowKit.intOf i).toNat)
  case atStart => exact ⟨0, _, rfl, Nat.zero_le _, rfl, HM0, B3⟩
  case round =>
    clear HM0 B3 f0 f1 f2 f3
    obtain ⟨j, v, rfl, hj, rfl, HM, HB⟩ := hrel
    by_cases hlt : j < n
    · have hjc : (j : Int) < (n : Int) := by omega
      obtain ⟨ad, t, r, rfl, hab, hlj, hr1, hr2, hf, q0, q1, q2, q3, q4⟩ := tm_at (Els.past (TmEl.keeps k) HL.out HB.out) hlt
      obtain ⟨u, hu, rfl⟩ : ∃ u, la[j]? = some u ∧ t = (u.1, some u.2) := by
        unfold up at hlj
        rw [List.getElem?_map, Option.map_eq_some_iff] at hlj
        obtain ⟨u, h1, h2⟩ := hlj
        exact ⟨u, h1, h2.symm⟩
      have HTK : Hid ((la.map fun t => (t.1, t.2 * x)).take (j + 1) = (la.map fun t => (t.1, t.2 * x)).take j ++ [(u.1, u.2 * x)]) := by show _ = _; rw [List.take_add_one, List.getElem?_map, hu]; rfl
      obtain ⟨s1, A1, n1, c1, s2, A2, n2, c2⟩ := r
      obtain ⟨tv, tq⟩ := u
      dsimp only at q0 q1 q2 q3 q4 hf HTK
      obtain ⟨W, hW⟩ : ∃ W, W = wr.alloc (.cells #[.int .i64 tv, .int .i64 s1, .slice A1 n1 c1, .int .i64 s2, .slice A2 n2 c2] 142) := ⟨_, rfl⟩
      have BW : Hid (Below wr.heap.size wr W) := by show Below _ _ _; rw [hW]; exact bal (Below.refl _ _)
      have KT : Hid (Blk W wr.heap.size 142 #[.int .i64 tv, .int .i64 s1, .slice A1 n1 c1, .int .i64 s2, .slice A2 n2 c2]) := by show Blk _ _ _ _; rw [hW]; exact Blk.new _ _ _
      have BW2 := Lib.hid (HB.out.trans (BW.out.mono HB.out.size))
      have KF2 := Lib.hid (KF.out.below BW2.out KF.out.lt)
      have C := Lib.hid (mul_R ⟨s1, A1, n1, c1, s2, A2, n2, c2⟩ ⟨s11, A11, n11, c11, s12, A12, n12, c12⟩ (Fg.past hf BW.out) (Fg.past HF.out BW2.out) (HT.out.on BW2.out) (by omega))
      dsimp only [frV] at C
      obtain ⟨y0, y1, y2, y3, y4⟩ := tm_cells KT.out
      obtain ⟨f0, f1, f2, f3, -, -, -, -⟩ := fr_cells KF2.out
      clear hf hlj hu hr1 hr2 hab
      go_upto_region 7 with (fail)
      rw [← hW]
      clear hW q0 q1 q2 q3 q4
      go_wp2_with fail
      refine C.out.mono ?_
      rintro e w6 ⟨⟨s5, A5, n5, c5, s6, A6, n6, c6⟩, rfl, hc1, hc2, hf, g1, g2, hb⟩
      have KT6 := Lib.hid (KT.out.below hb KT.out.lt)
      have HC1 := Lib.hid hc1
      have HC2 := Lib.hid hc2
      have G1 := Lib.hid (Fresh.old g1 BW.out.size)
      have G2 := Lib.hid (Fresh.old g2 BW.out.size)
      obtain ⟨W6, hW6⟩ : ∃ W6, W6 = w6.alloc (.cells #[.int .i64 s5, .slice A5 n5 c5, .int .i64 s6, .slice A6 n6 c6] 43) := ⟨_, rfl⟩
      have BW6 : Hid (Below wr.heap.size wr W6) := by show Below _ _ _; rw [hW6]; exact bal (BW.out.trans (hb.mono BW.out.size))
      have F6 : Hid (Fg W6 (k + k) (tq * x) ⟨s5, A5, n5, c5, s6, A6, n6, c6⟩) := by show Fg _ _ _ _; rw [hW6]; exact hf.al
      obtain ⟨g, hg⟩ : ∃ g, g = w6.heap.size := ⟨_, rfl⟩
      have K6 : Hid (Blk W6 g 43 #[.int .i64 s5, .slice A5 n5 c5, .int .i64 s6, .slice A6 n6 c6]) := by show Blk _ _ _ _; rw [hW6, hg]; exact Blk.new _ _ _
      have KT7 : Hid (Blk W6 wr.heap.size 142 #[.int .i64 tv, .int .i64 s1, .slice A1 n1 c1, .int .i64 s2, .slice A2 n2 c2]) := by show Blk _ _ _ _; rw [hW6]; exact KT6.out.alloc _
      obtain ⟨xs, o1, o2, o3, o4, o5⟩ := app_new2 (u := tv) (Nat.lt_of_lt_of_le hgb (Nat.le_trans HB0.out.size HB.out.size)) HM.out HB.out BW6.out F6.out G1.out G2.out HC1.out HC2.out
      have O1 := Lib.hid o1
      have O2 := Lib.hid o2
      have O3 := Lib.hid o3
      have O4 := Lib.hid o4
      have O5 := Lib.hid o5
      clear hb hc1 hc2 hf g1 g2 o1 o2 o3 o4 o5 C f0 f1 f2 f3 y0 y1 y2 y3 y4
      obtain ⟨y0, y1, y2, y3, y4⟩ := tm_cells KT7.out
      obtain ⟨z0, z1, z2, z3, -, -, -, -⟩ := fr_cells K6.out
      dsimp only [frV]
      go_upto_region 8 with (fail)
      rw [← hW6, ← hg]
      clear hW6 hg
      go_wp2_with (at_builtin; refine wpList_append_any _ rfl (.tmp 34) (.tmp 39) 59 rfl W0.heap.size 142 i0 _ 5 72 Tryz.underlying59 hi hz0 hz1 hz2 rfl (by decide) _ _ xs rfl O1.out _ (some ⟨W6.heap.size, 0, none⟩) 1 1 _ rfl O2.out O3.out (by unfold maxLen; omega) (by omega) O4.out ?_; intro v' w7 p1 p2 p3)
      obtain ⟨m1, m2⟩ := O5.out v' w7 p1 p2 p3
      have HB7 := Lib.hid m2
      have HM7 : Hid (Mk (El2 gb (k + k)) 5 142 W0 w7 v' (j + 1) (up ((la.map fun t => (t.1, t.2 * x)).take (j + 1)))) := by
        show Mk _ _ _ _ _ _ _ _
        rw [HTK.out, up_app]
        exact m1
      clear p1 p2 p3 m1 m2 O1 O2 O3 O4 O5
      go_wp2_with fail
      go_roundw
      case rel => exact ⟨j + 1, _, rfl, by omega, by go_num, HM7, HB7⟩
      case measure => simp [RowKit.intOf]; omega
    · obtain rfl : j = n := by omega
      have HMf : Hid (Mk (El2 gb (k + k)) 5 142 W0 wr v j (up (timesT x la))) := by
        show Mk _ _ _ _ _ _ _ _
        have := HM.out
        rw [List.take_of_length_le (by rw [List.length_map, HLl.out]; exact Nat.le_refl _), ← HX.out] at this
        exact this
      obtain ⟨A9, c9, rfl, h91, h92⟩ := HMf.out.form
      have HE := Lib.hid (els_of2 HMf.out)
      have HE2 := Lib.hid (els_off2 HMf.out (Nat.lt_of_lt_of_le hgb HB0.out.size))
      go_wp2_with fail
      go_ret
      exact ⟨A9, _, c9, rfl, h91, HE.out, HE2.out, HB0.out.trans (HB.out.mono HB0.out.size)⟩
theorem Times_any (gb : Nat) (hgb : gb < w.heap.size) (c : Nat) (rf : FrR) (hl : Ts k w A n (up la)) (hf : Fg w k x rf) (hx : x ≠ 0) (hT : TabZ w) (ra : rightT (-1) 1500 la = true) (hk : k ≤ 1000) (hn : n ≤ 1000) :
    Calls Tryz.prog 93 #[.slice A n c, frV rf] w (ListEnd2 w gb (k + k) (timesT x la)) := Times_2 gb hgb c rf hl hf hx hT ra hk hn
end
end Go.Proofs.YtikfjmdeeknalaaGreatDoor

/- The walk of LinearTurns. Conditions: the arguments' memory; the table of math/bits as its text lays it. -/
namespace Go.Proofs.YtikfjmdeeknalaaGreatDoor
set_option maxRecDepth 20000
open Go.RowKit

theorem Blk.set6 {w : World} {g : Nat} {t : TypeId} {o1 o2 o3 o4 o5 o6 : Value} (h : Blk w g t #[o1, o2, o3, o4, o5, o6]) {a b c d e f : Value} : Blk ((((((w.setCell ⟨g, 0, none⟩ a).setCell ⟨g, 1, none⟩ b).setCell ⟨g, 2, none⟩ c).setCell ⟨g, 3, none⟩ d).setCell ⟨g, 4, none⟩ e).setCell ⟨g, 5, none⟩ f) g t #[a, b, c, d, e, f] := by
  have := (((((h.set_ 0 a).set_ 1 b).set_ 2 c).set_ 3 d).set_ 4 e).set_ 5 f
  simpa using this
theorem grown_6 (w : World) (g : Nat) (a b c d e f : Value) : w.grownBy ((((((w.setCell ⟨g, 0, none⟩ a).setCell ⟨g, 1, none⟩ b).setCell ⟨g, 2, none⟩ c).setCell ⟨g, 3, none⟩ d).setCell ⟨g, 4, none⟩ e).setCell ⟨g, 5, none⟩ f) (some g) :=
  only_setCell (p := ⟨g, 5, none⟩) (only_setCell (p := ⟨g, 4, none⟩) (only_setCell (p := ⟨g, 3, none⟩) (only_setCell (p := ⟨g, 2, none⟩) (only_setCell (p := ⟨g, 1, none⟩) (only_setCell (p := ⟨g, 0, none⟩) (grown_refl w _) (.inl rfl) _) (.inl rfl) _) (.inl rfl) _) (.inl rfl) _) (.inl rfl) _) (.inl rfl) _
theorem below_6 {B g : Nat} {a w : World} (h : Below B a w) (hg : B ≤ g) {u v x y z q : Value} : Below B a ((((((w.setCell ⟨g, 0, none⟩ u).setCell ⟨g, 1, none⟩ v).setCell ⟨g, 2, none⟩ x).setCell ⟨g, 3, none⟩ y).setCell ⟨g, 4, none⟩ z).setCell ⟨g, 5, none⟩ q) := below_set (below_set (below_set (below_set (below_set (below_set h hg _ _) hg _ _) hg _ _) hg _ _) hg _ _) hg _ _
/-- A row's box, with the list of terms that it holds. -/
structure BxT (W0 W4 : World) (g K : Nat) (l : List (Int × Rat)) (A : Option Addr) (p c : Nat) (kd : Int) (r : FrR) : Prop where
  bl : Below W0.heap.size W0 W4
  bk : Blk W4 g 77 (rwC A p c kd r)
  lo : W0.heap.size ≤ g
  st : ∀ W', W4.grownBy W' (some g) → Ts K W' A p (up l)
theorem bt_late {W0 w3 : World} {K : Nat} {l : List (Int × Rat)} {A : Option Addr} {p c : Nat} (kd : Int) (r : FrR) (hb : Below W0.heap.size W0.drew w3) (ht : Ts K w3 A p (up l)) : BxT W0 (w3.alloc (.cells (rwC A p c kd r) 77)) w3.heap.size K l A p c kd r :=
  ⟨bal ((bdr W0).trans hb), Blk.new _ _ _, ((bdr W0).trans hb).size, fun W' h => ht.past (TmEl.keeps _) ((bal (Below.refl _ _)).grown h (by simp) (fun g e => by cases e; exact Nat.le_refl _))⟩
abbrev rz : Array Value := #[.slice none 0 0, .int .i64 0, .int .i64 0, .slice none 0 0, .int .i64 0, .slice none 0 0]
theorem bt_early {W0 w3 : World} {K : Nat} {l : List (Int × Rat)} {A : Option Addr} {p c : Nat} (kd : Int) (r : FrR) (hb : Below (W0.alloc (.cells rz 77)).heap.size (W0.alloc (.cells rz 77)).drew w3) (ht : ∀ w2, w3.grownBy w2 (some W0.heap.size) → Ts K w2 A p (up l)) :
    BxT W0 ((((((w3.setCell ⟨W0.heap.size, 0, none⟩ (.slice A p c)).setCell ⟨W0.heap.size, 1, none⟩ (.int .i64 kd)).setCell ⟨W0.heap.size, 2, none⟩ (.int .i64 r.s1)).setCell ⟨W0.heap.size, 3, none⟩ (.slice r.A1 r.n1 r.c1)).setCell ⟨W0.heap.size, 4, none⟩ (.int .i64 r.s2)).setCell ⟨W0.heap.size, 5, none⟩ (.slice r.A2 r.n2 r.c2)) W0.heap.size K l A p c kd r := by
  obtain ⟨W1, hW1⟩ : ∃ W1, W1 = W0.alloc (.cells rz 77) := ⟨_, rfl⟩
  have hb0 : Below W0.heap.size W0 W1 := by rw [hW1]; exact bal (Below.refl _ _)
  have hk : Blk W1 W0.heap.size 77 rz := by rw [hW1]; exact Blk.new _ _ _
  rw [← hW1] at hb
  have hb1 : Below W1.heap.size W1 w3 := (bdr W1).trans hb
  exact ⟨below_6 (hb0.trans (hb1.mono hb0.size)) (Nat.le_refl _), (hk.below hb1 hk.lt).set6, Nat.le_refl _, fun W' h => ht W' ((grown_6 w3 W0.heap.size _ _ _ _ _ _).trans h)⟩
theorem bt_box {W0 w3 : World} (hb : Below (W0.alloc (.cells rz 77)).heap.size (W0.alloc (.cells rz 77)).drew w3) : Blk w3 W0.heap.size 77 rz :=
  (Blk.new W0 77 rz).below ((bdr _).trans hb) (Blk.new W0 77 rz).lt
theorem times_late {W0 : World} {f : FuncId} {args : Array Value} {K : Nat} {l : List (Int × Rat)} (kd : Int) (r : FrR) (h : Calls Tryz.prog f args W0.drew (ListEnd2 W0.drew 0 K l)) :
    Calls Tryz.prog f args W0.drew fun e w3 => ∃ A p c, e = .returned (.slice A p c) ∧ p ≤ c ∧ Below W0.heap.size W0 w3 ∧ BxT W0 (w3.alloc (.cells #[.slice A p c, .int .i64 kd, .int .i64 r.s1, .slice r.A1 r.n1 r.c1, .int .i64 r.s2, .slice r.A2 r.n2 r.c2] 77)) w3.heap.size K l A p c kd r :=
  h.mono fun _ _ ⟨A, p, c, e, hc, ht, _, hb⟩ => ⟨A, p, c, e, hc, (bdr W0).trans hb, bt_late kd r hb ht⟩
theorem times_early {W0 : World} {f : FuncId} {args : Array Value} {K : Nat} {l : List (Int × Rat)} (kd : Int) (r : FrR) (h : Calls Tryz.prog f args (W0.alloc (.cells rz 77)).drew (ListEnd2 (W0.alloc (.cells rz 77)).drew W0.heap.size K l)) :
    Calls Tryz.prog f args (W0.alloc (.cells rz 77)).drew fun e w3 => ∃ A p c, e = .returned (.slice A p c) ∧ p ≤ c ∧ Below W0.heap.size W0 w3 ∧ Blk w3 W0.heap.size 77 rz ∧
      BxT W0 ((((((w3.setCell ⟨W0.heap.size, 0, none⟩ (.slice A p c)).setCell ⟨W0.heap.size, 1, none⟩ (.int .i64 kd)).setCell ⟨W0.heap.size, 2, none⟩ (.int .i64 r.s1)).setCell ⟨W0.heap.size, 3, none⟩ (.slice r.A1 r.n1 r.c1)).setCell ⟨W0.heap.size, 4, none⟩ (.int .i64 r.s2)).setCell ⟨W0.heap.size, 5, none⟩ (.slice r.A2 r.n2 r.c2)) W0.heap.size K l A p c kd r :=
  h.mono fun _ _ ⟨A, p, c, e, hc, _, ht, hb⟩ => ⟨A, p, c, e, hc, ((bal (Below.refl _ _)).drew).trans (hb.mono (by simp)), bt_box hb, bt_early kd r hb ht⟩
theorem rw_frozen {w : World} {g : Nat} {t : TypeId} {cs : Array Value} (h : Blk w g t cs) : w.frozen? ⟨g, 0, none⟩ = false ∧ w.frozen? ⟨g, 1, none⟩ = false ∧ w.frozen? ⟨g, 2, none⟩ = false ∧ w.frozen? ⟨g, 3, none⟩ = false ∧ w.frozen? ⟨g, 4, none⟩ = false ∧ w.frozen? ⟨g, 5, none⟩ = false := ⟨h.frozen 0, h.frozen 1, h.frozen 2, h.frozen 3, h.frozen 4, h.frozen 5⟩
theorem rowR_parts {N : Int} {r : RowP} (h : sysR N [r] = true) : 0 ≤ r.kind ∧ r.kind < 3 ∧ (∃ v, r.val = some v) ∧ ∃ a, r.ts = up a ∧ rightT (-1) N a = true := by
  unfold sysR rowR at h
  simp only [List.all_cons, List.all_nil, Bool.and_true, Bool.and_eq_true, decide_eq_true_eq] at h
  obtain ⟨-, h1, h2, h3, h4⟩ := h
  obtain ⟨-, h5, h6⟩ := goT_is.1 h4
  exact ⟨h1, h2, Option.isSome_iff_exists.1 h3, _, h5, h6⟩
-- operations of region 9 that are not wanted in a case, hidden behind names: else the walk warns
def tu79 : Oper := { dst := some 79, op := Op.load 77 (Operand.tmp 9), type := 77, pos := "law.go:143", after := #[{ on := 6, ground := Ground.guard }], guard := some (6, true) }
@[go_sem] theorem tu79_is : tu79 = { dst := some 79, op := Op.load 77 (Operand.tmp 9), type := 77, pos := "law.go:143", after := #[{ on := 6, ground := Ground.guard }], guard := some (6, true) } := rfl
def tu80 : Oper := { dst := some 80, op := Op.move (Operand.tmp 1), type := 60, pos := "law.go:143", after := #[{ on := 6, ground := Ground.guard }], guard := some (6, true) }
@[go_sem] theorem tu80_is : tu80 = { dst := some 80, op := Op.move (Operand.tmp 1), type := 60, pos := "law.go:143", after := #[{ on := 6, ground := Ground.guard }], guard := some (6, true) } := rfl
def tu90 : Oper := { dst := some 90, op := Op.load 77 (Operand.tmp 9), type := 77, pos := "law.go:143", after := #[{ on := 17, ground := Ground.guard }], guard := some (17, true) }
@[go_sem] theorem tu90_is : tu90 = { dst := some 90, op := Op.load 77 (Operand.tmp 9), type := 77, pos := "law.go:143", after := #[{ on := 17, ground := Ground.guard }], guard := some (17, true) } := rfl
def tu91 : Oper := { dst := some 91, op := Op.move (Operand.tmp 1), type := 60, pos := "law.go:143", after := #[{ on := 17, ground := Ground.guard }], guard := some (17, true) }
@[go_sem] theorem tu91_is : tu91 = { dst := some 91, op := Op.move (Operand.tmp 1), type := 60, pos := "law.go:143", after := #[{ on := 17, ground := Ground.guard }], guard := some (17, true) } := rfl
def tu93 : Oper := { dst := some 93, op := Op.unOp UnOp.not 4 (Operand.tmp 92), type := 4, pos := "law.go:143", after := #[{ on := 20, ground := Ground.data }, { on := 17, ground := Ground.guard }], guard := some (17, true) }
@[go_sem] theorem tu93_is : tu93 = { dst := some 93, op := Op.unOp UnOp.not 4 (Operand.tmp 92), type := 4, pos := "law.go:143", after := #[{ on := 20, ground := Ground.data }, { on := 17, ground := Ground.guard }], guard := some (17, true) } := rfl
theorem turned_eq {N k k' : Int} {xs : List (Option Rat)} {a : List (Int × Rat)} {v f : Rat} (h0 : sysH N [] xs = true) (h1 : sysR N [⟨up a, k, some v⟩] = true) (hf : f ≠ 0) (hk0 : 0 ≤ k) (hk : k < 3) (hk' : (sgnR f < 0 ∧ k ≠ 2 ∧ k' = 1 - k) ∨ (¬ (sgnR f < 0 ∧ k ≠ 2) ∧ k' = k)) :
    sysH N [⟨up (timesT f a), k', some (v * f)⟩] xs = sysH N [⟨up a, k, some v⟩] xs := by
  have hk2 : 0 ≤ k' ∧ k' < 3 := by
    rcases hk' with ⟨-, e1, e2⟩ | ⟨-, e⟩ <;> omega
  have h2 : sysR N [⟨up (timesT f a), k', some (v * f)⟩] = true := by
    have hN : 0 ≤ N := by
      unfold sysR at h1
      simp only [Bool.and_eq_true, Bool.not_eq_true', Bool.or_eq_false_iff, decide_eq_false_iff_not] at h1
      omega
    unfold sysR rowR at *
    simp only [List.all_cons, List.all_nil, Bool.and_true, Bool.and_eq_true, decide_eq_true_eq, List.length_cons, List.length_nil] at *
    obtain ⟨e1, -, -, -, e2⟩ := h1
    rw [goT_up hN] at e2
    exact ⟨e1, hk2.1, hk2.2, rfl, (goT_up hN).trans (right_times e2)⟩
  rw [sysH_row h0 h2, sysH_row h0 h1]
  exact rowH_times hf hk0 hk hk'
theorem length_times (f : Rat) (a : List (Int × Rat)) : (timesT f a).length ≤ a.length := by
  unfold timesT
  split
  · simp
  · simp

set_option maxHeartbeats 64000000 in
theorem turns_walk {A X : Option Addr} {n c m cx : Nat} {kd : Int} {l : List (Int × FrR)} {lx : List FrR} (rv rf : FrR) {i1 i2 i3 i4 : List Int} (w : World) (Ra : Hid (Els rTm 5 w A n l)) (hc : n ≤ c) (hv1 : rv.n1 ≤ rv.c1) (hv2 : rv.n2 ≤ rv.c2) (Gv : Hid (FrArg w rv i1 i2)) (Rx : Hid (Els rFr 4 w X m lx)) (Gf : Hid (FrArg w rf i3 i4)) (HT : Hid (TabZ w)) :
    Calls Tryz.prog 6 #[rwV A n c kd rv, .slice X m cx, frV rf] w (BoolB true w) := by
  obtain ⟨sf, Af, nf, cf, tf, Bf, mf, df⟩ := rf
  obtain ⟨sv, Av, nv, cv, tv, Bv, mv, dv⟩ := rv
  dsimp only [frV, rwV] at *
  have BB : Hid (Below w.heap.size w w) := Below.refl _ _
  go_enter Tryz.func6, Tryz.ntmps6
  go_upto_region 1 with (fail)
  obtain ⟨v1, hv1⟩ : ∃ v, v = w.alloc (.cells #[.slice A n c, .int .i64 kd, .int .i64 sv, .slice Av nv cv, .int .i64 tv, .slice Bv mv dv] 77) := ⟨_, rfl⟩
  rw [← hv1]
  have Kw : Hid (Blk v1 w.heap.size 77 #[.slice A n c, .int .i64 kd, .int .i64 sv, .slice Av nv cv, .int .i64 tv, .slice Bv mv dv]) := by show Blk _ _ _ _; rw [hv1]; exact Blk.new _ _ _
  have hb1 : Below w.heap.size w v1 := by rw [hv1]; exact bal (Below.refl _ _)
  replace Gv := Lib.hid (Gv.out.past hb1)
  replace Gf := Lib.hid (Gf.out.past hb1)
  replace HT := Lib.hid (HT.out.on hb1)
  replace BB := Lib.hid (BB.out.trans (hb1.mono BB.out.size))
  replace Ra := Lib.hid (Ra.out.past (rTm.keeps) hb1)
  replace Rx := Lib.hid (Rx.out.past (rFr.keeps) hb1)
  obtain ⟨gw, hg1⟩ : ∃ g, g = w.heap.size := ⟨_, rfl⟩
  rw [← hg1] at Kw ⊢
  have hzw : v1.heap.size = gw + 1 := by rw [hv1, hg1]; simp
  clear hv1 hb1 hg1
  obtain ⟨v2, hv2⟩ : ∃ v, v = v1.alloc (.cells #[.int .i64 sf, .slice Af nf cf, .int .i64 tf, .slice Bf mf df] 43) := ⟨_, rfl⟩
  rw [← hv2]
  have Kf : Hid (Blk v2 v1.heap.size 43 #[.int .i64 sf, .slice Af nf cf, .int .i64 tf, .slice Bf mf df]) := by show Blk _ _ _ _; rw [hv2]; exact Blk.new _ _ _
  have hb2 : Below v1.heap.size v1 v2 := by rw [hv2]; exact bal (Below.refl _ _)
  replace Gv := Lib.hid (Gv.out.past hb2)
  replace Gf := Lib.hid (Gf.out.past hb2)
  replace HT := Lib.hid (HT.out.on hb2)
  replace BB := Lib.hid (BB.out.trans (hb2.mono BB.out.size))
  replace Ra := Lib.hid (Ra.out.past (rTm.keeps) hb2)
  replace Rx := Lib.hid (Rx.out.past (rFr.keeps) hb2)
  replace Kw := Lib.hid (Kw.out.below hb2 Kw.out.lt)
  rw [hzw] at Kf
  obtain ⟨gf, hg2⟩ : ∃ g, g = gw + 1 := ⟨_, rfl⟩
  rw [← hg2] at Kf ⊢
  clear hv2 hb2 hg2 hzw
  go_wp2_with fail
  refine (small8 v2 HT).mono ?_
  rintro e v3 ⟨rfl, hb⟩
  replace Gv := Lib.hid (Gv.out.past hb)
  replace Gf := Lib.hid (Gf.out.past hb)
  replace HT := Lib.hid (HT.out.on hb)
  replace BB := Lib.hid (BB.out.trans (hb.mono BB.out.size))
  replace Ra := Lib.hid (Ra.out.past (rTm.keeps) hb)
  replace Rx := Lib.hid (Rx.out.past (rFr.keeps) hb)
  replace Kw := Lib.hid (Kw.out.below hb Kw.out.lt)
  replace Kf := Lib.hid (Kf.out.below hb Kf.out.lt)
  clear hb
  obtain ⟨yw0, yw1, yw2, yw3, yw4, yw5⟩ := rw_cells Kw.out
  go_wp2_with fail
  refine (FewTerms_any c 8 4 v3 Ra (by decide) (by decide)).mono ?_
  rintro e v4 ⟨b, rfl, hp, hb⟩
  replace Gv := Lib.hid (Gv.out.past hb)
  replace Gf := Lib.hid (Gf.out.past hb)
  replace HT := Lib.hid (HT.out.on hb)
  replace BB := Lib.hid (BB.out.trans (hb.mono BB.out.size))
  replace Ra := Lib.hid (Ra.out.past (rTm.keeps) hb)
  replace Rx := Lib.hid (Rx.out.past (rFr.keeps) hb)
  replace Kw := Lib.hid (Kw.out.below hb Kw.out.lt)
  replace Kf := Lib.hid (Kf.out.below hb Kf.out.lt)
  clear hb
  clear yw0 yw1 yw2 yw3 yw4 yw5
  rcases b with _ | _
  · clear hp
    go_wp2_with fail
    go_ret
    exact ⟨rfl, BB.out⟩
  have Pa := Lib.hid (hp rfl)
  clear hp
  obtain ⟨yw0, yw1, yw2, yw3, yw4, yw5⟩ := rw_cells Kw.out
  go_wp2_with fail
  by_cases hdv : (nv : Int) ≤ 4 ∧ (mv : Int) ≤ 4
  case neg =>
    refine (few5_F ⟨sv, Av, nv, cv, tv, Bv, mv, dv⟩ 4 v4 (by dsimp only; omega)).mono ?_
    rintro e v5 ⟨rfl, hb⟩
    replace Gv := Lib.hid (Gv.out.past hb)
    replace Gf := Lib.hid (Gf.out.past hb)
    replace HT := Lib.hid (HT.out.on hb)
    replace BB := Lib.hid (BB.out.trans (hb.mono BB.out.size))
    replace Ra := Lib.hid (Ra.out.past (rTm.keeps) hb)
    replace Rx := Lib.hid (Rx.out.past (rFr.keeps) hb)
    replace Kw := Lib.hid (Kw.out.below hb Kw.out.lt)
    replace Kf := Lib.hid (Kf.out.below hb Kf.out.lt)
    clear hb
    clear yw0 yw1 yw2 yw3 yw4 yw5
    go_wp2_with fail
    go_ret
    exact ⟨rfl, BB.out⟩
  refine (few5_T ⟨sv, Av, nv, cv, tv, Bv, mv, dv⟩ 4 v4 hdv.1 hdv.2).mono ?_
  rintro e v6 ⟨rfl, hb⟩
  replace Gv := Lib.hid (Gv.out.past hb)
  replace Gf := Lib.hid (Gf.out.past hb)
  replace HT := Lib.hid (HT.out.on hb)
  replace BB := Lib.hid (BB.out.trans (hb.mono BB.out.size))
  replace Ra := Lib.hid (Ra.out.past (rTm.keeps) hb)
  replace Rx := Lib.hid (Rx.out.past (rFr.keeps) hb)
  replace Kw := Lib.hid (Kw.out.below hb Kw.out.lt)
  replace Kf := Lib.hid (Kf.out.below hb Kf.out.lt)
  clear hb
  clear yw0 yw1 yw2 yw3 yw4 yw5
  go_wp2_with fail
  refine (FewPoint_any cx 8 4 v6 Rx (by decide) (by decide)).mono ?_
  rintro e v7 ⟨b, rfl, hp, hb⟩
  replace Gv := Lib.hid (Gv.out.past hb)
  replace Gf := Lib.hid (Gf.out.past hb)
  replace HT := Lib.hid (HT.out.on hb)
  replace BB := Lib.hid (BB.out.trans (hb.mono BB.out.size))
  replace Ra := Lib.hid (Ra.out.past (rTm.keeps) hb)
  replace Rx := Lib.hid (Rx.out.past (rFr.keeps) hb)
  replace Kw := Lib.hid (Kw.out.below hb Kw.out.lt)
  replace Kf := Lib.hid (Kf.out.below hb Kf.out.lt)
  clear hb
  rcases b with _ | _
  · clear hp
    go_wp2_with fail
    go_ret
    exact ⟨rfl, BB.out⟩
  have Px := Lib.hid (hp rfl)
  clear hp
  obtain ⟨yf0, yf1, yf2, yf3, -, -, -, -⟩ := fr_cells Kf.out
  go_wp2_with fail
  by_cases hdf : (nf : Int) ≤ 4 ∧ (mf : Int) ≤ 4
  case neg =>
    refine (few5_F ⟨sf, Af, nf, cf, tf, Bf, mf, df⟩ 4 v7 (by dsimp only; omega)).mono ?_
    rintro e v8 ⟨rfl, hb⟩
    replace Gv := Lib.hid (Gv.out.past hb)
    replace Gf := Lib.hid (Gf.out.past hb)
    replace HT := Lib.hid (HT.out.on hb)
    replace BB := Lib.hid (BB.out.trans (hb.mono BB.out.size))
    replace Ra := Lib.hid (Ra.out.past (rTm.keeps) hb)
    replace Rx := Lib.hid (Rx.out.past (rFr.keeps) hb)
    replace Kw := Lib.hid (Kw.out.below hb Kw.out.lt)
    replace Kf := Lib.hid (Kf.out.below hb Kf.out.lt)
    clear hb
    clear yf0 yf1 yf2 yf3
    go_wp2_with fail
    go_ret
    exact ⟨rfl, BB.out⟩
  refine (few5_T ⟨sf, Af, nf, cf, tf, Bf, mf, df⟩ 4 v7 hdf.1 hdf.2).mono ?_
  rintro e v9 ⟨rfl, hb⟩
  replace Gv := Lib.hid (Gv.out.past hb)
  replace Gf := Lib.hid (Gf.out.past hb)
  replace HT := Lib.hid (HT.out.on hb)
  replace BB := Lib.hid (BB.out.trans (hb.mono BB.out.size))
  replace Ra := Lib.hid (Ra.out.past (rTm.keeps) hb)
  replace Rx := Lib.hid (Rx.out.past (rFr.keeps) hb)
  replace Kw := Lib.hid (Kw.out.below hb Kw.out.lt)
  replace Kf := Lib.hid (Kf.out.below hb Kf.out.lt)
  clear hb
  clear yf0 yf1 yf2 yf3
  obtain ⟨la, hla⟩ := ts_of (k := 4) Ra.out (fun t ht => by have := Pa.out.2 t ht; omega)
  obtain ⟨xs, hxs⟩ := xs_of (k := 4) Rx.out (fun t ht => by have := Px.out.2 t ht; omega)
  obtain ⟨xv, hxv⟩ := Gv.out.fo (k := 4) (by dsimp only; omega) (by dsimp only; omega)
  obtain ⟨xf, hxf⟩ := Gf.out.fo (k := 4) (by dsimp only; omega) (by dsimp only; omega)
  have hn8 : n ≤ 8 := by have := Pa.out.1; omega
  have hm8 : m ≤ 8 := by have := Px.out.1; omega
  have Ta := Lib.hid hla
  have Xx := Lib.hid hxs
  have Fv := Lib.hid hxv
  have Ff := Lib.hid hxf
  clear hla hxs hxv hxf hdv hdf
  clear Ra Rx Gv Gf
  clear Pa Px
  obtain ⟨b0, hb0⟩ : ∃ b, sysH (m : Int) [] xs = b := ⟨_, rfl⟩
  go_wp2_with fail
  refine (Holds_is (k := 8) (c := 0) (cx := cx) (m : Int) Els.nil Xx.out HT.out (by decide) (by decide) (by omega) hb0).mono ?_
  rintro e v10 ⟨rfl, hb⟩
  replace HT := Lib.hid (HT.out.on hb)
  replace BB := Lib.hid (BB.out.trans (hb.mono BB.out.size))
  replace Kw := Lib.hid (Kw.out.below hb Kw.out.lt)
  replace Kf := Lib.hid (Kf.out.below hb Kf.out.lt)
  replace Ta := Lib.hid (Ta.out.past (TmEl.keeps _) hb)
  replace Xx := Lib.hid (Xx.out.past (FrEl.keeps _) hb)
  replace Fv := Lib.hid (Fv.out.past hb)
  replace Ff := Lib.hid (Ff.out.past hb)
  clear hb
  rcases b0 with _ | _
  · skip
    go_wp2_with fail
    go_ret
    exact ⟨rfl, BB.out⟩
  obtain ⟨b1, hb1⟩ : ∃ b, sysR (m : Int) [⟨la, kd, xv⟩] = b := ⟨_, rfl⟩
  obtain ⟨yw0, yw1, yw2, yw3, yw4, yw5⟩ := rw_cells Kw.out
  obtain ⟨v11, hV⟩ : ∃ V, V = v10.alloc (.cells #[.slice A n c, .int .i64 kd, .int .i64 sv, .slice Av nv cv, .int .i64 tv, .slice Bv mv dv] 77) := ⟨_, rfl⟩
  have KV : Hid (Blk v11 v10.heap.size 77 #[.slice A n c, .int .i64 kd, .int .i64 sv, .slice Av nv cv, .int .i64 tv, .slice Bv mv dv]) := by show Blk _ _ _ _; rw [hV]; exact Blk.new _ _ _
  have hbV : Below v10.heap.size v10 v11 := by rw [hV]; exact bal (Below.refl _ _)
  go_wp2_with fail
  rw [← hV]
  clear yw0 yw1 yw2 yw3 yw4 yw5
  replace HT := Lib.hid (HT.out.on hbV)
  replace BB := Lib.hid (BB.out.trans (hbV.mono BB.out.size))
  replace Kw := Lib.hid (Kw.out.below hbV Kw.out.lt)
  replace Kf := Lib.hid (Kf.out.below hbV Kf.out.lt)
  replace Ta := Lib.hid (Ta.out.past (TmEl.keeps _) hbV)
  replace Xx := Lib.hid (Xx.out.past (FrEl.keeps _) hbV)
  replace Fv := Lib.hid (Fv.out.past hbV)
  replace Ff := Lib.hid (Ff.out.past hbV)
  clear hV hbV
  refine ((hb1 ▸ Right_sys (c := 1) (m : Int) (rs_one ⟨sv, Av, nv, cv, tv, Bv, mv, dv⟩ KV.out Ta.out ⟨hc, by omega⟩ Fv.out hv1 hv2) HT.out (by decide) (by decide) : Calls _ _ _ _ (BoolB b1 v11))).mono ?_
  rintro e v12 ⟨rfl, hb⟩
  replace HT := Lib.hid (HT.out.on hb)
  replace BB := Lib.hid (BB.out.trans (hb.mono BB.out.size))
  replace Kw := Lib.hid (Kw.out.below hb Kw.out.lt)
  replace Kf := Lib.hid (Kf.out.below hb Kf.out.lt)
  replace Ta := Lib.hid (Ta.out.past (TmEl.keeps _) hb)
  replace Xx := Lib.hid (Xx.out.past (FrEl.keeps _) hb)
  replace Fv := Lib.hid (Fv.out.past hb)
  replace Ff := Lib.hid (Ff.out.past hb)
  clear hb
  clear KV
  rcases b1 with _ | _
  · skip
    go_wp2_with fail
    go_ret
    exact ⟨rfl, BB.out⟩
  obtain ⟨o, ho⟩ : ∃ o, sgnO xf = o := ⟨_, rfl⟩
  obtain ⟨yf0, yf1, yf2, yf3, -, -, -, -⟩ := fr_cells Kf.out
  go_wp2_with fail
  refine (sign_O ⟨sf, Af, nf, cf, tf, Bf, mf, df⟩ Ff.out HT.out (by decide) ho).mono ?_
  rintro e v13 ⟨rfl, hb⟩
  replace HT := Lib.hid (HT.out.on hb)
  replace BB := Lib.hid (BB.out.trans (hb.mono BB.out.size))
  replace Kw := Lib.hid (Kw.out.below hb Kw.out.lt)
  replace Kf := Lib.hid (Kf.out.below hb Kf.out.lt)
  replace Ta := Lib.hid (Ta.out.past (TmEl.keeps _) hb)
  replace Xx := Lib.hid (Xx.out.past (FrEl.keeps _) hb)
  replace Fv := Lib.hid (Fv.out.past hb)
  replace Ff := Lib.hid (Ff.out.past hb)
  clear hb
  clear yf0 yf1 yf2 yf3
  by_cases ho0 : o = 0
  case pos =>
    subst ho0
    go_wp2_with fail
    go_ret
    exact ⟨rfl, BB.out⟩
  have hoe : (o == 0) = false := by simpa using ho0
  obtain ⟨xf, rfl⟩ : ∃ y, xf = some y := by
    cases xf with
    | none => exact absurd ho.symm ho0
    | some y => exact ⟨y, rfl⟩
  have hof : sgnR xf = o := ho
  have hf0 : xf ≠ 0 := fun e => by rw [e] at hof; exact ho0 hof.symm
  obtain ⟨hk0, hk3, ⟨vv, hvv⟩, a, ha, ra⟩ := rowR_parts hb1
  dsimp only at hk0 hk3 hvv ha
  subst hvv ha
  replace Fv : Hid (Fg v13 8 vv ⟨sv, Av, nv, cv, tv, Bv, mv, dv⟩) := Fv.out
  replace Ff : Hid (Fg v13 8 xf ⟨sf, Af, nf, cf, tf, Bf, mf, df⟩) := Ff.out
  have ra15 : rightT (-1) 1500 a = true := rightT_mono ra (by decide) (by omega)
  have hEq := Lib.hid hb0
  have hRr := Lib.hid hb1
  have HO := Lib.hid hof
  have HF0 := Lib.hid hf0
  clear ho hof hf0 hb0 hb1
  have SR : ∀ k : Int, 0 ≤ k → k < 3 → sysR (m : Int) [⟨up a, k, some vv⟩] = true := fun k h0 h3 => sysR_kind hRr.out h0 h3
  have SH : ∀ k : Int, 0 ≤ k → k < 3 → sysH (m : Int) [⟨up a, k, some vv⟩] xs = ordK k (ordR (valO xs (up a)) vv) := fun k h0 h3 => sysH_row hEq.out (SR k h0 h3)
  have SHh := Lib.hid SH
  have SRh := Lib.hid SR
  clear SH SR
  obtain ⟨yw0, yw1, yw2, yw3, yw4, yw5⟩ := rw_cells Kw.out
  go_upto_region 7 with (fail)
  obtain ⟨v14, hv14⟩ : ∃ v, v = v13.alloc (.cells #[.slice A n c, .int .i64 0, .int .i64 sv, .slice Av nv cv, .int .i64 tv, .slice Bv mv dv] 77) := ⟨_, rfl⟩
  rw [← hv14]
  have Kl : Hid (Blk v14 v13.heap.size 77 #[.slice A n c, .int .i64 0, .int .i64 sv, .slice Av nv cv, .int .i64 tv, .slice Bv mv dv]) := by show Blk _ _ _ _; rw [hv14]; exact Blk.new _ _ _
  have hb14 : Below v13.heap.size v13 v14 := by rw [hv14]; exact bal (Below.refl _ _)
  replace HT := Lib.hid (HT.out.on hb14)
  replace BB := Lib.hid (BB.out.trans (hb14.mono BB.out.size))
  replace Kw := Lib.hid (Kw.out.below hb14 Kw.out.lt)
  replace Kf := Lib.hid (Kf.out.below hb14 Kf.out.lt)
  replace Ta := Lib.hid (Ta.out.past (TmEl.keeps _) hb14)
  replace Xx := Lib.hid (Xx.out.past (FrEl.keeps _) hb14)
  replace Fv := Lib.hid (Fg.past Fv.out hb14)
  replace Ff := Lib.hid (Fg.past Ff.out hb14)
  obtain ⟨gl, hg14⟩ : ∃ g, g = v13.heap.size := ⟨_, rfl⟩
  rw [← hg14] at Kl ⊢
  clear hv14 hb14 hg14
  clear yw0 yw1 yw2 yw3 yw4 yw5
  obtain ⟨yw0, yw1, yw2, yw3, yw4, yw5⟩ := rw_cells Kw.out
  go_upto_region 8 with (fail)
  obtain ⟨v15, hv15⟩ : ∃ v, v = v14.alloc (.cells #[.slice A n c, .int .i64 1, .int .i64 sv, .slice Av nv cv, .int .i64 tv, .slice Bv mv dv] 77) := ⟨_, rfl⟩
  rw [← hv15]
  have Kh : Hid (Blk v15 v14.heap.size 77 #[.slice A n c, .int .i64 1, .int .i64 sv, .slice Av nv cv, .int .i64 tv, .slice Bv mv dv]) := by show Blk _ _ _ _; rw [hv15]; exact Blk.new _ _ _
  have hb15 : Below v14.heap.size v14 v15 := by rw [hv15]; exact bal (Below.refl _ _)
  replace HT := Lib.hid (HT.out.on hb15)
  replace BB := Lib.hid (BB.out.trans (hb15.mono BB.out.size))
  replace Kw := Lib.hid (Kw.out.below hb15 Kw.out.lt)
  replace Kf := Lib.hid (Kf.out.below hb15 Kf.out.lt)
  replace Ta := Lib.hid (Ta.out.past (TmEl.keeps _) hb15)
  replace Xx := Lib.hid (Xx.out.past (FrEl.keeps _) hb15)
  replace Fv := Lib.hid (Fg.past Fv.out hb15)
  replace Ff := Lib.hid (Fg.past Ff.out hb15)
  replace Kl := Lib.hid (Kl.out.below hb15 Kl.out.lt)
  obtain ⟨gh, hg15⟩ : ∃ g, g = v14.heap.size := ⟨_, rfl⟩
  rw [← hg15] at Kh ⊢
  clear hv15 hb15 hg15
  clear yw0 yw1 yw2 yw3 yw4 yw5
  obtain ⟨yw0, yw1, yw2, yw3, yw4, yw5⟩ := rw_cells Kw.out
  go_upto_region 9 with (fail)
  obtain ⟨v16, hv16⟩ : ∃ v, v = v15.alloc (.cells #[.slice A n c, .int .i64 2, .int .i64 sv, .slice Av nv cv, .int .i64 tv, .slice Bv mv dv] 77) := ⟨_, rfl⟩
  rw [← hv16]
  have Ke : Hid (Blk v16 v15.heap.size 77 #[.slice A n c, .int .i64 2, .int .i64 sv, .slice Av nv cv, .int .i64 tv, .slice Bv mv dv]) := by show Blk _ _ _ _; rw [hv16]; exact Blk.new _ _ _
  have hb16 : Below v15.heap.size v15 v16 := by rw [hv16]; exact bal (Below.refl _ _)
  replace HT := Lib.hid (HT.out.on hb16)
  replace BB := Lib.hid (BB.out.trans (hb16.mono BB.out.size))
  replace Kw := Lib.hid (Kw.out.below hb16 Kw.out.lt)
  replace Kf := Lib.hid (Kf.out.below hb16 Kf.out.lt)
  replace Ta := Lib.hid (Ta.out.past (TmEl.keeps _) hb16)
  replace Xx := Lib.hid (Xx.out.past (FrEl.keeps _) hb16)
  replace Fv := Lib.hid (Fg.past Fv.out hb16)
  replace Ff := Lib.hid (Fg.past Ff.out hb16)
  replace Kl := Lib.hid (Kl.out.below hb16 Kl.out.lt)
  replace Kh := Lib.hid (Kh.out.below hb16 Kh.out.lt)
  obtain ⟨ge, hg16⟩ : ∃ g, g = v15.heap.size := ⟨_, rfl⟩
  rw [← hg16] at Ke ⊢
  clear hv16 hb16 hg16
  clear yw0 yw1 yw2 yw3 yw4 yw5
  have HS : Hid (∀ w', Below v16.heap.size v16 w' → w'.cell? ⟨gl, 0, none⟩ = some (.slice A n c) ∧ w'.cell? ⟨gl, 1, none⟩ = some (.int .i64 0) ∧ w'.cell? ⟨gl, 2, none⟩ = some (.int .i64 sv) ∧ w'.cell? ⟨gl, 3, none⟩ = some (.slice Av nv cv) ∧ w'.cell? ⟨gl, 4, none⟩ = some (.int .i64 tv) ∧ w'.cell? ⟨gl, 5, none⟩ = some (.slice Bv mv dv) ∧ w'.cell? ⟨gh, 0, none⟩ = some (.slice A n c) ∧ w'.cell? ⟨gh, 1, none⟩ = some (.int .i64 1) ∧ w'.cell? ⟨gh, 2, none⟩ = some (.int .i64 sv) ∧ w'.cell? ⟨gh, 3, none⟩ = some (.slice Av nv cv) ∧ w'.cell? ⟨gh, 4, none⟩ = some (.int .i64 tv) ∧ w'.cell? ⟨gh, 5, none⟩ = some (.slice Bv mv dv) ∧ w'.cell? ⟨ge, 0, none⟩ = some (.slice A n c) ∧ w'.cell? ⟨ge, 1, none⟩ = some (.int .i64 2) ∧ w'.cell? ⟨ge, 2, none⟩ = some (.int .i64 sv) ∧ w'.cell? ⟨ge, 3, none⟩ = some (.slice Av nv cv) ∧ w'.cell? ⟨ge, 4, none⟩ = some (.int .i64 tv) ∧ w'.cell? ⟨ge, 5, none⟩ = some (.slice Bv mv dv)) := fun w' hb => ⟨cell_on hb (Kl.out.cell 0), cell_on hb (Kl.out.cell 1), cell_on hb (Kl.out.cell 2), cell_on hb (Kl.out.cell 3), cell_on hb (Kl.out.cell 4), cell_on hb (Kl.out.cell 5), cell_on hb (Kh.out.cell 0), cell_on hb (Kh.out.cell 1), cell_on hb (Kh.out.cell 2), cell_on hb (Kh.out.cell 3), cell_on hb (Kh.out.cell 4), cell_on hb (Kh.out.cell 5), cell_on hb (Ke.out.cell 0), cell_on hb (Ke.out.cell 1), cell_on hb (Ke.out.cell 2), cell_on hb (Ke.out.cell 3), cell_on hb (Ke.out.cell 4), cell_on hb (Ke.out.cell 5)⟩
  obtain ⟨L, hL⟩ : ∃ L, ordK 0 (ordR (valO xs (up a)) vv) = L := ⟨_, rfl⟩
  obtain ⟨U, hU⟩ : ∃ U, ordK 1 (ordR (valO xs (up a)) vv) = U := ⟨_, rfl⟩
  have hLU : (L || U) = true := by rw [← hL, ← hU]; exact ordK_some _
  have hE : ordK 2 (ordR (valO xs (up a)) vv) = (L && U) := by rw [ordK_both, hL, hU]
  have CL := Lib.hid (fun W (hb : Below v16.heap.size v16 W) => holds_T (x := ⟨up a, 0, some vv⟩) (cx := cx) ⟨sv, Av, nv, cv, tv, Bv, mv, dv⟩ W (Ta.out.past (TmEl.keeps _) hb) ⟨hc, by omega⟩ (Fg.past Fv.out hb) hv1 hv2 (Xx.out.past (FrEl.keeps _) hb) (HT.out.on hb) (by decide) (by omega) ((SHh.out 0 (by decide) (by decide)).trans hL))
  have CU := Lib.hid (fun W (hb : Below v16.heap.size v16 W) => holds_T (x := ⟨up a, 1, some vv⟩) (cx := cx) ⟨sv, Av, nv, cv, tv, Bv, mv, dv⟩ W (Ta.out.past (TmEl.keeps _) hb) ⟨hc, by omega⟩ (Fg.past Fv.out hb) hv1 hv2 (Xx.out.past (FrEl.keeps _) hb) (HT.out.on hb) (by decide) (by omega) ((SHh.out 1 (by decide) (by decide)).trans hU))
  have CE := Lib.hid (fun W (hb : Below v16.heap.size v16 W) => holds_T (x := ⟨up a, 2, some vv⟩) (cx := cx) ⟨sv, Av, nv, cv, tv, Bv, mv, dv⟩ W (Ta.out.past (TmEl.keeps _) hb) ⟨hc, by omega⟩ (Fg.past Fv.out hb) hv1 hv2 (Xx.out.past (FrEl.keeps _) hb) (HT.out.on hb) (by decide) (by omega) ((SHh.out 2 (by decide) (by decide)).trans hE))
  dsimp only [rwV] at CL CU CE
  clear hL hU hE
  rcases L with _ | _ <;> rcases U with _ | _
  case false.false => cases hLU
  case false.true =>
    rw [← tu79_is, ← tu80_is]
    first
    | (go_region_held3 (fun w' => w'.cell? ⟨gl, 0, none⟩ = some (.slice A n c) ∧ w'.cell? ⟨gl, 1, none⟩ = some (.int .i64 0) ∧ w'.cell? ⟨gl, 2, none⟩ = some (.int .i64 sv) ∧ w'.cell? ⟨gl, 3, none⟩ = some (.slice Av nv cv) ∧ w'.cell? ⟨gl, 4, none⟩ = some (.int .i64 tv) ∧ w'.cell? ⟨gl, 5, none⟩ = some (.slice Bv mv dv) ∧ w'.cell? ⟨gh, 0, none⟩ = some (.slice A n c) ∧ w'.cell? ⟨gh, 1, none⟩ = some (.int .i64 1) ∧ w'.cell? ⟨gh, 2, none⟩ = some (.int .i64 sv) ∧ w'.cell? ⟨gh, 3, none⟩ = some (.slice Av nv cv) ∧ w'.cell? ⟨gh, 4, none⟩ = some (.int .i64 tv) ∧ w'.cell? ⟨gh, 5, none⟩ = some (.slice Bv mv dv) ∧ w'.cell? ⟨ge, 0, none⟩ = some (.slice A n c) ∧ w'.cell? ⟨ge, 1, none⟩ = some (.int .i64 2) ∧ w'.cell? ⟨ge, 2, none⟩ = some (.int .i64 sv) ∧ w'.cell? ⟨ge, 3, none⟩ = some (.slice Av nv cv) ∧ w'.cell? ⟨ge, 4, none⟩ = some (.int .i64 tv) ∧ w'.cell? ⟨ge, 5, none⟩ = some (.slice Bv mv dv))
        (first | exact HS.out _ (bdr v16) | with_reducible exact HS.out _ X4.out | with_reducible exact HS.out _ X3.out | with_reducible exact HS.out _ X2.out | with_reducible exact HS.out _ X1.out)
        (first | (go_at_call 96; first | ((with_reducible refine (CU.out _ (X3.out)).mono ?_); rintro e y4 ⟨rfl, hb⟩; have X4 := Lib.hid ((X3.out).trans (hb.mono (X3.out).size)); clear hb) | ((with_reducible refine (CL.out _ (X2.out)).mono ?_); rintro e y3 ⟨rfl, hb⟩; have X3 := Lib.hid ((X2.out).trans (hb.mono (X2.out).size)); clear hb) | ((with_reducible refine (CL.out _ (X1.out)).mono ?_); rintro e y2 ⟨rfl, hb⟩; have X2 := Lib.hid ((X1.out).trans (hb.mono (X1.out).size)); clear hb) | ((with_reducible refine (CE.out _ (bdr v16)).mono ?_); rintro e y1 ⟨rfl, hb⟩; have X1 := Lib.hid ((bdr v16).trans (hb.mono (bdr v16).size)); clear hb))))
    | fail "no"
    all_goals
        clear CL CU CE HS X1 X2 X3 hLU
        have hb := X4.out
        clear X4
        clear Kl Kh Ke
        replace HT := Lib.hid (HT.out.on hb)
        replace BB := Lib.hid (BB.out.trans (hb.mono BB.out.size))
        replace Kw := Lib.hid (Kw.out.below hb Kw.out.lt)
        replace Kf := Lib.hid (Kf.out.below hb Kf.out.lt)
        replace Ta := Lib.hid (Ta.out.past (TmEl.keeps _) hb)
        replace Xx := Lib.hid (Xx.out.past (FrEl.keeps _) hb)
        replace Fv := Lib.hid (Fg.past Fv.out hb)
        replace Ff := Lib.hid (Fg.past Ff.out hb)
        clear hb
        obtain ⟨yw0, yw1, yw2, yw3, yw4, yw5⟩ := rw_cells Kw.out
        obtain ⟨yf0, yf1, yf2, yf3, -, -, -, -⟩ := fr_cells Kf.out
        go_wp2_with fail
        refine (mul_R ⟨sv, Av, nv, cv, tv, Bv, mv, dv⟩ ⟨sf, Af, nf, cf, tf, Bf, mf, df⟩ Fv.out Ff.out HT.out (by decide)).mono ?_
        rintro e v27 ⟨⟨sq, Aq, nq, cq, tq, Bq, mq, dq⟩, rfl, hq1, hq2, hf, -, -, hb⟩
        have Fq := Lib.hid hf
        clear hf
        dsimp only [frV]
        replace HT := Lib.hid (HT.out.on hb)
        replace BB := Lib.hid (BB.out.trans (hb.mono BB.out.size))
        replace Kw := Lib.hid (Kw.out.below hb Kw.out.lt)
        replace Kf := Lib.hid (Kf.out.below hb Kf.out.lt)
        replace Ta := Lib.hid (Ta.out.past (TmEl.keeps _) hb)
        replace Xx := Lib.hid (Xx.out.past (FrEl.keeps _) hb)
        replace Fv := Lib.hid (Fg.past Fv.out hb)
        replace Ff := Lib.hid (Fg.past Ff.out hb)
        clear hb
        clear yw0 yw1 yw2 yw3 yw4 yw5 yf0 yf1 yf2 yf3
        go_upto_region 12 with (fail)
        obtain ⟨v28, hv28⟩ : ∃ v, v = v27.alloc (.cells #[.int .i64 sq, .slice Aq nq cq, .int .i64 tq, .slice Bq mq dq] 43) := ⟨_, rfl⟩
        rw [← hv28]
        have Kq : Hid (Blk v28 v27.heap.size 43 #[.int .i64 sq, .slice Aq nq cq, .int .i64 tq, .slice Bq mq dq]) := by show Blk _ _ _ _; rw [hv28]; exact Blk.new _ _ _
        have hb28 : Below v27.heap.size v27 v28 := by rw [hv28]; exact bal (Below.refl _ _)
        replace HT := Lib.hid (HT.out.on hb28)
        replace BB := Lib.hid (BB.out.trans (hb28.mono BB.out.size))
        replace Kw := Lib.hid (Kw.out.below hb28 Kw.out.lt)
        replace Kf := Lib.hid (Kf.out.below hb28 Kf.out.lt)
        replace Ta := Lib.hid (Ta.out.past (TmEl.keeps _) hb28)
        replace Xx := Lib.hid (Xx.out.past (FrEl.keeps _) hb28)
        replace Fv := Lib.hid (Fg.past Fv.out hb28)
        replace Ff := Lib.hid (Fg.past Ff.out hb28)
        replace Fq := Lib.hid (Fg.past Fq.out hb28)
        obtain ⟨gq, hg28⟩ : ∃ g, g = v27.heap.size := ⟨_, rfl⟩
        rw [← hg28] at Kq ⊢
        clear hv28 hb28 hg28
        have HS : Hid (∀ w', Below v28.heap.size v28 w' → w'.cell? ⟨gw, 0, none⟩ = some (.slice A n c) ∧ w'.cell? ⟨gw, 1, none⟩ = some (.int .i64 kd) ∧ w'.cell? ⟨gf, 0, none⟩ = some (.int .i64 sf) ∧ w'.cell? ⟨gf, 1, none⟩ = some (.slice Af nf cf) ∧ w'.cell? ⟨gf, 2, none⟩ = some (.int .i64 tf) ∧ w'.cell? ⟨gf, 3, none⟩ = some (.slice Bf mf df) ∧ w'.cell? ⟨gq, 0, none⟩ = some (.int .i64 sq) ∧ w'.cell? ⟨gq, 1, none⟩ = some (.slice Aq nq cq) ∧ w'.cell? ⟨gq, 2, none⟩ = some (.int .i64 tq) ∧ w'.cell? ⟨gq, 3, none⟩ = some (.slice Bq mq dq)) := fun w' hb => ⟨cell_on hb (Kw.out.cell 0), cell_on hb (Kw.out.cell 1), cell_on hb (Kf.out.cell 0), cell_on hb (Kf.out.cell 1), cell_on hb (Kf.out.cell 2), cell_on hb (Kf.out.cell 3), cell_on hb (Kq.out.cell 0), cell_on hb (Kq.out.cell 1), cell_on hb (Kq.out.cell 2), cell_on hb (Kq.out.cell 3)⟩
        have CT := Lib.hid (fun W (hb : Below v28.heap.size v28 W) gb (hgb : gb < W.heap.size) => Times_any (w := W) gb hgb c ⟨sf, Af, nf, cf, tf, Bf, mf, df⟩ (Ta.out.past (TmEl.keeps _) hb) (Fg.past Ff.out hb) HF0.out (HT.out.on hb) ra15 (by decide) (by omega))
        dsimp only [frV] at CT
        have CLt := Lib.hid (times_late (W0 := v28) kd ⟨sq, Aq, nq, cq, tq, Bq, mq, dq⟩ (CT.out v28.drew (bdr v28) 0 (Nat.lt_of_le_of_lt (Nat.zero_le _) Kw.out.lt)))
        have CEr := Lib.hid (times_early (W0 := v28) kd ⟨sq, Aq, nq, cq, tq, Bq, mq, dq⟩ (CT.out (v28.alloc (.cells rz 77)).drew ((bal (Below.refl _ _)).drew) v28.heap.size (Blk.new v28 77 rz).lt))
        dsimp only [rz] at CLt CEr
        first
        | (go_region_held3 (fun w' => w'.cell? ⟨gw, 0, none⟩ = some (.slice A n c) ∧ w'.cell? ⟨gw, 1, none⟩ = some (.int .i64 kd) ∧ w'.cell? ⟨gf, 0, none⟩ = some (.int .i64 sf) ∧ w'.cell? ⟨gf, 1, none⟩ = some (.slice Af nf cf) ∧ w'.cell? ⟨gf, 2, none⟩ = some (.int .i64 tf) ∧ w'.cell? ⟨gf, 3, none⟩ = some (.slice Bf mf df) ∧ w'.cell? ⟨gq, 0, none⟩ = some (.int .i64 sq) ∧ w'.cell? ⟨gq, 1, none⟩ = some (.slice Aq nq cq) ∧ w'.cell? ⟨gq, 2, none⟩ = some (.int .i64 tq) ∧ w'.cell? ⟨gq, 3, none⟩ = some (.slice Bq mq dq))
            (first | with_reducible exact HS.out _ (below_6 HBX.out (Nat.le_refl _)) | with_reducible exact HS.out _ (bal HBX.out) | with_reducible exact HS.out _ HBX.out | with_reducible exact HS.out _ (bal (Below.refl _ _)).drew | with_reducible exact HS.out _ (bal (Below.refl _ _)) | exact HS.out _ (bdr v28))
            (first | (go_at_call 93; first | ((with_reducible refine CLt.out.mono ?_); rintro e w3 ⟨Al, pl, cl, rfl, hcl, hb, bt⟩; have HBX := Lib.hid hb; have BT := Lib.hid bt; clear hb bt) | ((with_reducible refine CEr.out.mono ?_); rintro e w3 ⟨Al, pl, cl, rfl, hcl, hb, hk, bt⟩; obtain ⟨e0, e1, e2, e3, e4, e5⟩ := rw_cells hk; obtain ⟨e6, e7, e8, e9, e10, e11⟩ := rw_frozen hk; have HBX := Lib.hid hb; have BT := Lib.hid bt; clear hb hk bt))))
        | fail "no"
        all_goals
          try dsimp only [rwC] at BT
          first
          | (obtain ⟨W4, hW4⟩ : ∃ W4, W4 = w3.alloc (.cells #[.slice Al pl cl, .int .i64 kd, .int .i64 sq, .slice Aq nq cq, .int .i64 tq, .slice Bq mq dq] 77) := ⟨_, rfl⟩
             rw [← hW4] at BT ⊢
             obtain ⟨gt, hgt⟩ : ∃ g, g = w3.heap.size := ⟨_, rfl⟩
             rw [← hgt] at BT ⊢)
          | (obtain ⟨W4, hW4⟩ : ∃ W4, W4 = ((((((w3.setCell ⟨v28.heap.size, 0, none⟩ (.slice Al pl cl)).setCell ⟨v28.heap.size, 1, none⟩ (.int .i64 kd)).setCell ⟨v28.heap.size, 2, none⟩ (.int .i64 sq)).setCell ⟨v28.heap.size, 3, none⟩ (.slice Aq nq cq)).setCell ⟨v28.heap.size, 4, none⟩ (.int .i64 tq)).setCell ⟨v28.heap.size, 5, none⟩ (.slice Bq mq dq)) := ⟨_, rfl⟩
             rw [← hW4] at BT ⊢
             obtain ⟨gt, hgt⟩ : ∃ g, g = v28.heap.size := ⟨_, rfl⟩
             rw [← hgt] at BT ⊢)
          clear hW4 hgt
          have Kt := Lib.hid BT.out.bk
          have ST := Lib.hid BT.out.st
          have hb := BT.out.bl
          have BQ := Lib.hid BT.out.bl
          have LO := BT.out.lo
          have Ta0 := Ta
          have Xx0 := Xx
          have Fv0 := Fv
          have Fq0 := Fq
          have HT0 := HT
          have Kw0 := Kw
          have BB0 := BB
          dsimp only [rwC] at Kt
          clear HBX HS CT CLt CEr BT
          replace HT := Lib.hid (HT.out.on hb)
          replace BB := Lib.hid (BB.out.trans (hb.mono BB.out.size))
          replace Kw := Lib.hid (Kw.out.below hb Kw.out.lt)
          replace Kf := Lib.hid (Kf.out.below hb Kf.out.lt)
          replace Ta := Lib.hid (Ta.out.past (TmEl.keeps _) hb)
          replace Xx := Lib.hid (Xx.out.past (FrEl.keeps _) hb)
          replace Fv := Lib.hid (Fg.past Fv.out hb)
          replace Ff := Lib.hid (Fg.past Ff.out hb)
          replace Fq := Lib.hid (Fg.past Fq.out hb)
          replace Kq := Lib.hid (Kq.out.below hb Kq.out.lt)
          clear hb
          have hpl : pl ≤ 8 := by
            have h1 := (ST.out W4 (grown_refl W4 _)).len
            have h2 := Ta.out.len
            rw [up_len] at h1 h2
            have h3 := length_times xf a
            omega
          obtain ⟨yf0, yf1, yf2, yf3, -, -, -, -⟩ := fr_cells Kf.out
          go_wp2_with fail
          refine (sign_R ⟨sf, Af, nf, cf, tf, Bf, mf, df⟩ Ff.out HT.out (by decide) HO.out).mono ?_
          rintro e v29 ⟨rfl, hb⟩
          replace ST := Lib.hid (fun W' h => ST.out W' ((only_of_below hb _).trans h))
          replace HT := Lib.hid (HT.out.on hb)
          replace BB := Lib.hid (BB.out.trans (hb.mono BB.out.size))
          replace Kw := Lib.hid (Kw.out.below hb Kw.out.lt)
          replace Kf := Lib.hid (Kf.out.below hb Kf.out.lt)
          replace Ta := Lib.hid (Ta.out.past (TmEl.keeps _) hb)
          replace Xx := Lib.hid (Xx.out.past (FrEl.keeps _) hb)
          replace Fv := Lib.hid (Fg.past Fv.out hb)
          replace Ff := Lib.hid (Fg.past Ff.out hb)
          replace Fq := Lib.hid (Fg.past Fq.out hb)
          replace Kq := Lib.hid (Kq.out.below hb Kq.out.lt)
          replace Kt := Lib.hid (Kt.out.below hb Kt.out.lt)
          replace BQ := Lib.hid (BQ.out.trans (hb.mono BQ.out.size))
          clear hb
          clear yf0 yf1 yf2 yf3
          obtain ⟨bw, hbw⟩ : ∃ b, sysH (m : Int) [⟨up a, kd, some vv⟩] xs = b := ⟨_, rfl⟩
          have HTQ : ∀ k', (o < 0 ∧ kd ≠ 2 ∧ k' = 1 - kd) ∨ (¬ (o < 0 ∧ kd ≠ 2) ∧ k' = kd) → sysH (m : Int) [⟨up (timesT xf a), k', some (vv * xf)⟩] xs = bw := fun k' hk' => by
            rw [← hbw]
            exact turned_eq hEq.out hRr.out HF0.out hk0 hk3 (by rw [HO.out]; exact hk')
          have HQT := Lib.hid HTQ
          have HBW := Lib.hid hbw
          clear HTQ hbw
          by_cases hneg : o < 0
          · by_cases hk2 : kd = 2
            · have hkb : (kd != 2) = false := by simpa using hk2
              have hq : Hid (¬ (o < 0 ∧ kd ≠ 2)) := fun h => h.2 hk2
              clear hk2
              obtain ⟨yw0, yw1, yw2, yw3, yw4, yw5⟩ := rw_cells Kw.out
              go_wp2_with fail
              clear yw0 yw1 yw2 yw3 yw4 yw5
              have HS : Hid (∀ w', Below v29.heap.size v29 w' → w'.cell? ⟨gt, 0, none⟩ = some (.slice Al pl cl) ∧ w'.cell? ⟨gt, 1, none⟩ = some (.int .i64 kd) ∧ w'.cell? ⟨gt, 2, none⟩ = some (.int .i64 sq) ∧ w'.cell? ⟨gt, 3, none⟩ = some (.slice Aq nq cq) ∧ w'.cell? ⟨gt, 4, none⟩ = some (.int .i64 tq) ∧ w'.cell? ⟨gt, 5, none⟩ = some (.slice Bq mq dq) ∧ w'.cell? ⟨gw, 0, none⟩ = some (.slice A n c) ∧ w'.cell? ⟨gw, 1, none⟩ = some (.int .i64 kd) ∧ w'.cell? ⟨gw, 2, none⟩ = some (.int .i64 sv) ∧ w'.cell? ⟨gw, 3, none⟩ = some (.slice Av nv cv) ∧ w'.cell? ⟨gw, 4, none⟩ = some (.int .i64 tv) ∧ w'.cell? ⟨gw, 5, none⟩ = some (.slice Bv mv dv)) := fun w' hb => ⟨cell_on hb (Kt.out.cell 0), cell_on hb (Kt.out.cell 1), cell_on hb (Kt.out.cell 2), cell_on hb (Kt.out.cell 3), cell_on hb (Kt.out.cell 4), cell_on hb (Kt.out.cell 5), cell_on hb (Kw.out.cell 0), cell_on hb (Kw.out.cell 1), cell_on hb (Kw.out.cell 2), cell_on hb (Kw.out.cell 3), cell_on hb (Kw.out.cell 4), cell_on hb (Kw.out.cell 5)⟩
              have C1 := Lib.hid (fun W (hb : Below v29.heap.size v29 W) => holds_T (k := 16) (x := ⟨up (timesT xf a), kd, some (vv * xf)⟩) (cx := cx) ⟨sq, Aq, nq, cq, tq, Bq, mq, dq⟩ W (ST.out W (only_of_below hb _)) ⟨hcl, by omega⟩ (Fg.past Fq.out hb) hq1 hq2 (xs_more (Xx.out.past (FrEl.keeps _) hb) (by decide)) (HT.out.on hb) (by decide) (by omega) (HQT.out (kd) (.inr ⟨hq.out, rfl⟩)))
              have C2 := Lib.hid (fun W (hb : Below v29.heap.size v29 W) => holds_T (x := ⟨up a, kd, some vv⟩) (cx := cx) ⟨sv, Av, nv, cv, tv, Bv, mv, dv⟩ W (Ta.out.past (TmEl.keeps _) hb) ⟨hc, by omega⟩ (Fg.past Fv.out hb) hv1 hv2 (Xx.out.past (FrEl.keeps _) hb) (HT.out.on hb) (by decide) (by omega) HBW.out)
              dsimp only [rwV] at C1 C2
              first
              | (go_region_held3 (fun w' => w'.cell? ⟨gt, 0, none⟩ = some (.slice Al pl cl) ∧ w'.cell? ⟨gt, 1, none⟩ = some (.int .i64 kd) ∧ w'.cell? ⟨gt, 2, none⟩ = some (.int .i64 sq) ∧ w'.cell? ⟨gt, 3, none⟩ = some (.slice Aq nq cq) ∧ w'.cell? ⟨gt, 4, none⟩ = some (.int .i64 tq) ∧ w'.cell? ⟨gt, 5, none⟩ = some (.slice Bq mq dq) ∧ w'.cell? ⟨gw, 0, none⟩ = some (.slice A n c) ∧ w'.cell? ⟨gw, 1, none⟩ = some (.int .i64 kd) ∧ w'.cell? ⟨gw, 2, none⟩ = some (.int .i64 sv) ∧ w'.cell? ⟨gw, 3, none⟩ = some (.slice Av nv cv) ∧ w'.cell? ⟨gw, 4, none⟩ = some (.int .i64 tv) ∧ w'.cell? ⟨gw, 5, none⟩ = some (.slice Bv mv dv))
                  (first | exact HS.out _ (bdr v29) | with_reducible exact HS.out _ Z2.out | with_reducible exact HS.out _ Z1.out)
                  (first | (go_at_call 96; first | ((with_reducible refine (C2.out _ Z1.out).mono ?_); rintro e z2 ⟨rfl, hb⟩; have Z2 := Lib.hid (Z1.out.trans (hb.mono Z1.out.size)); clear hb) | ((with_reducible refine (C1.out _ (bdr v29)).mono ?_); rintro e z1 ⟨rfl, hb⟩; have Z1 := Lib.hid ((bdr v29).trans hb); clear hb))))
              | fail "no"
              all_goals
                have BE := Lib.hid (BB.out.trans (Z2.out.mono BB.out.size))
                go_wp2_with fail
                go_ret
                exact ⟨by simp, BE.out⟩
            · have hkb : (kd != 2) = true := by simpa using hk2
              have hq : Hid (o < 0 ∧ kd ≠ 2) := ⟨hneg, hk2⟩
              have r0 : (0 : Int) ≤ 3 - kd := by omega
              obtain ⟨yt0, yt1, -, -, -, -⟩ := rw_cells Kt.out
              obtain ⟨-, yt6, -, -, -, -⟩ := rw_frozen Kt.out
              obtain ⟨V5, hV5⟩ : ∃ V, V = v29.setCell ⟨gt, 1, none⟩ (.int .i64 (1 - kd)) := ⟨_, rfl⟩
              obtain ⟨yw0, yw1, yw2, yw3, yw4, yw5⟩ := rw_cells Kw.out
              go_upto_region 15 with (fail)
              rw [← hV5]
              clear yw0 yw1 yw2 yw3 yw4 yw5
              have hb5 : Below v28.heap.size v28 V5 := by rw [hV5]; exact BQ.out.setCell (p := ⟨gt, 1, none⟩) LO _
              replace Kt : Hid (Blk V5 gt 77 #[.slice Al pl cl, .int .i64 (1 - kd), .int .i64 sq, .slice Aq nq cq, .int .i64 tq, .slice Bq mq dq]) := by
                show Blk _ _ _ _
                rw [hV5]
                have := Kt.out.set_ 1 (.int .i64 (1 - kd))
                simpa using this
              replace ST := Lib.hid (fun W' (h : V5.grownBy W' (some gt)) => ST.out W' ((by rw [hV5]; exact only_setCell (p := ⟨gt, 1, none⟩) (grown_refl _ _) (.inl rfl) _ : World.grownBy v29 V5 (some gt)).trans h))
              replace Ta := Lib.hid (Ta0.out.past (TmEl.keeps _) hb5)
              replace Xx := Lib.hid (Xx0.out.past (FrEl.keeps _) hb5)
              replace Fv := Lib.hid (Fg.past Fv0.out hb5)
              replace Fq := Lib.hid (Fg.past Fq0.out hb5)
              replace HT := Lib.hid (HT0.out.on hb5)
              replace Kw := Lib.hid (Kw0.out.below hb5 Kw0.out.lt)
              replace BB := Lib.hid (BB0.out.trans (hb5.mono BB0.out.size))
              clear hV5 hb5 yt0 yt1 yt6
              have HS : Hid (∀ w', Below V5.heap.size V5 w' → w'.cell? ⟨gt, 0, none⟩ = some (.slice Al pl cl) ∧ w'.cell? ⟨gt, 1, none⟩ = some (.int .i64 (1 - kd)) ∧ w'.cell? ⟨gt, 2, none⟩ = some (.int .i64 sq) ∧ w'.cell? ⟨gt, 3, none⟩ = some (.slice Aq nq cq) ∧ w'.cell? ⟨gt, 4, none⟩ = some (.int .i64 tq) ∧ w'.cell? ⟨gt, 5, none⟩ = some (.slice Bq mq dq) ∧ w'.cell? ⟨gw, 0, none⟩ = some (.slice A n c) ∧ w'.cell? ⟨gw, 1, none⟩ = some (.int .i64 kd) ∧ w'.cell? ⟨gw, 2, none⟩ = some (.int .i64 sv) ∧ w'.cell? ⟨gw, 3, none⟩ = some (.slice Av nv cv) ∧ w'.cell? ⟨gw, 4, none⟩ = some (.int .i64 tv) ∧ w'.cell? ⟨gw, 5, none⟩ = some (.slice Bv mv dv)) := fun w' hb => ⟨cell_on hb (Kt.out.cell 0), cell_on hb (Kt.out.cell 1), cell_on hb (Kt.out.cell 2), cell_on hb (Kt.out.cell 3), cell_on hb (Kt.out.cell 4), cell_on hb (Kt.out.cell 5), cell_on hb (Kw.out.cell 0), cell_on hb (Kw.out.cell 1), cell_on hb (Kw.out.cell 2), cell_on hb (Kw.out.cell 3), cell_on hb (Kw.out.cell 4), cell_on hb (Kw.out.cell 5)⟩
              have C1 := Lib.hid (fun W (hb : Below V5.heap.size V5 W) => holds_T (k := 16) (x := ⟨up (timesT xf a), (1 - kd), some (vv * xf)⟩) (cx := cx) ⟨sq, Aq, nq, cq, tq, Bq, mq, dq⟩ W (ST.out W (only_of_below hb _)) ⟨hcl, by omega⟩ (Fg.past Fq.out hb) hq1 hq2 (xs_more (Xx.out.past (FrEl.keeps _) hb) (by decide)) (HT.out.on hb) (by decide) (by omega) (HQT.out ((1 - kd)) (.inl ⟨hq.out.1, hq.out.2, rfl⟩)))
              have C2 := Lib.hid (fun W (hb : Below V5.heap.size V5 W) => holds_T (x := ⟨up a, kd, some vv⟩) (cx := cx) ⟨sv, Av, nv, cv, tv, Bv, mv, dv⟩ W (Ta.out.past (TmEl.keeps _) hb) ⟨hc, by omega⟩ (Fg.past Fv.out hb) hv1 hv2 (Xx.out.past (FrEl.keeps _) hb) (HT.out.on hb) (by decide) (by omega) HBW.out)
              dsimp only [rwV] at C1 C2
              first
              | (go_region_held3 (fun w' => w'.cell? ⟨gt, 0, none⟩ = some (.slice Al pl cl) ∧ w'.cell? ⟨gt, 1, none⟩ = some (.int .i64 (1 - kd)) ∧ w'.cell? ⟨gt, 2, none⟩ = some (.int .i64 sq) ∧ w'.cell? ⟨gt, 3, none⟩ = some (.slice Aq nq cq) ∧ w'.cell? ⟨gt, 4, none⟩ = some (.int .i64 tq) ∧ w'.cell? ⟨gt, 5, none⟩ = some (.slice Bq mq dq) ∧ w'.cell? ⟨gw, 0, none⟩ = some (.slice A n c) ∧ w'.cell? ⟨gw, 1, none⟩ = some (.int .i64 kd) ∧ w'.cell? ⟨gw, 2, none⟩ = some (.int .i64 sv) ∧ w'.cell? ⟨gw, 3, none⟩ = some (.slice Av nv cv) ∧ w'.cell? ⟨gw, 4, none⟩ = some (.int .i64 tv) ∧ w'.cell? ⟨gw, 5, none⟩ = some (.slice Bv mv dv))
                  (first | exact HS.out _ (bdr V5) | with_reducible exact HS.out _ Z2.out | with_reducible exact HS.out _ Z1.out)
                  (first | (go_at_call 96; first | ((with_reducible refine (C2.out _ Z1.out).mono ?_); rintro e z2 ⟨rfl, hb⟩; have Z2 := Lib.hid (Z1.out.trans (hb.mono Z1.out.size)); clear hb) | ((with_reducible refine (C1.out _ (bdr V5)).mono ?_); rintro e z1 ⟨rfl, hb⟩; have Z1 := Lib.hid ((bdr V5).trans hb); clear hb))))
              | fail "no"
              all_goals
                have BE := Lib.hid (BB.out.trans (Z2.out.mono BB.out.size))
                go_wp2_with fail
                go_ret
                exact ⟨by simp, BE.out⟩
          · have hq : Hid (¬ (o < 0 ∧ kd ≠ 2)) := fun h => hneg h.1
            go_wp2_with fail
            have HS : Hid (∀ w', Below v29.heap.size v29 w' → w'.cell? ⟨gt, 0, none⟩ = some (.slice Al pl cl) ∧ w'.cell? ⟨gt, 1, none⟩ = some (.int .i64 kd) ∧ w'.cell? ⟨gt, 2, none⟩ = some (.int .i64 sq) ∧ w'.cell? ⟨gt, 3, none⟩ = some (.slice Aq nq cq) ∧ w'.cell? ⟨gt, 4, none⟩ = some (.int .i64 tq) ∧ w'.cell? ⟨gt, 5, none⟩ = some (.slice Bq mq dq) ∧ w'.cell? ⟨gw, 0, none⟩ = some (.slice A n c) ∧ w'.cell? ⟨gw, 1, none⟩ = some (.int .i64 kd) ∧ w'.cell? ⟨gw, 2, none⟩ = some (.int .i64 sv) ∧ w'.cell? ⟨gw, 3, none⟩ = some (.slice Av nv cv) ∧ w'.cell? ⟨gw, 4, none⟩ = some (.int .i64 tv) ∧ w'.cell? ⟨gw, 5, none⟩ = some (.slice Bv mv dv)) := fun w' hb => ⟨cell_on hb (Kt.out.cell 0), cell_on hb (Kt.out.cell 1), cell_on hb (Kt.out.cell 2), cell_on hb (Kt.out.cell 3), cell_on hb (Kt.out.cell 4), cell_on hb (Kt.out.cell 5), cell_on hb (Kw.out.cell 0), cell_on hb (Kw.out.cell 1), cell_on hb (Kw.out.cell 2), cell_on hb (Kw.out.cell 3), cell_on hb (Kw.out.cell 4), cell_on hb (Kw.out.cell 5)⟩
            have C1 := Lib.hid (fun W (hb : Below v29.heap.size v29 W) => holds_T (k := 16) (x := ⟨up (timesT xf a), kd, some (vv * xf)⟩) (cx := cx) ⟨sq, Aq, nq, cq, tq, Bq, mq, dq⟩ W (ST.out W (only_of_below hb _)) ⟨hcl, by omega⟩ (Fg.past Fq.out hb) hq1 hq2 (xs_more (Xx.out.past (FrEl.keeps _) hb) (by decide)) (HT.out.on hb) (by decide) (by omega) (HQT.out (kd) (.inr ⟨hq.out, rfl⟩)))
            have C2 := Lib.hid (fun W (hb : Below v29.heap.size v29 W) => holds_T (x := ⟨up a, kd, some vv⟩) (cx := cx) ⟨sv, Av, nv, cv, tv, Bv, mv, dv⟩ W (Ta.out.past (TmEl.keeps _) hb) ⟨hc, by omega⟩ (Fg.past Fv.out hb) hv1 hv2 (Xx.out.past (FrEl.keeps _) hb) (HT.out.on hb) (by decide) (by omega) HBW.out)
            dsimp only [rwV] at C1 C2
            first
            | (go_region_held3 (fun w' => w'.cell? ⟨gt, 0, none⟩ = some (.slice Al pl cl) ∧ w'.cell? ⟨gt, 1, none⟩ = some (.int .i64 kd) ∧ w'.cell? ⟨gt, 2, none⟩ = some (.int .i64 sq) ∧ w'.cell? ⟨gt, 3, none⟩ = some (.slice Aq nq cq) ∧ w'.cell? ⟨gt, 4, none⟩ = some (.int .i64 tq) ∧ w'.cell? ⟨gt, 5, none⟩ = some (.slice Bq mq dq) ∧ w'.cell? ⟨gw, 0, none⟩ = some (.slice A n c) ∧ w'.cell? ⟨gw, 1, none⟩ = some (.int .i64 kd) ∧ w'.cell? ⟨gw, 2, none⟩ = some (.int .i64 sv) ∧ w'.cell? ⟨gw, 3, none⟩ = some (.slice Av nv cv) ∧ w'.cell? ⟨gw, 4, none⟩ = some (.int .i64 tv) ∧ w'.cell? ⟨gw, 5, none⟩ = some (.slice Bv mv dv))
                (first | exact HS.out _ (bdr v29) | with_reducible exact HS.out _ Z2.out | with_reducible exact HS.out _ Z1.out)
                (first | (go_at_call 96; first | ((with_reducible refine (C2.out _ Z1.out).mono ?_); rintro e z2 ⟨rfl, hb⟩; have Z2 := Lib.hid (Z1.out.trans (hb.mono Z1.out.size)); clear hb) | ((with_reducible refine (C1.out _ (bdr v29)).mono ?_); rintro e z1 ⟨rfl, hb⟩; have Z1 := Lib.hid ((bdr v29).trans hb); clear hb))))
            | fail "no"
            all_goals
              have BE := Lib.hid (BB.out.trans (Z2.out.mono BB.out.size))
              go_wp2_with fail
              go_ret
              exact ⟨by simp, BE.out⟩
  case true.false =>
    rw [← tu90_is, ← tu91_is, ← tu93_is]
    first
    | (go_region_held3 (fun w' => w'.cell? ⟨gl, 0, none⟩ = some (.slice A n c) ∧ w'.cell? ⟨gl, 1, none⟩ = some (.int .i64 0) ∧ w'.cell? ⟨gl, 2, none⟩ = some (.int .i64 sv) ∧ w'.cell? ⟨gl, 3, none⟩ = some (.slice Av nv cv) ∧ w'.cell? ⟨gl, 4, none⟩ = some (.int .i64 tv) ∧ w'.cell? ⟨gl, 5, none⟩ = some (.slice Bv mv dv) ∧ w'.cell? ⟨gh, 0, none⟩ = some (.slice A n c) ∧ w'.cell? ⟨gh, 1, none⟩ = some (.int .i64 1) ∧ w'.cell? ⟨gh, 2, none⟩ = some (.int .i64 sv) ∧ w'.cell? ⟨gh, 3, none⟩ = some (.slice Av nv cv) ∧ w'.cell? ⟨gh, 4, none⟩ = some (.int .i64 tv) ∧ w'.cell? ⟨gh, 5, none⟩ = some (.slice Bv mv dv) ∧ w'.cell? ⟨ge, 0, none⟩ = some (.slice A n c) ∧ w'.cell? ⟨ge, 1, none⟩ = some (.int .i64 2) ∧ w'.cell? ⟨ge, 2, none⟩ = some (.int .i64 sv) ∧ w'.cell? ⟨ge, 3, none⟩ = some (.slice Av nv cv) ∧ w'.cell? ⟨ge, 4, none⟩ = some (.int .i64 tv) ∧ w'.cell? ⟨ge, 5, none⟩ = some (.slice Bv mv dv))
        (first | exact HS.out _ (bdr v16) | with_reducible exact HS.out _ X4.out | with_reducible exact HS.out _ X3.out | with_reducible exact HS.out _ X2.out | with_reducible exact HS.out _ X1.out)
        (first | (go_at_call 96; first | ((with_reducible refine (CL.out _ (X3.out)).mono ?_); rintro e y4 ⟨rfl, hb⟩; have X4 := Lib.hid ((X3.out).trans (hb.mono (X3.out).size)); clear hb) | ((with_reducible refine (CU.out _ (X2.out)).mono ?_); rintro e y3 ⟨rfl, hb⟩; have X3 := Lib.hid ((X2.out).trans (hb.mono (X2.out).size)); clear hb) | ((with_reducible refine (CL.out _ (X1.out)).mono ?_); rintro e y2 ⟨rfl, hb⟩; have X2 := Lib.hid ((X1.out).trans (hb.mono (X1.out).size)); clear hb) | ((with_reducible refine (CE.out _ (bdr v16)).mono ?_); rintro e y1 ⟨rfl, hb⟩; have X1 := Lib.hid ((bdr v16).trans (hb.mono (bdr v16).size)); clear hb))))
    | fail "no"
    all_goals
        clear CL CU CE HS X1 X2 X3 hLU
        have hb := X4.out
        clear X4
        clear Kl Kh Ke
        replace HT := Lib.hid (HT.out.on hb)
        replace BB := Lib.hid (BB.out.trans (hb.mono BB.out.size))
        replace Kw := Lib.hid (Kw.out.below hb Kw.out.lt)
        replace Kf := Lib.hid (Kf.out.below hb Kf.out.lt)
        replace Ta := Lib.hid (Ta.out.past (TmEl.keeps _) hb)
        replace Xx := Lib.hid (Xx.out.past (FrEl.keeps _) hb)
        replace Fv := Lib.hid (Fg.past Fv.out hb)
        replace Ff := Lib.hid (Fg.past Ff.out hb)
        clear hb
        obtain ⟨yw0, yw1, yw2, yw3, yw4, yw5⟩ := rw_cells Kw.out
        obtain ⟨yf0, yf1, yf2, yf3, -, -, -, -⟩ := fr_cells Kf.out
        go_wp2_with fail
        refine (mul_R ⟨sv, Av, nv, cv, tv, Bv, mv, dv⟩ ⟨sf, Af, nf, cf, tf, Bf, mf, df⟩ Fv.out Ff.out HT.out (by decide)).mono ?_
        rintro e v27 ⟨⟨sq, Aq, nq, cq, tq, Bq, mq, dq⟩, rfl, hq1, hq2, hf, -, -, hb⟩
        have Fq := Lib.hid hf
        clear hf
        dsimp only [frV]
        replace HT := Lib.hid (HT.out.on hb)
        replace BB := Lib.hid (BB.out.trans (hb.mono BB.out.size))
        replace Kw := Lib.hid (Kw.out.below hb Kw.out.lt)
        replace Kf := Lib.hid (Kf.out.below hb Kf.out.lt)
        replace Ta := Lib.hid (Ta.out.past (TmEl.keeps _) hb)
        replace Xx := Lib.hid (Xx.out.past (FrEl.keeps _) hb)
        replace Fv := Lib.hid (Fg.past Fv.out hb)
        replace Ff := Lib.hid (Fg.past Ff.out hb)
        clear hb
        clear yw0 yw1 yw2 yw3 yw4 yw5 yf0 yf1 yf2 yf3
        go_upto_region 12 with (fail)
        obtain ⟨v28, hv28⟩ : ∃ v, v = v27.alloc (.cells #[.int .i64 sq, .slice Aq nq cq, .int .i64 tq, .slice Bq mq dq] 43) := ⟨_, rfl⟩
        rw [← hv28]
        have Kq : Hid (Blk v28 v27.heap.size 43 #[.int .i64 sq, .slice Aq nq cq, .int .i64 tq, .slice Bq mq dq]) := by show Blk _ _ _ _; rw [hv28]; exact Blk.new _ _ _
        have hb28 : Below v27.heap.size v27 v28 := by rw [hv28]; exact bal (Below.refl _ _)
        replace HT := Lib.hid (HT.out.on hb28)
        replace BB := Lib.hid (BB.out.trans (hb28.mono BB.out.size))
        replace Kw := Lib.hid (Kw.out.below hb28 Kw.out.lt)
        replace Kf := Lib.hid (Kf.out.below hb28 Kf.out.lt)
        replace Ta := Lib.hid (Ta.out.past (TmEl.keeps _) hb28)
        replace Xx := Lib.hid (Xx.out.past (FrEl.keeps _) hb28)
        replace Fv := Lib.hid (Fg.past Fv.out hb28)
        replace Ff := Lib.hid (Fg.past Ff.out hb28)
        replace Fq := Lib.hid (Fg.past Fq.out hb28)
        obtain ⟨gq, hg28⟩ : ∃ g, g = v27.heap.size := ⟨_, rfl⟩
        rw [← hg28] at Kq ⊢
        clear hv28 hb28 hg28
        have HS : Hid (∀ w', Below v28.heap.size v28 w' → w'.cell? ⟨gw, 0, none⟩ = some (.slice A n c) ∧ w'.cell? ⟨gw, 1, none⟩ = some (.int .i64 kd) ∧ w'.cell? ⟨gf, 0, none⟩ = some (.int .i64 sf) ∧ w'.cell? ⟨gf, 1, none⟩ = some (.slice Af nf cf) ∧ w'.cell? ⟨gf, 2, none⟩ = some (.int .i64 tf) ∧ w'.cell? ⟨gf, 3, none⟩ = some (.slice Bf mf df) ∧ w'.cell? ⟨gq, 0, none⟩ = some (.int .i64 sq) ∧ w'.cell? ⟨gq, 1, none⟩ = some (.slice Aq nq cq) ∧ w'.cell? ⟨gq, 2, none⟩ = some (.int .i64 tq) ∧ w'.cell? ⟨gq, 3, none⟩ = some (.slice Bq mq dq)) := fun w' hb => ⟨cell_on hb (Kw.out.cell 0), cell_on hb (Kw.out.cell 1), cell_on hb (Kf.out.cell 0), cell_on hb (Kf.out.cell 1), cell_on hb (Kf.out.cell 2), cell_on hb (Kf.out.cell 3), cell_on hb (Kq.out.cell 0), cell_on hb (Kq.out.cell 1), cell_on hb (Kq.out.cell 2), cell_on hb (Kq.out.cell 3)⟩
        have CT := Lib.hid (fun W (hb : Below v28.heap.size v28 W) gb (hgb : gb < W.heap.size) => Times_any (w := W) gb hgb c ⟨sf, Af, nf, cf, tf, Bf, mf, df⟩ (Ta.out.past (TmEl.keeps _) hb) (Fg.past Ff.out hb) HF0.out (HT.out.on hb) ra15 (by decide) (by omega))
        dsimp only [frV] at CT
        have CLt := Lib.hid (times_late (W0 := v28) kd ⟨sq, Aq, nq, cq, tq, Bq, mq, dq⟩ (CT.out v28.drew (bdr v28) 0 (Nat.lt_of_le_of_lt (Nat.zero_le _) Kw.out.lt)))
        have CEr := Lib.hid (times_early (W0 := v28) kd ⟨sq, Aq, nq, cq, tq, Bq, mq, dq⟩ (CT.out (v28.alloc (.cells rz 77)).drew ((bal (Below.refl _ _)).drew) v28.heap.size (Blk.new v28 77 rz).lt))
        dsimp only [rz] at CLt CEr
        first
        | (go_region_held3 (fun w' => w'.cell? ⟨gw, 0, none⟩ = some (.slice A n c) ∧ w'.cell? ⟨gw, 1, none⟩ = some (.int .i64 kd) ∧ w'.cell? ⟨gf, 0, none⟩ = some (.int .i64 sf) ∧ w'.cell? ⟨gf, 1, none⟩ = some (.slice Af nf cf) ∧ w'.cell? ⟨gf, 2, none⟩ = some (.int .i64 tf) ∧ w'.cell? ⟨gf, 3, none⟩ = some (.slice Bf mf df) ∧ w'.cell? ⟨gq, 0, none⟩ = some (.int .i64 sq) ∧ w'.cell? ⟨gq, 1, none⟩ = some (.slice Aq nq cq) ∧ w'.cell? ⟨gq, 2, none⟩ = some (.int .i64 tq) ∧ w'.cell? ⟨gq, 3, none⟩ = some (.slice Bq mq dq))
            (first | with_reducible exact HS.out _ (below_6 HBX.out (Nat.le_refl _)) | with_reducible exact HS.out _ (bal HBX.out) | with_reducible exact HS.out _ HBX.out | with_reducible exact HS.out _ (bal (Below.refl _ _)).drew | with_reducible exact HS.out _ (bal (Below.refl _ _)) | exact HS.out _ (bdr v28))
            (first | (go_at_call 93; first | ((with_reducible refine CLt.out.mono ?_); rintro e w3 ⟨Al, pl, cl, rfl, hcl, hb, bt⟩; have HBX := Lib.hid hb; have BT := Lib.hid bt; clear hb bt) | ((with_reducible refine CEr.out.mono ?_); rintro e w3 ⟨Al, pl, cl, rfl, hcl, hb, hk, bt⟩; obtain ⟨e0, e1, e2, e3, e4, e5⟩ := rw_cells hk; obtain ⟨e6, e7, e8, e9, e10, e11⟩ := rw_frozen hk; have HBX := Lib.hid hb; have BT := Lib.hid bt; clear hb hk bt))))
        | fail "no"
        all_goals
          try dsimp only [rwC] at BT
          first
          | (obtain ⟨W4, hW4⟩ : ∃ W4, W4 = w3.alloc (.cells #[.slice Al pl cl, .int .i64 kd, .int .i64 sq, .slice Aq nq cq, .int .i64 tq, .slice Bq mq dq] 77) := ⟨_, rfl⟩
             rw [← hW4] at BT ⊢
             obtain ⟨gt, hgt⟩ : ∃ g, g = w3.heap.size := ⟨_, rfl⟩
             rw [← hgt] at BT ⊢)
          | (obtain ⟨W4, hW4⟩ : ∃ W4, W4 = ((((((w3.setCell ⟨v28.heap.size, 0, none⟩ (.slice Al pl cl)).setCell ⟨v28.heap.size, 1, none⟩ (.int .i64 kd)).setCell ⟨v28.heap.size, 2, none⟩ (.int .i64 sq)).setCell ⟨v28.heap.size, 3, none⟩ (.slice Aq nq cq)).setCell ⟨v28.heap.size, 4, none⟩ (.int .i64 tq)).setCell ⟨v28.heap.size, 5, none⟩ (.slice Bq mq dq)) := ⟨_, rfl⟩
             rw [← hW4] at BT ⊢
             obtain ⟨gt, hgt⟩ : ∃ g, g = v28.heap.size := ⟨_, rfl⟩
             rw [← hgt] at BT ⊢)
          clear hW4 hgt
          have Kt := Lib.hid BT.out.bk
          have ST := Lib.hid BT.out.st
          have hb := BT.out.bl
          have BQ := Lib.hid BT.out.bl
          have LO := BT.out.lo
          have Ta0 := Ta
          have Xx0 := Xx
          have Fv0 := Fv
          have Fq0 := Fq
          have HT0 := HT
          have Kw0 := Kw
          have BB0 := BB
          dsimp only [rwC] at Kt
          clear HBX HS CT CLt CEr BT
          replace HT := Lib.hid (HT.out.on hb)
          replace BB := Lib.hid (BB.out.trans (hb.mono BB.out.size))
          replace Kw := Lib.hid (Kw.out.below hb Kw.out.lt)
          replace Kf := Lib.hid (Kf.out.below hb Kf.out.lt)
          replace Ta := Lib.hid (Ta.out.past (TmEl.keeps _) hb)
          replace Xx := Lib.hid (Xx.out.past (FrEl.keeps _) hb)
          replace Fv := Lib.hid (Fg.past Fv.out hb)
          replace Ff := Lib.hid (Fg.past Ff.out hb)
          replace Fq := Lib.hid (Fg.past Fq.out hb)
          replace Kq := Lib.hid (Kq.out.below hb Kq.out.lt)
          clear hb
          have hpl : pl ≤ 8 := by
            have h1 := (ST.out W4 (grown_refl W4 _)).len
            have h2 := Ta.out.len
            rw [up_len] at h1 h2
            have h3 := length_times xf a
            omega
          obtain ⟨yf0, yf1, yf2, yf3, -, -, -, -⟩ := fr_cells Kf.out
          go_wp2_with fail
          refine (sign_R ⟨sf, Af, nf, cf, tf, Bf, mf, df⟩ Ff.out HT.out (by decide) HO.out).mono ?_
          rintro e v29 ⟨rfl, hb⟩
          replace ST := Lib.hid (fun W' h => ST.out W' ((only_of_below hb _).trans h))
          replace HT := Lib.hid (HT.out.on hb)
          replace BB := Lib.hid (BB.out.trans (hb.mono BB.out.size))
          replace Kw := Lib.hid (Kw.out.below hb Kw.out.lt)
          replace Kf := Lib.hid (Kf.out.below hb Kf.out.lt)
          replace Ta := Lib.hid (Ta.out.past (TmEl.keeps _) hb)
          replace Xx := Lib.hid (Xx.out.past (FrEl.keeps _) hb)
          replace Fv := Lib.hid (Fg.past Fv.out hb)
          replace Ff := Lib.hid (Fg.past Ff.out hb)
          replace Fq := Lib.hid (Fg.past Fq.out hb)
          replace Kq := Lib.hid (Kq.out.below hb Kq.out.lt)
          replace Kt := Lib.hid (Kt.out.below hb Kt.out.lt)
          replace BQ := Lib.hid (BQ.out.trans (hb.mono BQ.out.size))
          clear hb
          clear yf0 yf1 yf2 yf3
          obtain ⟨bw, hbw⟩ : ∃ b, sysH (m : Int) [⟨up a, kd, some vv⟩] xs = b := ⟨_, rfl⟩
          have HTQ : ∀ k', (o < 0 ∧ kd ≠ 2 ∧ k' = 1 - kd) ∨ (¬ (o < 0 ∧ kd ≠ 2) ∧ k' = kd) → sysH (m : Int) [⟨up (timesT xf a), k', some (vv * xf)⟩] xs = bw := fun k' hk' => by
            rw [← hbw]
            exact turned_eq hEq.out hRr.out HF0.out hk0 hk3 (by rw [HO.out]; exact hk')
          have HQT := Lib.hid HTQ
          have HBW := Lib.hid hbw
          clear HTQ hbw
          by_cases hneg : o < 0
          · by_cases hk2 : kd = 2
            · have hkb : (kd != 2) = false := by simpa using hk2
              have hq : Hid (¬ (o < 0 ∧ kd ≠ 2)) := fun h => h.2 hk2
              clear hk2
              obtain ⟨yw0, yw1, yw2, yw3, yw4, yw5⟩ := rw_cells Kw.out
              go_wp2_with fail
              clear yw0 yw1 yw2 yw3 yw4 yw5
              have HS : Hid (∀ w', Below v29.heap.size v29 w' → w'.cell? ⟨gt, 0, none⟩ = some (.slice Al pl cl) ∧ w'.cell? ⟨gt, 1, none⟩ = some (.int .i64 kd) ∧ w'.cell? ⟨gt, 2, none⟩ = some (.int .i64 sq) ∧ w'.cell? ⟨gt, 3, none⟩ = some (.slice Aq nq cq) ∧ w'.cell? ⟨gt, 4, none⟩ = some (.int .i64 tq) ∧ w'.cell? ⟨gt, 5, none⟩ = some (.slice Bq mq dq) ∧ w'.cell? ⟨gw, 0, none⟩ = some (.slice A n c) ∧ w'.cell? ⟨gw, 1, none⟩ = some (.int .i64 kd) ∧ w'.cell? ⟨gw, 2, none⟩ = some (.int .i64 sv) ∧ w'.cell? ⟨gw, 3, none⟩ = some (.slice Av nv cv) ∧ w'.cell? ⟨gw, 4, none⟩ = some (.int .i64 tv) ∧ w'.cell? ⟨gw, 5, none⟩ = some (.slice Bv mv dv)) := fun w' hb => ⟨cell_on hb (Kt.out.cell 0), cell_on hb (Kt.out.cell 1), cell_on hb (Kt.out.cell 2), cell_on hb (Kt.out.cell 3), cell_on hb (Kt.out.cell 4), cell_on hb (Kt.out.cell 5), cell_on hb (Kw.out.cell 0), cell_on hb (Kw.out.cell 1), cell_on hb (Kw.out.cell 2), cell_on hb (Kw.out.cell 3), cell_on hb (Kw.out.cell 4), cell_on hb (Kw.out.cell 5)⟩
              have C1 := Lib.hid (fun W (hb : Below v29.heap.size v29 W) => holds_T (k := 16) (x := ⟨up (timesT xf a), kd, some (vv * xf)⟩) (cx := cx) ⟨sq, Aq, nq, cq, tq, Bq, mq, dq⟩ W (ST.out W (only_of_below hb _)) ⟨hcl, by omega⟩ (Fg.past Fq.out hb) hq1 hq2 (xs_more (Xx.out.past (FrEl.keeps _) hb) (by decide)) (HT.out.on hb) (by decide) (by omega) (HQT.out (kd) (.inr ⟨hq.out, rfl⟩)))
              have C2 := Lib.hid (fun W (hb : Below v29.heap.size v29 W) => holds_T (x := ⟨up a, kd, some vv⟩) (cx := cx) ⟨sv, Av, nv, cv, tv, Bv, mv, dv⟩ W (Ta.out.past (TmEl.keeps _) hb) ⟨hc, by omega⟩ (Fg.past Fv.out hb) hv1 hv2 (Xx.out.past (FrEl.keeps _) hb) (HT.out.on hb) (by decide) (by omega) HBW.out)
              dsimp only [rwV] at C1 C2
              first
              | (go_region_held3 (fun w' => w'.cell? ⟨gt, 0, none⟩ = some (.slice Al pl cl) ∧ w'.cell? ⟨gt, 1, none⟩ = some (.int .i64 kd) ∧ w'.cell? ⟨gt, 2, none⟩ = some (.int .i64 sq) ∧ w'.cell? ⟨gt, 3, none⟩ = some (.slice Aq nq cq) ∧ w'.cell? ⟨gt, 4, none⟩ = some (.int .i64 tq) ∧ w'.cell? ⟨gt, 5, none⟩ = some (.slice Bq mq dq) ∧ w'.cell? ⟨gw, 0, none⟩ = some (.slice A n c) ∧ w'.cell? ⟨gw, 1, none⟩ = some (.int .i64 kd) ∧ w'.cell? ⟨gw, 2, none⟩ = some (.int .i64 sv) ∧ w'.cell? ⟨gw, 3, none⟩ = some (.slice Av nv cv) ∧ w'.cell? ⟨gw, 4, none⟩ = some (.int .i64 tv) ∧ w'.cell? ⟨gw, 5, none⟩ = some (.slice Bv mv dv))
                  (first | exact HS.out _ (bdr v29) | with_reducible exact HS.out _ Z2.out | with_reducible exact HS.out _ Z1.out)
                  (first | (go_at_call 96; first | ((with_reducible refine (C2.out _ Z1.out).mono ?_); rintro e z2 ⟨rfl, hb⟩; have Z2 := Lib.hid (Z1.out.trans (hb.mono Z1.out.size)); clear hb) | ((with_reducible refine (C1.out _ (bdr v29)).mono ?_); rintro e z1 ⟨rfl, hb⟩; have Z1 := Lib.hid ((bdr v29).trans hb); clear hb))))
              | fail "no"
              all_goals
                have BE := Lib.hid (BB.out.trans (Z2.out.mono BB.out.size))
                go_wp2_with fail
                go_ret
                exact ⟨by simp, BE.out⟩
            · have hkb : (kd != 2) = true := by simpa using hk2
              have hq : Hid (o < 0 ∧ kd ≠ 2) := ⟨hneg, hk2⟩
              have r0 : (0 : Int) ≤ 3 - kd := by omega
              obtain ⟨yt0, yt1, -, -, -, -⟩ := rw_cells Kt.out
              obtain ⟨-, yt6, -, -, -, -⟩ := rw_frozen Kt.out
              obtain ⟨V5, hV5⟩ : ∃ V, V = v29.setCell ⟨gt, 1, none⟩ (.int .i64 (1 - kd)) := ⟨_, rfl⟩
              obtain ⟨yw0, yw1, yw2, yw3, yw4, yw5⟩ := rw_cells Kw.out
              go_upto_region 15 with (fail)
              rw [← hV5]
              clear yw0 yw1 yw2 yw3 yw4 yw5
              have hb5 : Below v28.heap.size v28 V5 := by rw [hV5]; exact BQ.out.setCell (p := ⟨gt, 1, none⟩) LO _
              replace Kt : Hid (Blk V5 gt 77 #[.slice Al pl cl, .int .i64 (1 - kd), .int .i64 sq, .slice Aq nq cq, .int .i64 tq, .slice Bq mq dq]) := by
                show Blk _ _ _ _
                rw [hV5]
                have := Kt.out.set_ 1 (.int .i64 (1 - kd))
                simpa using this
              replace ST := Lib.hid (fun W' (h : V5.grownBy W' (some gt)) => ST.out W' ((by rw [hV5]; exact only_setCell (p := ⟨gt, 1, none⟩) (grown_refl _ _) (.inl rfl) _ : World.grownBy v29 V5 (some gt)).trans h))
              replace Ta := Lib.hid (Ta0.out.past (TmEl.keeps _) hb5)
              replace Xx := Lib.hid (Xx0.out.past (FrEl.keeps _) hb5)
              replace Fv := Lib.hid (Fg.past Fv0.out hb5)
              replace Fq := Lib.hid (Fg.past Fq0.out hb5)
              replace HT := Lib.hid (HT0.out.on hb5)
              replace Kw := Lib.hid (Kw0.out.below hb5 Kw0.out.lt)
              replace BB := Lib.hid (BB0.out.trans (hb5.mono BB0.out.size))
              clear hV5 hb5 yt0 yt1 yt6
              have HS : Hid (∀ w', Below V5.heap.size V5 w' → w'.cell? ⟨gt, 0, none⟩ = some (.slice Al pl cl) ∧ w'.cell? ⟨gt, 1, none⟩ = some (.int .i64 (1 - kd)) ∧ w'.cell? ⟨gt, 2, none⟩ = some (.int .i64 sq) ∧ w'.cell? ⟨gt, 3, none⟩ = some (.slice Aq nq cq) ∧ w'.cell? ⟨gt, 4, none⟩ = some (.int .i64 tq) ∧ w'.cell? ⟨gt, 5, none⟩ = some (.slice Bq mq dq) ∧ w'.cell? ⟨gw, 0, none⟩ = some (.slice A n c) ∧ w'.cell? ⟨gw, 1, none⟩ = some (.int .i64 kd) ∧ w'.cell? ⟨gw, 2, none⟩ = some (.int .i64 sv) ∧ w'.cell? ⟨gw, 3, none⟩ = some (.slice Av nv cv) ∧ w'.cell? ⟨gw, 4, none⟩ = some (.int .i64 tv) ∧ w'.cell? ⟨gw, 5, none⟩ = some (.slice Bv mv dv)) := fun w' hb => ⟨cell_on hb (Kt.out.cell 0), cell_on hb (Kt.out.cell 1), cell_on hb (Kt.out.cell 2), cell_on hb (Kt.out.cell 3), cell_on hb (Kt.out.cell 4), cell_on hb (Kt.out.cell 5), cell_on hb (Kw.out.cell 0), cell_on hb (Kw.out.cell 1), cell_on hb (Kw.out.cell 2), cell_on hb (Kw.out.cell 3), cell_on hb (Kw.out.cell 4), cell_on hb (Kw.out.cell 5)⟩
              have C1 := Lib.hid (fun W (hb : Below V5.heap.size V5 W) => holds_T (k := 16) (x := ⟨up (timesT xf a), (1 - kd), some (vv * xf)⟩) (cx := cx) ⟨sq, Aq, nq, cq, tq, Bq, mq, dq⟩ W (ST.out W (only_of_below hb _)) ⟨hcl, by omega⟩ (Fg.past Fq.out hb) hq1 hq2 (xs_more (Xx.out.past (FrEl.keeps _) hb) (by decide)) (HT.out.on hb) (by decide) (by omega) (HQT.out ((1 - kd)) (.inl ⟨hq.out.1, hq.out.2, rfl⟩)))
              have C2 := Lib.hid (fun W (hb : Below V5.heap.size V5 W) => holds_T (x := ⟨up a, kd, some vv⟩) (cx := cx) ⟨sv, Av, nv, cv, tv, Bv, mv, dv⟩ W (Ta.out.past (TmEl.keeps _) hb) ⟨hc, by omega⟩ (Fg.past Fv.out hb) hv1 hv2 (Xx.out.past (FrEl.keeps _) hb) (HT.out.on hb) (by decide) (by omega) HBW.out)
              dsimp only [rwV] at C1 C2
              first
              | (go_region_held3 (fun w' => w'.cell? ⟨gt, 0, none⟩ = some (.slice Al pl cl) ∧ w'.cell? ⟨gt, 1, none⟩ = some (.int .i64 (1 - kd)) ∧ w'.cell? ⟨gt, 2, none⟩ = some (.int .i64 sq) ∧ w'.cell? ⟨gt, 3, none⟩ = some (.slice Aq nq cq) ∧ w'.cell? ⟨gt, 4, none⟩ = some (.int .i64 tq) ∧ w'.cell? ⟨gt, 5, none⟩ = some (.slice Bq mq dq) ∧ w'.cell? ⟨gw, 0, none⟩ = some (.slice A n c) ∧ w'.cell? ⟨gw, 1, none⟩ = some (.int .i64 kd) ∧ w'.cell? ⟨gw, 2, none⟩ = some (.int .i64 sv) ∧ w'.cell? ⟨gw, 3, none⟩ = some (.slice Av nv cv) ∧ w'.cell? ⟨gw, 4, none⟩ = some (.int .i64 tv) ∧ w'.cell? ⟨gw, 5, none⟩ = some (.slice Bv mv dv))
                  (first | exact HS.out _ (bdr V5) | with_reducible exact HS.out _ Z2.out | with_reducible exact HS.out _ Z1.out)
                  (first | (go_at_call 96; first | ((with_reducible refine (C2.out _ Z1.out).mono ?_); rintro e z2 ⟨rfl, hb⟩; have Z2 := Lib.hid (Z1.out.trans (hb.mono Z1.out.size)); clear hb) | ((with_reducible refine (C1.out _ (bdr V5)).mono ?_); rintro e z1 ⟨rfl, hb⟩; have Z1 := Lib.hid ((bdr V5).trans hb); clear hb))))
              | fail "no"
              all_goals
                have BE := Lib.hid (BB.out.trans (Z2.out.mono BB.out.size))
                go_wp2_with fail
                go_ret
                exact ⟨by simp, BE.out⟩
          · have hq : Hid (¬ (o < 0 ∧ kd ≠ 2)) := fun h => hneg h.1
            go_wp2_with fail
            have HS : Hid (∀ w', Below v29.heap.size v29 w' → w'.cell? ⟨gt, 0, none⟩ = some (.slice Al pl cl) ∧ w'.cell? ⟨gt, 1, none⟩ = some (.int .i64 kd) ∧ w'.cell? ⟨gt, 2, none⟩ = some (.int .i64 sq) ∧ w'.cell? ⟨gt, 3, none⟩ = some (.slice Aq nq cq) ∧ w'.cell? ⟨gt, 4, none⟩ = some (.int .i64 tq) ∧ w'.cell? ⟨gt, 5, none⟩ = some (.slice Bq mq dq) ∧ w'.cell? ⟨gw, 0, none⟩ = some (.slice A n c) ∧ w'.cell? ⟨gw, 1, none⟩ = some (.int .i64 kd) ∧ w'.cell? ⟨gw, 2, none⟩ = some (.int .i64 sv) ∧ w'.cell? ⟨gw, 3, none⟩ = some (.slice Av nv cv) ∧ w'.cell? ⟨gw, 4, none⟩ = some (.int .i64 tv) ∧ w'.cell? ⟨gw, 5, none⟩ = some (.slice Bv mv dv)) := fun w' hb => ⟨cell_on hb (Kt.out.cell 0), cell_on hb (Kt.out.cell 1), cell_on hb (Kt.out.cell 2), cell_on hb (Kt.out.cell 3), cell_on hb (Kt.out.cell 4), cell_on hb (Kt.out.cell 5), cell_on hb (Kw.out.cell 0), cell_on hb (Kw.out.cell 1), cell_on hb (Kw.out.cell 2), cell_on hb (Kw.out.cell 3), cell_on hb (Kw.out.cell 4), cell_on hb (Kw.out.cell 5)⟩
            have C1 := Lib.hid (fun W (hb : Below v29.heap.size v29 W) => holds_T (k := 16) (x := ⟨up (timesT xf a), kd, some (vv * xf)⟩) (cx := cx) ⟨sq, Aq, nq, cq, tq, Bq, mq, dq⟩ W (ST.out W (only_of_below hb _)) ⟨hcl, by omega⟩ (Fg.past Fq.out hb) hq1 hq2 (xs_more (Xx.out.past (FrEl.keeps _) hb) (by decide)) (HT.out.on hb) (by decide) (by omega) (HQT.out (kd) (.inr ⟨hq.out, rfl⟩)))
            have C2 := Lib.hid (fun W (hb : Below v29.heap.size v29 W) => holds_T (x := ⟨up a, kd, some vv⟩) (cx := cx) ⟨sv, Av, nv, cv, tv, Bv, mv, dv⟩ W (Ta.out.past (TmEl.keeps _) hb) ⟨hc, by omega⟩ (Fg.past Fv.out hb) hv1 hv2 (Xx.out.past (FrEl.keeps _) hb) (HT.out.on hb) (by decide) (by omega) HBW.out)
            dsimp only [rwV] at C1 C2
            first
            | (go_region_held3 (fun w' => w'.cell? ⟨gt, 0, none⟩ = some (.slice Al pl cl) ∧ w'.cell? ⟨gt, 1, none⟩ = some (.int .i64 kd) ∧ w'.cell? ⟨gt, 2, none⟩ = some (.int .i64 sq) ∧ w'.cell? ⟨gt, 3, none⟩ = some (.slice Aq nq cq) ∧ w'.cell? ⟨gt, 4, none⟩ = some (.int .i64 tq) ∧ w'.cell? ⟨gt, 5, none⟩ = some (.slice Bq mq dq) ∧ w'.cell? ⟨gw, 0, none⟩ = some (.slice A n c) ∧ w'.cell? ⟨gw, 1, none⟩ = some (.int .i64 kd) ∧ w'.cell? ⟨gw, 2, none⟩ = some (.int .i64 sv) ∧ w'.cell? ⟨gw, 3, none⟩ = some (.slice Av nv cv) ∧ w'.cell? ⟨gw, 4, none⟩ = some (.int .i64 tv) ∧ w'.cell? ⟨gw, 5, none⟩ = some (.slice Bv mv dv))
                (first | exact HS.out _ (bdr v29) | with_reducible exact HS.out _ Z2.out | with_reducible exact HS.out _ Z1.out)
                (first | (go_at_call 96; first | ((with_reducible refine (C2.out _ Z1.out).mono ?_); rintro e z2 ⟨rfl, hb⟩; have Z2 := Lib.hid (Z1.out.trans (hb.mono Z1.out.size)); clear hb) | ((with_reducible refine (C1.out _ (bdr v29)).mono ?_); rintro e z1 ⟨rfl, hb⟩; have Z1 := Lib.hid ((bdr v29).trans hb); clear hb))))
            | fail "no"
            all_goals
              have BE := Lib.hid (BB.out.trans (Z2.out.mono BB.out.size))
              go_wp2_with fail
              go_ret
              exact ⟨by simp, BE.out⟩
  case true.true =>
    rw [← tu90_is, ← tu91_is, ← tu93_is]
    first
    | (go_region_held3 (fun w' => w'.cell? ⟨gl, 0, none⟩ = some (.slice A n c) ∧ w'.cell? ⟨gl, 1, none⟩ = some (.int .i64 0) ∧ w'.cell? ⟨gl, 2, none⟩ = some (.int .i64 sv) ∧ w'.cell? ⟨gl, 3, none⟩ = some (.slice Av nv cv) ∧ w'.cell? ⟨gl, 4, none⟩ = some (.int .i64 tv) ∧ w'.cell? ⟨gl, 5, none⟩ = some (.slice Bv mv dv) ∧ w'.cell? ⟨gh, 0, none⟩ = some (.slice A n c) ∧ w'.cell? ⟨gh, 1, none⟩ = some (.int .i64 1) ∧ w'.cell? ⟨gh, 2, none⟩ = some (.int .i64 sv) ∧ w'.cell? ⟨gh, 3, none⟩ = some (.slice Av nv cv) ∧ w'.cell? ⟨gh, 4, none⟩ = some (.int .i64 tv) ∧ w'.cell? ⟨gh, 5, none⟩ = some (.slice Bv mv dv) ∧ w'.cell? ⟨ge, 0, none⟩ = some (.slice A n c) ∧ w'.cell? ⟨ge, 1, none⟩ = some (.int .i64 2) ∧ w'.cell? ⟨ge, 2, none⟩ = some (.int .i64 sv) ∧ w'.cell? ⟨ge, 3, none⟩ = some (.slice Av nv cv) ∧ w'.cell? ⟨ge, 4, none⟩ = some (.int .i64 tv) ∧ w'.cell? ⟨ge, 5, none⟩ = some (.slice Bv mv dv))
        (first | exact HS.out _ (bdr v16) | with_reducible exact HS.out _ X4.out | with_reducible exact HS.out _ X3.out | with_reducible exact HS.out _ X2.out | with_reducible exact HS.out _ X1.out)
        (first | (go_at_call 96; first | ((with_reducible refine (CL.out _ (X3.out)).mono ?_); rintro e y4 ⟨rfl, hb⟩; have X4 := Lib.hid ((X3.out).trans (hb.mono (X3.out).size)); clear hb) | ((with_reducible refine (CU.out _ (X2.out)).mono ?_); rintro e y3 ⟨rfl, hb⟩; have X3 := Lib.hid ((X2.out).trans (hb.mono (X2.out).size)); clear hb) | ((with_reducible refine (CL.out _ (X1.out)).mono ?_); rintro e y2 ⟨rfl, hb⟩; have X2 := Lib.hid ((X1.out).trans (hb.mono (X1.out).size)); clear hb) | ((with_reducible refine (CE.out _ (bdr v16)).mono ?_); rintro e y1 ⟨rfl, hb⟩; have X1 := Lib.hid ((bdr v16).trans (hb.mono (bdr v16).size)); clear hb))))
    | fail "no"
    all_goals
        clear CL CU CE HS X1 X2 X3 hLU
        have hb := X4.out
        clear X4
        clear Kl Kh Ke
        replace HT := Lib.hid (HT.out.on hb)
        replace BB := Lib.hid (BB.out.trans (hb.mono BB.out.size))
        replace Kw := Lib.hid (Kw.out.below hb Kw.out.lt)
        replace Kf := Lib.hid (Kf.out.below hb Kf.out.lt)
        replace Ta := Lib.hid (Ta.out.past (TmEl.keeps _) hb)
        replace Xx := Lib.hid (Xx.out.past (FrEl.keeps _) hb)
        replace Fv := Lib.hid (Fg.past Fv.out hb)
        replace Ff := Lib.hid (Fg.past Ff.out hb)
        clear hb
        obtain ⟨yw0, yw1, yw2, yw3, yw4, yw5⟩ := rw_cells Kw.out
        obtain ⟨yf0, yf1, yf2, yf3, -, -, -, -⟩ := fr_cells Kf.out
        go_wp2_with fail
        refine (mul_R ⟨sv, Av, nv, cv, tv, Bv, mv, dv⟩ ⟨sf, Af, nf, cf, tf, Bf, mf, df⟩ Fv.out Ff.out HT.out (by decide)).mono ?_
        rintro e v27 ⟨⟨sq, Aq, nq, cq, tq, Bq, mq, dq⟩, rfl, hq1, hq2, hf, -, -, hb⟩
        have Fq := Lib.hid hf
        clear hf
        dsimp only [frV]
        replace HT := Lib.hid (HT.out.on hb)
        replace BB := Lib.hid (BB.out.trans (hb.mono BB.out.size))
        replace Kw := Lib.hid (Kw.out.below hb Kw.out.lt)
        replace Kf := Lib.hid (Kf.out.below hb Kf.out.lt)
        replace Ta := Lib.hid (Ta.out.past (TmEl.keeps _) hb)
        replace Xx := Lib.hid (Xx.out.past (FrEl.keeps _) hb)
        replace Fv := Lib.hid (Fg.past Fv.out hb)
        replace Ff := Lib.hid (Fg.past Ff.out hb)
        clear hb
        clear yw0 yw1 yw2 yw3 yw4 yw5 yf0 yf1 yf2 yf3
        go_upto_region 12 with (fail)
        obtain ⟨v28, hv28⟩ : ∃ v, v = v27.alloc (.cells #[.int .i64 sq, .slice Aq nq cq, .int .i64 tq, .slice Bq mq dq] 43) := ⟨_, rfl⟩
        rw [← hv28]
        have Kq : Hid (Blk v28 v27.heap.size 43 #[.int .i64 sq, .slice Aq nq cq, .int .i64 tq, .slice Bq mq dq]) := by show Blk _ _ _ _; rw [hv28]; exact Blk.new _ _ _
        have hb28 : Below v27.heap.size v27 v28 := by rw [hv28]; exact bal (Below.refl _ _)
        replace HT := Lib.hid (HT.out.on hb28)
        replace BB := Lib.hid (BB.out.trans (hb28.mono BB.out.size))
        replace Kw := Lib.hid (Kw.out.below hb28 Kw.out.lt)
        replace Kf := Lib.hid (Kf.out.below hb28 Kf.out.lt)
        replace Ta := Lib.hid (Ta.out.past (TmEl.keeps _) hb28)
        replace Xx := Lib.hid (Xx.out.past (FrEl.keeps _) hb28)
        replace Fv := Lib.hid (Fg.past Fv.out hb28)
        replace Ff := Lib.hid (Fg.past Ff.out hb28)
        replace Fq := Lib.hid (Fg.past Fq.out hb28)
        obtain ⟨gq, hg28⟩ : ∃ g, g = v27.heap.size := ⟨_, rfl⟩
        rw [← hg28] at Kq ⊢
        clear hv28 hb28 hg28
        have HS : Hid (∀ w', Below v28.heap.size v28 w' → w'.cell? ⟨gw, 0, none⟩ = some (.slice A n c) ∧ w'.cell? ⟨gw, 1, none⟩ = some (.int .i64 kd) ∧ w'.cell? ⟨gf, 0, none⟩ = some (.int .i64 sf) ∧ w'.cell? ⟨gf, 1, none⟩ = some (.slice Af nf cf) ∧ w'.cell? ⟨gf, 2, none⟩ = some (.int .i64 tf) ∧ w'.cell? ⟨gf, 3, none⟩ = some (.slice Bf mf df) ∧ w'.cell? ⟨gq, 0, none⟩ = some (.int .i64 sq) ∧ w'.cell? ⟨gq, 1, none⟩ = some (.slice Aq nq cq) ∧ w'.cell? ⟨gq, 2, none⟩ = some (.int .i64 tq) ∧ w'.cell? ⟨gq, 3, none⟩ = some (.slice Bq mq dq)) := fun w' hb => ⟨cell_on hb (Kw.out.cell 0), cell_on hb (Kw.out.cell 1), cell_on hb (Kf.out.cell 0), cell_on hb (Kf.out.cell 1), cell_on hb (Kf.out.cell 2), cell_on hb (Kf.out.cell 3), cell_on hb (Kq.out.cell 0), cell_on hb (Kq.out.cell 1), cell_on hb (Kq.out.cell 2), cell_on hb (Kq.out.cell 3)⟩
        have CT := Lib.hid (fun W (hb : Below v28.heap.size v28 W) gb (hgb : gb < W.heap.size) => Times_any (w := W) gb hgb c ⟨sf, Af, nf, cf, tf, Bf, mf, df⟩ (Ta.out.past (TmEl.keeps _) hb) (Fg.past Ff.out hb) HF0.out (HT.out.on hb) ra15 (by decide) (by omega))
        dsimp only [frV] at CT
        have CLt := Lib.hid (times_late (W0 := v28) kd ⟨sq, Aq, nq, cq, tq, Bq, mq, dq⟩ (CT.out v28.drew (bdr v28) 0 (Nat.lt_of_le_of_lt (Nat.zero_le _) Kw.out.lt)))
        have CEr := Lib.hid (times_early (W0 := v28) kd ⟨sq, Aq, nq, cq, tq, Bq, mq, dq⟩ (CT.out (v28.alloc (.cells rz 77)).drew ((bal (Below.refl _ _)).drew) v28.heap.size (Blk.new v28 77 rz).lt))
        dsimp only [rz] at CLt CEr
        first
        | (go_region_held3 (fun w' => w'.cell? ⟨gw, 0, none⟩ = some (.slice A n c) ∧ w'.cell? ⟨gw, 1, none⟩ = some (.int .i64 kd) ∧ w'.cell? ⟨gf, 0, none⟩ = some (.int .i64 sf) ∧ w'.cell? ⟨gf, 1, none⟩ = some (.slice Af nf cf) ∧ w'.cell? ⟨gf, 2, none⟩ = some (.int .i64 tf) ∧ w'.cell? ⟨gf, 3, none⟩ = some (.slice Bf mf df) ∧ w'.cell? ⟨gq, 0, none⟩ = some (.int .i64 sq) ∧ w'.cell? ⟨gq, 1, none⟩ = some (.slice Aq nq cq) ∧ w'.cell? ⟨gq, 2, none⟩ = some (.int .i64 tq) ∧ w'.cell? ⟨gq, 3, none⟩ = some (.slice Bq mq dq))
            (first | with_reducible exact HS.out _ (below_6 HBX.out (Nat.le_refl _)) | with_reducible exact HS.out _ (bal HBX.out) | with_reducible exact HS.out _ HBX.out | with_reducible exact HS.out _ (bal (Below.refl _ _)).drew | with_reducible exact HS.out _ (bal (Below.refl _ _)) | exact HS.out _ (bdr v28))
            (first | (go_at_call 93; first | ((with_reducible refine CLt.out.mono ?_); rintro e w3 ⟨Al, pl, cl, rfl, hcl, hb, bt⟩; have HBX := Lib.hid hb; have BT := Lib.hid bt; clear hb bt) | ((with_reducible refine CEr.out.mono ?_); rintro e w3 ⟨Al, pl, cl, rfl, hcl, hb, hk, bt⟩; obtain ⟨e0, e1, e2, e3, e4, e5⟩ := rw_cells hk; obtain ⟨e6, e7, e8, e9, e10, e11⟩ := rw_frozen hk; have HBX := Lib.hid hb; have BT := Lib.hid bt; clear hb hk bt))))
        | fail "no"
        all_goals
          try dsimp only [rwC] at BT
          first
          | (obtain ⟨W4, hW4⟩ : ∃ W4, W4 = w3.alloc (.cells #[.slice Al pl cl, .int .i64 kd, .int .i64 sq, .slice Aq nq cq, .int .i64 tq, .slice Bq mq dq] 77) := ⟨_, rfl⟩
             rw [← hW4] at BT ⊢
             obtain ⟨gt, hgt⟩ : ∃ g, g = w3.heap.size := ⟨_, rfl⟩
             rw [← hgt] at BT ⊢)
          | (obtain ⟨W4, hW4⟩ : ∃ W4, W4 = ((((((w3.setCell ⟨v28.heap.size, 0, none⟩ (.slice Al pl cl)).setCell ⟨v28.heap.size, 1, none⟩ (.int .i64 kd)).setCell ⟨v28.heap.size, 2, none⟩ (.int .i64 sq)).setCell ⟨v28.heap.size, 3, none⟩ (.slice Aq nq cq)).setCell ⟨v28.heap.size, 4, none⟩ (.int .i64 tq)).setCell ⟨v28.heap.size, 5, none⟩ (.slice Bq mq dq)) := ⟨_, rfl⟩
             rw [← hW4] at BT ⊢
             obtain ⟨gt, hgt⟩ : ∃ g, g = v28.heap.size := ⟨_, rfl⟩
             rw [← hgt] at BT ⊢)
          clear hW4 hgt
          have Kt := Lib.hid BT.out.bk
          have ST := Lib.hid BT.out.st
          have hb := BT.out.bl
          have BQ := Lib.hid BT.out.bl
          have LO := BT.out.lo
          have Ta0 := Ta
          have Xx0 := Xx
          have Fv0 := Fv
          have Fq0 := Fq
          have HT0 := HT
          have Kw0 := Kw
          have BB0 := BB
          dsimp only [rwC] at Kt
          clear HBX HS CT CLt CEr BT
          replace HT := Lib.hid (HT.out.on hb)
          replace BB := Lib.hid (BB.out.trans (hb.mono BB.out.size))
          replace Kw := Lib.hid (Kw.out.below hb Kw.out.lt)
          replace Kf := Lib.hid (Kf.out.below hb Kf.out.lt)
          replace Ta := Lib.hid (Ta.out.past (TmEl.keeps _) hb)
          replace Xx := Lib.hid (Xx.out.past (FrEl.keeps _) hb)
          replace Fv := Lib.hid (Fg.past Fv.out hb)
          replace Ff := Lib.hid (Fg.past Ff.out hb)
          replace Fq := Lib.hid (Fg.past Fq.out hb)
          replace Kq := Lib.hid (Kq.out.below hb Kq.out.lt)
          clear hb
          have hpl : pl ≤ 8 := by
            have h1 := (ST.out W4 (grown_refl W4 _)).len
            have h2 := Ta.out.len
            rw [up_len] at h1 h2
            have h3 := length_times xf a
            omega
          obtain ⟨yf0, yf1, yf2, yf3, -, -, -, -⟩ := fr_cells Kf.out
          go_wp2_with fail
          refine (sign_R ⟨sf, Af, nf, cf, tf, Bf, mf, df⟩ Ff.out HT.out (by decide) HO.out).mono ?_
          rintro e v29 ⟨rfl, hb⟩
          replace ST := Lib.hid (fun W' h => ST.out W' ((only_of_below hb _).trans h))
          replace HT := Lib.hid (HT.out.on hb)
          replace BB := Lib.hid (BB.out.trans (hb.mono BB.out.size))
          replace Kw := Lib.hid (Kw.out.below hb Kw.out.lt)
          replace Kf := Lib.hid (Kf.out.below hb Kf.out.lt)
          replace Ta := Lib.hid (Ta.out.past (TmEl.keeps _) hb)
          replace Xx := Lib.hid (Xx.out.past (FrEl.keeps _) hb)
          replace Fv := Lib.hid (Fg.past Fv.out hb)
          replace Ff := Lib.hid (Fg.past Ff.out hb)
          replace Fq := Lib.hid (Fg.past Fq.out hb)
          replace Kq := Lib.hid (Kq.out.below hb Kq.out.lt)
          replace Kt := Lib.hid (Kt.out.below hb Kt.out.lt)
          replace BQ := Lib.hid (BQ.out.trans (hb.mono BQ.out.size))
          clear hb
          clear yf0 yf1 yf2 yf3
          obtain ⟨bw, hbw⟩ : ∃ b, sysH (m : Int) [⟨up a, kd, some vv⟩] xs = b := ⟨_, rfl⟩
          have HTQ : ∀ k', (o < 0 ∧ kd ≠ 2 ∧ k' = 1 - kd) ∨ (¬ (o < 0 ∧ kd ≠ 2) ∧ k' = kd) → sysH (m : Int) [⟨up (timesT xf a), k', some (vv * xf)⟩] xs = bw := fun k' hk' => by
            rw [← hbw]
            exact turned_eq hEq.out hRr.out HF0.out hk0 hk3 (by rw [HO.out]; exact hk')
          have HQT := Lib.hid HTQ
          have HBW := Lib.hid hbw
          clear HTQ hbw
          by_cases hneg : o < 0
          · by_cases hk2 : kd = 2
            · have hkb : (kd != 2) = false := by simpa using hk2
              have hq : Hid (¬ (o < 0 ∧ kd ≠ 2)) := fun h => h.2 hk2
              clear hk2
              obtain ⟨yw0, yw1, yw2, yw3, yw4, yw5⟩ := rw_cells Kw.out
              go_wp2_with fail
              clear yw0 yw1 yw2 yw3 yw4 yw5
              have HS : Hid (∀ w', Below v29.heap.size v29 w' → w'.cell? ⟨gt, 0, none⟩ = some (.slice Al pl cl) ∧ w'.cell? ⟨gt, 1, none⟩ = some (.int .i64 kd) ∧ w'.cell? ⟨gt, 2, none⟩ = some (.int .i64 sq) ∧ w'.cell? ⟨gt, 3, none⟩ = some (.slice Aq nq cq) ∧ w'.cell? ⟨gt, 4, none⟩ = some (.int .i64 tq) ∧ w'.cell? ⟨gt, 5, none⟩ = some (.slice Bq mq dq) ∧ w'.cell? ⟨gw, 0, none⟩ = some (.slice A n c) ∧ w'.cell? ⟨gw, 1, none⟩ = some (.int .i64 kd) ∧ w'.cell? ⟨gw, 2, none⟩ = some (.int .i64 sv) ∧ w'.cell? ⟨gw, 3, none⟩ = some (.slice Av nv cv) ∧ w'.cell? ⟨gw, 4, none⟩ = some (.int .i64 tv) ∧ w'.cell? ⟨gw, 5, none⟩ = some (.slice Bv mv dv)) := fun w' hb => ⟨cell_on hb (Kt.out.cell 0), cell_on hb (Kt.out.cell 1), cell_on hb (Kt.out.cell 2), cell_on hb (Kt.out.cell 3), cell_on hb (Kt.out.cell 4), cell_on hb (Kt.out.cell 5), cell_on hb (Kw.out.cell 0), cell_on hb (Kw.out.cell 1), cell_on hb (Kw.out.cell 2), cell_on hb (Kw.out.cell 3), cell_on hb (Kw.out.cell 4), cell_on hb (Kw.out.cell 5)⟩
              have C1 := Lib.hid (fun W (hb : Below v29.heap.size v29 W) => holds_T (k := 16) (x := ⟨up (timesT xf a), kd, some (vv * xf)⟩) (cx := cx) ⟨sq, Aq, nq, cq, tq, Bq, mq, dq⟩ W (ST.out W (only_of_below hb _)) ⟨hcl, by omega⟩ (Fg.past Fq.out hb) hq1 hq2 (xs_more (Xx.out.past (FrEl.keeps _) hb) (by decide)) (HT.out.on hb) (by decide) (by omega) (HQT.out (kd) (.inr ⟨hq.out, rfl⟩)))
              have C2 := Lib.hid (fun W (hb : Below v29.heap.size v29 W) => holds_T (x := ⟨up a, kd, some vv⟩) (cx := cx) ⟨sv, Av, nv, cv, tv, Bv, mv, dv⟩ W (Ta.out.past (TmEl.keeps _) hb) ⟨hc, by omega⟩ (Fg.past Fv.out hb) hv1 hv2 (Xx.out.past (FrEl.keeps _) hb) (HT.out.on hb) (by decide) (by omega) HBW.out)
              dsimp only [rwV] at C1 C2
              first
              | (go_region_held3 (fun w' => w'.cell? ⟨gt, 0, none⟩ = some (.slice Al pl cl) ∧ w'.cell? ⟨gt, 1, none⟩ = some (.int .i64 kd) ∧ w'.cell? ⟨gt, 2, none⟩ = some (.int .i64 sq) ∧ w'.cell? ⟨gt, 3, none⟩ = some (.slice Aq nq cq) ∧ w'.cell? ⟨gt, 4, none⟩ = some (.int .i64 tq) ∧ w'.cell? ⟨gt, 5, none⟩ = some (.slice Bq mq dq) ∧ w'.cell? ⟨gw, 0, none⟩ = some (.slice A n c) ∧ w'.cell? ⟨gw, 1, none⟩ = some (.int .i64 kd) ∧ w'.cell? ⟨gw, 2, none⟩ = some (.int .i64 sv) ∧ w'.cell? ⟨gw, 3, none⟩ = some (.slice Av nv cv) ∧ w'.cell? ⟨gw, 4, none⟩ = some (.int .i64 tv) ∧ w'.cell? ⟨gw, 5, none⟩ = some (.slice Bv mv dv))
                  (first | exact HS.out _ (bdr v29) | with_reducible exact HS.out _ Z2.out | with_reducible exact HS.out _ Z1.out)
                  (first | (go_at_call 96; first | ((with_reducible refine (C2.out _ Z1.out).mono ?_); rintro e z2 ⟨rfl, hb⟩; have Z2 := Lib.hid (Z1.out.trans (hb.mono Z1.out.size)); clear hb) | ((with_reducible refine (C1.out _ (bdr v29)).mono ?_); rintro e z1 ⟨rfl, hb⟩; have Z1 := Lib.hid ((bdr v29).trans hb); clear hb))))
              | fail "no"
              all_goals
                have BE := Lib.hid (BB.out.trans (Z2.out.mono BB.out.size))
                go_wp2_with fail
                go_ret
                exact ⟨by simp, BE.out⟩
            · have hkb : (kd != 2) = true := by simpa using hk2
              have hq : Hid (o < 0 ∧ kd ≠ 2) := ⟨hneg, hk2⟩
              have r0 : (0 : Int) ≤ 3 - kd := by omega
              obtain ⟨yt0, yt1, -, -, -, -⟩ := rw_cells Kt.out
              obtain ⟨-, yt6, -, -, -, -⟩ := rw_frozen Kt.out
              obtain ⟨V5, hV5⟩ : ∃ V, V = v29.setCell ⟨gt, 1, none⟩ (.int .i64 (1 - kd)) := ⟨_, rfl⟩
              obtain ⟨yw0, yw1, yw2, yw3, yw4, yw5⟩ := rw_cells Kw.out
              go_upto_region 15 with (fail)
              rw [← hV5]
              clear yw0 yw1 yw2 yw3 yw4 yw5
              have hb5 : Below v28.heap.size v28 V5 := by rw [hV5]; exact BQ.out.setCell (p := ⟨gt, 1, none⟩) LO _
              replace Kt : Hid (Blk V5 gt 77 #[.slice Al pl cl, .int .i64 (1 - kd), .int .i64 sq, .slice Aq nq cq, .int .i64 tq, .slice Bq mq dq]) := by
                show Blk _ _ _ _
                rw [hV5]
                have := Kt.out.set_ 1 (.int .i64 (1 - kd))
                simpa using this
              replace ST := Lib.hid (fun W' (h : V5.grownBy W' (some gt)) => ST.out W' ((by rw [hV5]; exact only_setCell (p := ⟨gt, 1, none⟩) (grown_refl _ _) (.inl rfl) _ : World.grownBy v29 V5 (some gt)).trans h))
              replace Ta := Lib.hid (Ta0.out.past (TmEl.keeps _) hb5)
              replace Xx := Lib.hid (Xx0.out.past (FrEl.keeps _) hb5)
              replace Fv := Lib.hid (Fg.past Fv0.out hb5)
              replace Fq := Lib.hid (Fg.past Fq0.out hb5)
              replace HT := Lib.hid (HT0.out.on hb5)
              replace Kw := Lib.hid (Kw0.out.below hb5 Kw0.out.lt)
              replace BB := Lib.hid (BB0.out.trans (hb5.mono BB0.out.size))
              clear hV5 hb5 yt0 yt1 yt6
              have HS : Hid (∀ w', Below V5.heap.size V5 w' → w'.cell? ⟨gt, 0, none⟩ = some (.slice Al pl cl) ∧ w'.cell? ⟨gt, 1, none⟩ = some (.int .i64 (1 - kd)) ∧ w'.cell? ⟨gt, 2, none⟩ = some (.int .i64 sq) ∧ w'.cell? ⟨gt, 3, none⟩ = some (.slice Aq nq cq) ∧ w'.cell? ⟨gt, 4, none⟩ = some (.int .i64 tq) ∧ w'.cell? ⟨gt, 5, none⟩ = some (.slice Bq mq dq) ∧ w'.cell? ⟨gw, 0, none⟩ = some (.slice A n c) ∧ w'.cell? ⟨gw, 1, none⟩ = some (.int .i64 kd) ∧ w'.cell? ⟨gw, 2, none⟩ = some (.int .i64 sv) ∧ w'.cell? ⟨gw, 3, none⟩ = some (.slice Av nv cv) ∧ w'.cell? ⟨gw, 4, none⟩ = some (.int .i64 tv) ∧ w'.cell? ⟨gw, 5, none⟩ = some (.slice Bv mv dv)) := fun w' hb => ⟨cell_on hb (Kt.out.cell 0), cell_on hb (Kt.out.cell 1), cell_on hb (Kt.out.cell 2), cell_on hb (Kt.out.cell 3), cell_on hb (Kt.out.cell 4), cell_on hb (Kt.out.cell 5), cell_on hb (Kw.out.cell 0), cell_on hb (Kw.out.cell 1), cell_on hb (Kw.out.cell 2), cell_on hb (Kw.out.cell 3), cell_on hb (Kw.out.cell 4), cell_on hb (Kw.out.cell 5)⟩
              have C1 := Lib.hid (fun W (hb : Below V5.heap.size V5 W) => holds_T (k := 16) (x := ⟨up (timesT xf a), (1 - kd), some (vv * xf)⟩) (cx := cx) ⟨sq, Aq, nq, cq, tq, Bq, mq, dq⟩ W (ST.out W (only_of_below hb _)) ⟨hcl, by omega⟩ (Fg.past Fq.out hb) hq1 hq2 (xs_more (Xx.out.past (FrEl.keeps _) hb) (by decide)) (HT.out.on hb) (by decide) (by omega) (HQT.out ((1 - kd)) (.inl ⟨hq.out.1, hq.out.2, rfl⟩)))
              have C2 := Lib.hid (fun W (hb : Below V5.heap.size V5 W) => holds_T (x := ⟨up a, kd, some vv⟩) (cx := cx) ⟨sv, Av, nv, cv, tv, Bv, mv, dv⟩ W (Ta.out.past (TmEl.keeps _) hb) ⟨hc, by omega⟩ (Fg.past Fv.out hb) hv1 hv2 (Xx.out.past (FrEl.keeps _) hb) (HT.out.on hb) (by decide) (by omega) HBW.out)
              dsimp only [rwV] at C1 C2
              first
              | (go_region_held3 (fun w' => w'.cell? ⟨gt, 0, none⟩ = some (.slice Al pl cl) ∧ w'.cell? ⟨gt, 1, none⟩ = some (.int .i64 (1 - kd)) ∧ w'.cell? ⟨gt, 2, none⟩ = some (.int .i64 sq) ∧ w'.cell? ⟨gt, 3, none⟩ = some (.slice Aq nq cq) ∧ w'.cell? ⟨gt, 4, none⟩ = some (.int .i64 tq) ∧ w'.cell? ⟨gt, 5, none⟩ = some (.slice Bq mq dq) ∧ w'.cell? ⟨gw, 0, none⟩ = some (.slice A n c) ∧ w'.cell? ⟨gw, 1, none⟩ = some (.int .i64 kd) ∧ w'.cell? ⟨gw, 2, none⟩ = some (.int .i64 sv) ∧ w'.cell? ⟨gw, 3, none⟩ = some (.slice Av nv cv) ∧ w'.cell? ⟨gw, 4, none⟩ = some (.int .i64 tv) ∧ w'.cell? ⟨gw, 5, none⟩ = some (.slice Bv mv dv))
                  (first | exact HS.out _ (bdr V5) | with_reducible exact HS.out _ Z2.out | with_reducible exact HS.out _ Z1.out)
                  (first | (go_at_call 96; first | ((with_reducible refine (C2.out _ Z1.out).mono ?_); rintro e z2 ⟨rfl, hb⟩; have Z2 := Lib.hid (Z1.out.trans (hb.mono Z1.out.size)); clear hb) | ((with_reducible refine (C1.out _ (bdr V5)).mono ?_); rintro e z1 ⟨rfl, hb⟩; have Z1 := Lib.hid ((bdr V5).trans hb); clear hb))))
              | fail "no"
              all_goals
                have BE := Lib.hid (BB.out.trans (Z2.out.mono BB.out.size))
                go_wp2_with fail
                go_ret
                exact ⟨by simp, BE.out⟩
          · have hq : Hid (¬ (o < 0 ∧ kd ≠ 2)) := fun h => hneg h.1
            go_wp2_with fail
            have HS : Hid (∀ w', Below v29.heap.size v29 w' → w'.cell? ⟨gt, 0, none⟩ = some (.slice Al pl cl) ∧ w'.cell? ⟨gt, 1, none⟩ = some (.int .i64 kd) ∧ w'.cell? ⟨gt, 2, none⟩ = some (.int .i64 sq) ∧ w'.cell? ⟨gt, 3, none⟩ = some (.slice Aq nq cq) ∧ w'.cell? ⟨gt, 4, none⟩ = some (.int .i64 tq) ∧ w'.cell? ⟨gt, 5, none⟩ = some (.slice Bq mq dq) ∧ w'.cell? ⟨gw, 0, none⟩ = some (.slice A n c) ∧ w'.cell? ⟨gw, 1, none⟩ = some (.int .i64 kd) ∧ w'.cell? ⟨gw, 2, none⟩ = some (.int .i64 sv) ∧ w'.cell? ⟨gw, 3, none⟩ = some (.slice Av nv cv) ∧ w'.cell? ⟨gw, 4, none⟩ = some (.int .i64 tv) ∧ w'.cell? ⟨gw, 5, none⟩ = some (.slice Bv mv dv)) := fun w' hb => ⟨cell_on hb (Kt.out.cell 0), cell_on hb (Kt.out.cell 1), cell_on hb (Kt.out.cell 2), cell_on hb (Kt.out.cell 3), cell_on hb (Kt.out.cell 4), cell_on hb (Kt.out.cell 5), cell_on hb (Kw.out.cell 0), cell_on hb (Kw.out.cell 1), cell_on hb (Kw.out.cell 2), cell_on hb (Kw.out.cell 3), cell_on hb (Kw.out.cell 4), cell_on hb (Kw.out.cell 5)⟩
            have C1 := Lib.hid (fun W (hb : Below v29.heap.size v29 W) => holds_T (k := 16) (x := ⟨up (timesT xf a), kd, some (vv * xf)⟩) (cx := cx) ⟨sq, Aq, nq, cq, tq, Bq, mq, dq⟩ W (ST.out W (only_of_below hb _)) ⟨hcl, by omega⟩ (Fg.past Fq.out hb) hq1 hq2 (xs_more (Xx.out.past (FrEl.keeps _) hb) (by decide)) (HT.out.on hb) (by decide) (by omega) (HQT.out (kd) (.inr ⟨hq.out, rfl⟩)))
            have C2 := Lib.hid (fun W (hb : Below v29.heap.size v29 W) => holds_T (x := ⟨up a, kd, some vv⟩) (cx := cx) ⟨sv, Av, nv, cv, tv, Bv, mv, dv⟩ W (Ta.out.past (TmEl.keeps _) hb) ⟨hc, by omega⟩ (Fg.past Fv.out hb) hv1 hv2 (Xx.out.past (FrEl.keeps _) hb) (HT.out.on hb) (by decide) (by omega) HBW.out)
            dsimp only [rwV] at C1 C2
            first
            | (go_region_held3 (fun w' => w'.cell? ⟨gt, 0, none⟩ = some (.slice Al pl cl) ∧ w'.cell? ⟨gt, 1, none⟩ = some (.int .i64 kd) ∧ w'.cell? ⟨gt, 2, none⟩ = some (.int .i64 sq) ∧ w'.cell? ⟨gt, 3, none⟩ = some (.slice Aq nq cq) ∧ w'.cell? ⟨gt, 4, none⟩ = some (.int .i64 tq) ∧ w'.cell? ⟨gt, 5, none⟩ = some (.slice Bq mq dq) ∧ w'.cell? ⟨gw, 0, none⟩ = some (.slice A n c) ∧ w'.cell? ⟨gw, 1, none⟩ = some (.int .i64 kd) ∧ w'.cell? ⟨gw, 2, none⟩ = some (.int .i64 sv) ∧ w'.cell? ⟨gw, 3, none⟩ = some (.slice Av nv cv) ∧ w'.cell? ⟨gw, 4, none⟩ = some (.int .i64 tv) ∧ w'.cell? ⟨gw, 5, none⟩ = some (.slice Bv mv dv))
                (first | exact HS.out _ (bdr v29) | with_reducible exact HS.out _ Z2.out | with_reducible exact HS.out _ Z1.out)
                (first | (go_at_call 96; first | ((with_reducible refine (C2.out _ Z1.out).mono ?_); rintro e z2 ⟨rfl, hb⟩; have Z2 := Lib.hid (Z1.out.trans (hb.mono Z1.out.size)); clear hb) | ((with_reducible refine (C1.out _ (bdr v29)).mono ?_); rintro e z1 ⟨rfl, hb⟩; have Z1 := Lib.hid ((bdr v29).trans hb); clear hb))))
            | fail "no"
            all_goals
              have BE := Lib.hid (BB.out.trans (Z2.out.mono BB.out.size))
              go_wp2_with fail
              go_ret
              exact ⟨by simp, BE.out⟩
end Go.Proofs.YtikfjmdeeknalaaGreatDoor
