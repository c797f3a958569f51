/- What holds at two points holds at their mixtures, plainly; the walk of LinearMixes. Conditions: the arguments' memory; the table of math/bits as its text lays it. -/
import Derived.Test.YtehofikfbcallaaGreatDoorZ5
import Derived.Test.YtehofikfbcallaaGreatDoorCards
import Derived.Test.YtehofikfbcallaaGreatDoorTie
import Derived.WalkKit
import Derived.ProofKit
import Derived.OpenShut
import Derived.Deep.DeepHandedRow
import Derived.Lib.LaidTab
import Derived.Stop.LaidErr
import Derived.Test.YtehofikfbcallaaGreatDoorV4
namespace Go.Proofs.YtehofikfbcallaaGreatDoor
set_option maxRecDepth 20000
open Go.RowKit

theorem ordR_cases (x y : Rat) : (x < y ∧ ordR x y = -1) ∨ (x = y ∧ ordR x y = 0) ∨ (y < x ∧ ordR x y = 1) := by
  unfold ordR
  by_cases h : x < y
  · exact .inl ⟨h, by rw [if_pos h]⟩
  · rw [if_neg h]
    by_cases h2 : x = y
    · exact .inr (.inl ⟨h2, by rw [if_pos h2]⟩)
    · have := Rat.lt_of_le_of_ne (Rat.not_lt.1 h) (Ne.symm h2)
      exact .inr (.inr ⟨this, by rw [if_neg h2]⟩)
theorem ordR_self (x : Rat) : ordR x x = 0 := by unfold ordR; rw [if_neg Rat.lt_irrefl, if_pos rfl]
theorem ordR_zero {x y : Rat} : ordR x y = 0 ↔ x = y := by
  rcases ordR_cases x y with ⟨h, e⟩ | ⟨h, e⟩ | ⟨h, e⟩
  · rw [e]; exact ⟨fun h2 => by omega, fun h2 => by subst h2; exact absurd h Rat.lt_irrefl⟩
  · rw [e]; exact ⟨fun _ => h, fun _ => rfl⟩
  · rw [e]; exact ⟨fun h2 => by omega, fun h2 => by subst h2; exact absurd h Rat.lt_irrefl⟩
theorem ordR_swap (x y : Rat) : ordR y x = - ordR x y := by
  rcases ordR_cases x y with ⟨h, e⟩ | ⟨h, e⟩ | ⟨h, e⟩
  · rw [e, ordR_gt h]; rfl
  · subst h; rw [ordR_self]; rfl
  · rw [e, ordR_lt h]
theorem ordR_range (x y : Rat) : -1 ≤ ordR x y ∧ ordR x y ≤ 1 := by
  rcases ordR_cases x y with ⟨-, e⟩ | ⟨-, e⟩ | ⟨-, e⟩ <;> rw [e] <;> decide
theorem ordR_le {x y : Rat} : ordR x y ≤ 0 ↔ x ≤ y := by
  rcases ordR_cases x y with ⟨h, e⟩ | ⟨h, e⟩ | ⟨h, e⟩
  · rw [e]; exact ⟨fun _ => Rat.le_of_lt h, fun _ => by decide⟩
  · subst h; rw [e]; exact ⟨fun _ => Rat.le_refl, fun _ => by decide⟩
  · rw [e]; exact ⟨fun h2 => absurd h2 (by decide), fun h2 => absurd h (Rat.not_lt.2 h2)⟩
theorem ordR_ge {x y : Rat} : 0 ≤ ordR x y ↔ y ≤ x := by
  rw [← ordR_le, ordR_swap x y]; omega
theorem ordR_trans {x y z : Rat} (h : ordR x y ≤ 0) (h' : ordR y z ≤ 0) : ordR x z ≤ 0 := ordR_le.2 (Rat.le_trans (ordR_le.1 h) (ordR_le.1 h'))
theorem add_lt {x y z : Rat} (h : x < y) : x + z < y + z := Rat.add_lt_add_right.2 h
theorem rest_nonneg {t : Rat} (h : t ≤ 1) : 0 ≤ 1 - t := by
  have := Rat.add_le_add_right (c := -t) |>.2 h
  rwa [Rat.add_neg_cancel, ← Rat.sub_eq_add_neg] at this
theorem mix_self (t c : Rat) : t * c + (1 - t) * c = c := by
  rw [← Rat.add_mul, Rat.sub_eq_add_neg, Rat.add_comm 1, ← Rat.add_assoc, Rat.add_neg_cancel, Rat.zero_add, Rat.one_mul]
theorem rat_add {a b c d : Rat} (h : a ≤ b) (h' : c ≤ d) : a + c ≤ b + d := Rat.le_trans (Rat.add_le_add_right.2 h) (Rat.add_le_add_left.2 h')
theorem mix_ge {t c x y : Rat} (h0 : 0 ≤ t) (h1 : t ≤ 1) (hx : c ≤ x) (hy : c ≤ y) : c ≤ t * x + (1 - t) * y := by
  have h2 := rest_nonneg h1
  have e1 := Rat.mul_le_mul_of_nonneg_left hx h0
  have e2 := Rat.mul_le_mul_of_nonneg_left hy h2
  have := rat_add e1 e2
  rwa [mix_self] at this
theorem mix_le {t c x y : Rat} (h0 : 0 ≤ t) (h1 : t ≤ 1) (hx : x ≤ c) (hy : y ≤ c) : t * x + (1 - t) * y ≤ c := by
  have h2 := rest_nonneg h1
  have e1 := Rat.mul_le_mul_of_nonneg_left hx h0
  have e2 := Rat.mul_le_mul_of_nonneg_left hy h2
  have := rat_add e1 e2
  rwa [mix_self] at this
theorem pos_is {x : Rat} : posO (some x) = true ↔ 0 ≤ x := by
  show (true && decide (0 ≤ sgnR x)) = true ↔ _
  rw [Bool.true_and, decide_eq_true_eq]
  rcases sgnR_cases x with ⟨h, e⟩ | ⟨h, e⟩ | ⟨h, e⟩ <;> rw [e]
  · exact ⟨fun h2 => absurd h2 (by decide), fun h2 => absurd h (Rat.not_lt.2 h2)⟩
  · subst h; exact ⟨fun _ => Rat.le_refl, fun _ => by decide⟩
  · exact ⟨fun _ => Rat.le_of_lt h, fun _ => by decide⟩
theorem ordK_mix {k : Int} {t c x y : Rat} (h0 : 0 ≤ t) (h1 : t ≤ 1) (hx : ordK k (ordR x c) = true) (hy : ordK k (ordR y c) = true) : ordK k (ordR (t * x + (1 - t) * y) c) = true := by
  unfold ordK at *
  split <;> rename_i hk
  · rw [if_pos hk, decide_eq_true_eq, ordR_ge] at hx hy
    rw [decide_eq_true_eq, ordR_ge]
    exact mix_ge h0 h1 hx hy
  · rw [if_neg hk] at hx hy
    split <;> rename_i hk2
    · rw [if_pos hk2, decide_eq_true_eq, ordR_le] at hx hy
      rw [decide_eq_true_eq, ordR_le]
      exact mix_le h0 h1 hx hy
    · rw [if_neg hk2, decide_eq_true_eq, ordR_zero] at hx hy
      rw [decide_eq_true_eq, ordR_zero, hx, hy, mix_self]
theorem valO_mix {t : Rat} {a b : List Rat} {n : Nat} {ts : List (Int × Option Rat)} (ha : a.length = n) (hb : b.length = n) (h : goT (-1) (n : Int) ts = true) :
    valO ((mixQ t a b).map some) ts = t * valO (a.map some) ts + (1 - t) * valO (b.map some) ts := by
  obtain ⟨-, -, hr⟩ := goT_is.1 h
  refine valT_mix _ _ _ _ _ _ fun u hu => ?_
  obtain ⟨g1, g2, -⟩ := rightT_mem hr hu
  have hv : u.1.toNat < n := by omega
  obtain ⟨x, hx⟩ : ∃ x, a[u.1.toNat]? = some x := ⟨_, List.getElem?_eq_getElem (by omega)⟩
  obtain ⟨y, hy⟩ : ∃ y, b[u.1.toNat]? = some y := ⟨_, List.getElem?_eq_getElem (by omega)⟩
  unfold atX
  rw [List.getD_eq_getElem?_getD, List.getD_eq_getElem?_getD, List.getD_eq_getElem?_getD, mix_at hx hy, List.getElem?_map, List.getElem?_map, hx, hy]
  rfl
/-- What holds at two points holds at their mixtures. -/
theorem mix_sys {t : Rat} (h0 : 0 ≤ t) (h1 : t ≤ 1) {N : Int} {rows : List RowP} {a b : List Rat} (ha : sysH N rows (a.map some) = true) (hb : sysH N rows (b.map some) = true) : sysH N rows ((mixQ t a b).map some) = true := by
  unfold sysH at *
  simp only [Bool.and_eq_true, decide_eq_true_eq, List.all_eq_true, List.length_map] at *
  obtain ⟨la, ra, pa, qa⟩ := ha
  obtain ⟨lb, -, pb, qb⟩ := hb
  have hab : b.length = a.length := by omega
  have hl := mix_len (t := t) (a := a) (b := b) rfl hab
  refine ⟨by omega, ra, fun x hx => ?_, fun r hr => ?_⟩
  · obtain ⟨j, hj⟩ := List.mem_iff_getElem?.1 hx
    obtain ⟨z, hz, rfl⟩ := map_at hj
    have hj2 : j < a.length := by
      have := (List.getElem?_eq_some_iff.1 hz).1
      omega
    obtain ⟨u, hu⟩ : ∃ u, a[j]? = some u := ⟨_, List.getElem?_eq_getElem hj2⟩
    obtain ⟨v, hv⟩ : ∃ v, b[j]? = some v := ⟨_, List.getElem?_eq_getElem (by omega)⟩
    rw [mix_at hu hv] at hj
    cases hj
    refine pos_is.2 (mix_ge h0 h1 (pos_is.1 (pa _ ?_)) (pos_is.1 (pb _ ?_)))
    · exact List.mem_map_of_mem (List.mem_of_getElem? hu)
    · exact List.mem_map_of_mem (List.mem_of_getElem? hv)
  · have hrr : rowR N r = true := by
      unfold sysR at ra
      simp only [Bool.and_eq_true, List.all_eq_true] at ra
      exact ra.2 r hr
    have hg : goT (-1) N r.ts = true := by
      unfold rowR at hrr
      simp only [Bool.and_eq_true] at hrr
      exact hrr.2.2.2
    have e1 := qa r hr
    have e2 := qb r hr
    unfold rowH at *
    rw [valO_mix rfl hab (by rw [la]; exact hg)]
    exact ordK_mix h0 h1 e1 e2
theorem all_some {xs : List (Option Rat)} (h : ∀ x ∈ xs, x.isSome = true) : ∃ a : List Rat, xs = a.map some := by
  induction xs with
  | nil => exact ⟨[], rfl⟩
  | cons x xs ih =>
    obtain ⟨a, rfl⟩ := ih fun y hy => h y (List.mem_cons_of_mem _ hy)
    obtain ⟨y, rfl⟩ := Option.isSome_iff_exists.1 (h x List.mem_cons_self)
    exact ⟨y :: a, rfl⟩
/-- The points at which a system holds. -/
theorem sysH_pts {N : Int} {rows : List RowP} {xs : List (Option Rat)} (h : sysH N rows xs = true) : (∃ a : List Rat, xs = a.map some) ∧ (xs.length : Int) = N := by
  unfold sysH at h
  simp only [Bool.and_eq_true, decide_eq_true_eq, List.all_eq_true] at h
  exact ⟨all_some fun x hx => posO_some (h.2.2.1 x hx), h.1⟩
/-- A share: p of q. -/
theorem ratio_unit {p q : Int} (hp : 0 ≤ p) (hq : 0 < q) (h : p ≤ q) : 0 ≤ ratio p q ∧ ratio p q ≤ 1 := by
  obtain ⟨g, hg, hs, e1, e2⟩ := ratio_parts (p := p) (q := q) (by omega)
  have hg0 : 0 < g := by
    rcases hs with ⟨-, e⟩ | ⟨h2, -⟩
    · rw [e] at hg ⊢; omega
    · omega
  refine ⟨Rat.num_nonneg.1 (Int.not_lt.1 fun hn => ?_), (Rat.le_iff _ _).2 ?_⟩
  · have := Int.mul_lt_mul_of_pos_left hn hg0
    omega
  · have h2 : g * (ratio p q).num ≤ g * ((ratio p q).den : Int) := by rw [← e1, ← e2]; exact h
    have := Int.le_of_mul_le_mul_left h2 hg0
    simpa using this

theorem wfU16 {z : Int} (h : (Lit.int .u16 z).wf = true) : 0 ≤ z ∧ z ≤ 65535 := by
  have e1 : IntKind.u16.min = 0 := rfl
  have e2 : IntKind.u16.max = 65535 := rfl
  simp [Lit.wf, e1, e2] at h
  omega
set_option maxHeartbeats 64000000 in
theorem mixes_walk {A X Y : Option Addr} {n c m cx m2 cy : Nat} {N : Int} {l : List RawR} {lx ly : List FrR} (w : World) (Ra : Hid (Els rRw 6 w A n l)) (_hc : n ≤ c) (Rx : Hid (Els rFr 4 w X m lx)) (Ry : Hid (Els rFr 4 w Y m2 ly)) (p q : Int) (hp : 0 ≤ p ∧ p ≤ 65535) (hqq : 0 ≤ q ∧ q ≤ 65535) (HT : Hid (TabZ w)) :
    Calls Tryz.prog 5 #[.agg #[.int .i64 N, .slice A n c], .slice X m cx, .slice Y m2 cy, .int .u16 p, .int .u16 q] w (BoolB true w) := by
  have BB : Hid (Below w.heap.size w w) := Below.refl _ _
  go_enter Tryz.func5, Tryz.ntmps5
  go_upto_region 1 with (fail)
  obtain ⟨v1, hv1⟩ : ∃ v, v = w.alloc (.cells #[.int .i64 N, .slice A n c] 46) := ⟨_, rfl⟩
  rw [← hv1]
  have Ks : Hid (Blk v1 w.heap.size 46 #[.int .i64 N, .slice A n c]) := by show Blk _ _ _ _; rw [hv1]; exact Blk.new _ _ _
  have hb1 : Below w.heap.size w v1 := by rw [hv1]; exact bal (Below.refl _ _)
  replace HT := Lib.hid (HT.out.on hb1)
  replace BB := Lib.hid (BB.out.trans (hb1.mono BB.out.size))
  replace Ra := Lib.hid (Ra.out.past (rRw.keeps) hb1)
  replace Rx := Lib.hid (Rx.out.past (rFr.keeps) hb1)
  replace Ry := Lib.hid (Ry.out.past (rFr.keeps) hb1)
  obtain ⟨gs, hg1⟩ : ∃ g, g = w.heap.size := ⟨_, rfl⟩
  rw [← hg1] at Ks ⊢
  clear hv1 hb1 hg1
  go_wp2_with fail
  refine (small8 v1 HT).mono ?_
  rintro e v2 ⟨rfl, hb⟩
  replace HT := Lib.hid (HT.out.on hb)
  replace BB := Lib.hid (BB.out.trans (hb.mono BB.out.size))
  replace Ra := Lib.hid (Ra.out.past (rRw.keeps) hb)
  replace Rx := Lib.hid (Rx.out.past (rFr.keeps) hb)
  replace Ry := Lib.hid (Ry.out.past (rFr.keeps) hb)
  replace Ks := Lib.hid (Ks.out.below hb Ks.out.lt)
  clear hb
  obtain ⟨ys0, ys1⟩ := sy_cells Ks.out
  go_wp2_with fail
  refine (Few_any c N 8 8 4 v2 Ra (by decide) (by decide) (by decide) (by decide)).mono ?_
  rintro e v3 ⟨b, rfl, hp, hb⟩
  replace HT := Lib.hid (HT.out.on hb)
  replace BB := Lib.hid (BB.out.trans (hb.mono BB.out.size))
  replace Ra := Lib.hid (Ra.out.past (rRw.keeps) hb)
  replace Rx := Lib.hid (Rx.out.past (rFr.keeps) hb)
  replace Ry := Lib.hid (Ry.out.past (rFr.keeps) hb)
  replace Ks := Lib.hid (Ks.out.below hb Ks.out.lt)
  clear hb
  rcases b with _ | _
  · clear hp
    go_wp2_with fail
    go_ret
    exact ⟨rfl, BB.out⟩
  have Pa := Lib.hid (hp rfl)
  clear hp
  clear ys0 ys1
  go_wp2_with fail
  refine (FewPoint_any cx 8 4 v3 Rx (by decide) (by decide)).mono ?_
  rintro e v4 ⟨b, rfl, hp, hb⟩
  replace HT := Lib.hid (HT.out.on hb)
  replace BB := Lib.hid (BB.out.trans (hb.mono BB.out.size))
  replace Ra := Lib.hid (Ra.out.past (rRw.keeps) hb)
  replace Rx := Lib.hid (Rx.out.past (rFr.keeps) hb)
  replace Ry := Lib.hid (Ry.out.past (rFr.keeps) hb)
  replace Ks := Lib.hid (Ks.out.below hb Ks.out.lt)
  clear hb
  rcases b with _ | _
  · clear hp
    go_wp2_with fail
    go_ret
    exact ⟨rfl, BB.out⟩
  have Px := Lib.hid (hp rfl)
  clear hp
  go_wp2_with fail
  refine (FewPoint_any cy 8 4 v4 Ry (by decide) (by decide)).mono ?_
  rintro e v5 ⟨b, rfl, hp, hb⟩
  replace HT := Lib.hid (HT.out.on hb)
  replace BB := Lib.hid (BB.out.trans (hb.mono BB.out.size))
  replace Ra := Lib.hid (Ra.out.past (rRw.keeps) hb)
  replace Rx := Lib.hid (Rx.out.past (rFr.keeps) hb)
  replace Ry := Lib.hid (Ry.out.past (rFr.keeps) hb)
  replace Ks := Lib.hid (Ks.out.below hb Ks.out.lt)
  clear hb
  rcases b with _ | _
  · clear hp
    go_wp2_with fail
    go_ret
    exact ⟨rfl, BB.out⟩
  have Py := Lib.hid (hp rfl)
  clear hp
  obtain ⟨rows, hrs⟩ := rs_of (k := 4) Ra.out (fun r hr => by obtain ⟨p1, p2, p3, p4⟩ := Pa.out.2.2 r hr; exact ⟨by omega, fun t ht => by have := p2 t ht; omega, by omega, by omega⟩)
  obtain ⟨xs, hxs⟩ := xs_of (k := 4) Rx.out (fun t ht => by have := Px.out.2 t ht; omega)
  obtain ⟨ys, hys⟩ := xs_of (k := 4) Ry.out (fun t ht => by have := Py.out.2 t ht; omega)
  have hn : n ≤ 8 := by have := Pa.out.2.1; omega
  have hm : m ≤ 8 := by have := Px.out.1; omega
  have hm2 : m2 ≤ 8 := by have := Py.out.1; omega
  have Rr := Lib.hid hrs
  have Xx := Lib.hid hxs
  have Yy := Lib.hid hys
  clear hrs hxs hys
  clear Ra Rx Ry
  clear Pa Px Py
  obtain ⟨vx, hbx⟩ : ∃ b, sysH N rows xs = b := ⟨_, rfl⟩
  obtain ⟨ys0, ys1⟩ := sy_cells Ks.out
  go_wp2_with fail
  refine (Holds_is (k := 8) (c := c) (cx := cx) N Rr.out Xx.out HT.out (by decide) (by omega) (by omega) hbx).mono ?_
  rintro e v6 ⟨rfl, hb⟩
  replace HT := Lib.hid (HT.out.on hb)
  replace BB := Lib.hid (BB.out.trans (hb.mono BB.out.size))
  replace Ks := Lib.hid (Ks.out.below hb Ks.out.lt)
  replace Rr := Lib.hid (Rr.out.past (RwEl.keeps _) hb)
  replace Xx := Lib.hid (Xx.out.past (FrEl.keeps _) hb)
  replace Yy := Lib.hid (Yy.out.past (FrEl.keeps _) hb)
  clear hb
  clear ys0 ys1
  rcases vx with _ | _
  · skip
    go_wp2_with fail
    go_ret
    exact ⟨rfl, BB.out⟩
  obtain ⟨vy, hby⟩ : ∃ b, sysH N rows ys = b := ⟨_, rfl⟩
  obtain ⟨ys0, ys1⟩ := sy_cells Ks.out
  go_wp2_with fail
  refine (Holds_is (k := 8) (c := c) (cx := cy) N Rr.out Yy.out HT.out (by decide) (by omega) (by omega) hby).mono ?_
  rintro e v7 ⟨rfl, hb⟩
  replace HT := Lib.hid (HT.out.on hb)
  replace BB := Lib.hid (BB.out.trans (hb.mono BB.out.size))
  replace Ks := Lib.hid (Ks.out.below hb Ks.out.lt)
  replace Rr := Lib.hid (Rr.out.past (RwEl.keeps _) hb)
  replace Xx := Lib.hid (Xx.out.past (FrEl.keeps _) hb)
  replace Yy := Lib.hid (Yy.out.past (FrEl.keeps _) hb)
  clear hb
  clear ys0 ys1
  rcases vy with _ | _
  · skip
    go_wp2_with fail
    go_ret
    exact ⟨rfl, BB.out⟩
  by_cases hq : q = 0
  case pos =>
    subst hq
    go_wp2_with fail
    go_ret
    exact ⟨rfl, BB.out⟩
  by_cases hpq : q < p
  case pos =>
    go_wp2_with fail
    go_ret
    exact ⟨rfl, BB.out⟩
  have hq0 : 0 < q := by omega
  have hpq2 : p ≤ q := by omega
  have hqe : (q == 0) = false := by simp; omega
  have hwp : IntKind.i64.wrap p = p := IntWalk.i64_in _ (by omega)
  have hwq : IntKind.i64.wrap q = q := IntWalk.i64_in _ (by omega)
  obtain ⟨⟨a, rfl⟩, hax⟩ := sysH_pts hbx
  have hby' := hby
  obtain ⟨⟨b, rfl⟩, hby⟩ := sysH_pts hby'
  have hlx := Xx.out.len
  have hly := Yy.out.len
  obtain rfl : m2 = m := by omega
  obtain ⟨u0, u1⟩ := ratio_unit (by omega) hq0 hpq2
  have hmix := mix_sys u0 u1 hbx hby'
  clear u0 u1 hax hby hbx hby' hlx hly
  obtain ⟨y0, y1⟩ := sy_cells Ks.out
  have HS : Hid (∀ w', Below v7.heap.size v7 w' → w'.cell? ⟨gs, 0, none⟩ = some (.int .i64 N) ∧ w'.cell? ⟨gs, 1, none⟩ = some (.slice A n c)) := fun w' hb => ⟨cell_on hb y0, cell_on hb y1⟩
  clear y0 y1
  go_wp2_with fail
  go_region_held3 (fun w' => w'.cell? ⟨gs, 0, none⟩ = some (.int .i64 N) ∧ w'.cell? ⟨gs, 1, none⟩ = some (.slice A n c))
    (first | exact HS.out _ (bdr v7) | with_reducible exact HS.out _ X3.out | with_reducible exact HS.out _ X2.out | with_reducible exact HS.out _ X1.out)
    (first | (go_at_call 23; refine (lof8 p q v7.drew (by omega) (by omega) (by omega) (by omega) hq (HT.out.on (bdr v7))).mono ?_; rintro e x1 ⟨⟨sk, Ak, nk, ck, tk, Bk, mk, dk⟩, rfl, -, -, hf, -, -, hb⟩; have X1 := Lib.hid ((bdr v7).trans hb); have Fo1 := Lib.hid hf; clear hf hb; dsimp only [frV]) | (go_at_call 22; refine (mixed_T ⟨sk, Ak, nk, ck, tk, Bk, mk, dk⟩ x1 (Xx.out.past (FrEl.keeps _) X1.out) (Yy.out.past (FrEl.keeps _) X1.out) (Fo1.out.more (by decide)) (HT.out.on X1.out) (by omega)).mono ?_; rintro e x2 ⟨AM, cM, rfl, -, hM, hb⟩; have X2 := Lib.hid (X1.out.trans (hb.mono X1.out.size)); have HM := Lib.hid hM; clear hM hb) | (go_at_call 20; refine (Holds_is (k := 69) N (rs_more (Rr.out.past (RwEl.keeps _) X2.out) (by decide)) HM.out (HT.out.on X2.out) (by decide) (by omega) (by omega) hmix).mono ?_; rintro e x3 ⟨rfl, hb⟩; have X3 := Lib.hid (X2.out.trans (hb.mono X2.out.size)); clear hb))
  all_goals
    have BE := Lib.hid (BB.out.trans (X3.out.mono BB.out.size))
    go_wp2_with fail
    go_ret
    exact ⟨rfl, BE.out⟩
end Go.Proofs.YtehofikfbcallaaGreatDoor

/- The statement LinearMixes, as its tied card: for every input the law returns true and leaves its arguments as they were. No condition: the table that the row lists is tied to the program text by the card. -/
namespace Go.Proofs.YtehofikfbcallaaGreatDoor.linearMixes
set_option maxRecDepth 100000
open Go.ChangeShapes Go.WideShapes Go.ChangeAt Go.RowKit
open Go.ChangeMaps (open_string shut_string)

theorem own : ownKnob Tryz.prog.godebug = none := by kernel_rfl
theorem laidOut : laidOutB Tryz.prog = true := by kernel_rfl
theorem readable_fracs : Tryz.prog.readableRec 28 = true := by kernel_rfl
theorem row_fracs : 28 < Tryz.prog.types.size := of_decide_eq_true (by kernel_rfl)
theorem readable_sys : Tryz.prog.readableRec 46 = true := by kernel_rfl
theorem row_sys : 46 < Tryz.prog.types.size := of_decide_eq_true (by kernel_rfl)
theorem readable_u16 : Tryz.prog.readableRec 52 = true := by kernel_rfl
theorem row_u16 : 52 < Tryz.prog.types.size := of_decide_eq_true (by kernel_rfl)

theorem gTabZ : Tryz.prog.globalNamed "math/bits.deBruijn64tab" = some 0 := by kernel_rfl
theorem gTabZType : (Tryz.prog.globals[0]?).map (·.type) = some 133 := by kernel_rfl
theorem cellsTabZ : Tryz.prog.cellsOf 133 = 64 := by kernel_rfl
theorem cellsU8 : Tryz.prog.cellsOf 5 = 1 := by kernel_rfl
def tab64 : List Int := [0, 1, 56, 2, 57, 49, 28, 3, 61, 58, 42, 50, 38, 29, 17, 4, 62, 47, 59, 36, 45, 43, 51, 22, 53, 39, 33, 30, 24, 18, 12, 5, 63, 55, 48, 27, 60, 41, 37, 16, 46, 35, 44, 21, 52, 32, 23, 11, 54, 26, 40, 15, 34, 20, 31, 10, 25, 14, 19, 9, 13, 8, 7, 6]
theorem tab64_at : ∀ j, j < 64 → tab64[j]? = some ((Lib.deBruijn64tab.getD j 0 : Nat) : Int) := by decide +kernel
/-- What the row's list gives: the table of math/bits. -/
theorem tableZ {W : World} (h : laidMetH Tryz.prog Rows.linearMixesRow.laid W) : TabZ W := fun j hj => by
  have hI : Lib.TabIs Tryz.prog W "math/bits.deBruijn64tab" .u8 tab64 := Lib.tabIs_of_head (rest := []) gTabZ gTabZType Tryz.underlying133 Tryz.underlying5 cellsU8 cellsTabZ h
  rw [World.var?_cell gTabZ hI j]
  simp [tab64_at j hj]

theorem contract (H : Type) (enc : TypeId × Value → H) (W : World) (base : Nat) (args : Array Value) (ds gs : List (DataW H)) (before : List MemPlace)
    (hval : ∀ (j : Nat) t v, Tryz.f5.params[j]? = some t → args[j]? = some v → Value.okWide Tryz.prog W .any base t v)
    (hW : DataW.Whole enc Tryz.prog Tryz.f5.params.toList Rows.linearMixesSpec.vars false W args.toList ds gs before) (hL : laidMetH Tryz.prog Rows.linearMixesRow.laid W) :
    Calls Tryz.prog 5 args W fun e W' => ∃ v, e = .returned v ∧ Rows.linearMixesSpec.post enc Tryz.prog Tryz.f5 false true false false W args v W' := by
  have hW' := hW
  have hlt := hW.lt
  obtain ⟨p, q, hA0, hV, rfl, hfz, hnd⟩ := hW
  have hA : DataW.TrodAll enc Tryz.prog W 0 (fun _ => true) true Tryz.f5.params.toList args.toList ds p := hA0
  rw [Tryz.params5] at hA hval
  obtain ⟨v0, vs0, d0, ds0, p0, q0, hargs, rfl, rfl, h0, r0⟩ := trodAll_cons hA
  obtain ⟨v1, vs1, d1, ds1, p1, q1, rfl, rfl, rfl, h1, r1⟩ := trodAll_cons r0
  obtain ⟨v2, vs2, d2, ds2, p2, q2, rfl, rfl, rfl, h2, r2⟩ := trodAll_cons r1
  obtain ⟨v3, vs3, d3, ds3, p3, q3, rfl, rfl, rfl, h3, r3⟩ := trodAll_cons r2
  obtain ⟨v4, vs4, d4, ds4, p4, q4, rfl, rfl, rfl, h4, r4⟩ := trodAll_cons r3
  obtain ⟨rfl, rfl, rfl⟩ := trodAll_nil r4
  obtain rfl : args = #[v0, v1, v2, v3, v4] := by cases args; simp_all
  obtain ⟨rfl, rfl⟩ := trodVars_none hV
  clear hA0
  simp only [List.append_nil] at hW' hlt
  have k0 := h0
  have k1 := h1
  have k2 := h2
  have k3 := h3
  have k4 := h4
  obtain ⟨N0, A0, n0, c0, l0, hv0, hN0, hc0, -, hE0⟩ := sys_in (hval 0 46 v0 rfl rfl) h0
  subst hv0
  obtain ⟨a1, ln1, cp1, rfl⟩ := okWide_slice Tryz.underlying28 (hval 1 28 v1 rfl rfl)
  obtain ⟨fu1, hf1⟩ := h1
  obtain ⟨A1, n1, c1, l1, hv1, hc1, -, hE1⟩ := fracs_in (show DataW.trod enc Tryz.prog W 0 (fun _ => true) true fu1 28 [.slice a1 ln1 cp1] = some _ from by simpa [Value.cells] using hf1)
  simp only [Value.slice.injEq] at hv1
  obtain ⟨rfl, rfl, rfl⟩ := hv1
  obtain ⟨a2, ln2, cp2, rfl⟩ := okWide_slice Tryz.underlying28 (hval 2 28 v2 rfl rfl)
  obtain ⟨fu2, hf2⟩ := h2
  obtain ⟨A2, n2, c2, l2, hv2, hc2, -, hE2⟩ := fracs_in (show DataW.trod enc Tryz.prog W 0 (fun _ => true) true fu2 28 [.slice a2 ln2 cp2] = some _ from by simpa [Value.cells] using hf2)
  simp only [Value.slice.injEq] at hv2
  obtain ⟨rfl, rfl, rfl⟩ := hv2
  obtain ⟨z3, rfl, hd3, hp3, hk3⟩ := open_int Tryz.underlying52 (hval 3 52 v3 rfl rfl) h3
  obtain ⟨z4, rfl, hd4, hp4, hk4⟩ := open_int Tryz.underlying52 (hval 4 52 v4 rfl rfl) h4
  refine (mixes_walk W (Lib.hid hE0) hc0 (Lib.hid hE1) (Lib.hid hE2) z3 z4 (wfU16 hk3) (wfU16 hk4) (Lib.hid (tableZ hL))).mono fun e W' ⟨he, hb⟩ => ?_
  subst he
  refine ⟨_, rfl, _, _, _, [], p0 ++ (p1 ++ (p2 ++ (p3 ++ (p4 ++ ([]))))), [], hW', trodAll_cons_mk (shut_bool Tryz.underlying4 _) trodAll_mk0, ?_, rfl, hb.frame _, fun h => by cases h⟩
  exact trodAll_cons_mk (Below.trod laidOut readable_sys row_sys k0 hb (fun x hx => hlt x (by simp [hx]))) (trodAll_cons_mk (Below.trod laidOut readable_fracs row_fracs k1 hb (fun x hx => hlt x (by simp [hx]))) (trodAll_cons_mk (Below.trod laidOut readable_fracs row_fracs k2 hb (fun x hx => hlt x (by simp [hx]))) (trodAll_cons_mk (Below.trod laidOut readable_u16 row_u16 k3 hb (fun x hx => hlt x (by simp [hx]))) (trodAll_cons_mk (Below.trod laidOut readable_u16 row_u16 k4 hb (fun x hx => hlt x (by simp [hx]))) (trodAll_mk0)))))

def fill64 (o : Obj) : Obj := match o with
  | .cells _ t frozen => .cells (tab64.map fun z => Value.int .u8 z).toArray t frozen
  | o => o
/-- A world for the witness: the settled one, the table holding what its initialiser lays. -/
noncomputable def laidWorld (os : Os) : World :=
  { World.holding Tryz.prog os ⟨#[], #[], []⟩ with heap := (World.holding Tryz.prog os ⟨#[], #[], []⟩).heap.modify 0 fill64 }
theorem laid_met (os : Os) : laidMet Tryz.prog Rows.linearMixesRow.laid ((laidWorld os).forCall (fun _ _ => 0) ⟨#[], #[.agg #[.int .i64 0, .slice none 0 0], .slice none 0 0, .slice none 0 0, .int .u16 0, .int .u16 0], []⟩).memory :=
  laidMet_of_run' 8 (by kernel_rfl) (by kernel_rfl)
theorem reads (os : Os) {H : Type} (enc : TypeId × Value → H) : ∃ places, DataW.whole enc Tryz.prog ((laidWorld os).forCall (fun _ _ => 0) ⟨#[], #[.agg #[.int .i64 0, .slice none 0 0], .slice none 0 0, .slice none 0 0, .int .u16 0, .int .u16 0], []⟩).memory Tryz.f5.params.toList Rows.linearMixesSpec.vars false (#[(.agg #[.int .i64 0, .slice none 0 0]), (.slice none 0 0), (.slice none 0 0), (.int .u16 0), (.int .u16 0)] : Array Value).toList 8 = some ([.agg [.lit (.int .i64 0), .nil], .nil, .nil, .lit (.int .u16 0), .lit (.int .u16 0)], [], places) :=
  ⟨[], by kernel_rfl⟩

set_option maxRecDepth 100000 in
theorem lifted (os : Os) (started : os.Started) (H : Type) (enc : TypeId × Value → H) (F : Stop.Interp) :
    ReturnsInHanded {} Tryz.checked os 5 .any ((OpenSpec.ofChange Rows.linearMixesSpec).preRow enc Tryz.prog Tryz.f5 Rows.linearMixesRow.domain false Rows.linearMixesRow.laid) (((OpenSpec.ofChange Rows.linearMixesSpec).at F).post enc Tryz.prog Tryz.f5 false true false false) := by
  obtain ⟨places, hx⟩ := reads os enc
  refine returnsInHanded_of_row (C := Tryz.checked) (s := OpenSpec.ofChange Rows.linearMixesSpec) own started (by kernel_rfl) Tryz.func5
    (witness_row_at (enc := enc) (C := Tryz.checked) false (laidWorld os) #[.agg #[.int .i64 0, .slice none 0 0], .slice none 0 0, .slice none 0 0, .int .u16 0, .int .u16 0] rfl (by kernel_rfl) (by kernel_rfl) (by kernel_rfl)
      (OpenSpec.preRow_of_cond 8 hx (by kernel_rfl) (fun k hk => by cases hk) (by kernel_rfl) (laid_met os))) ?_
  intro W base args ds gs before hval hW _ _ _ hL _ _
  exact contract H enc W base args ds gs before hval hW hL

theorem said : Rows.LinearMixesSaid :=
  OpenClaim.holds_of_cond 5 Tryz.f5 rfl rfl rfl rfl rfl rfl rfl ⟨rfl, rfl, rfl, rfl, rfl⟩ rfl rfl rfl rfl rfl (by kernel_rfl) Tryz.func5 (by kernel_rfl)
    (of_decide_eq_true (by kernel_rfl)) (by unfold Func.isWrapper; rw [if_neg (of_decide_eq_false (by kernel_rfl))]; exact ⟨rfl, rfl⟩)
    (fun os started H enc _ F => by rw [OpenClaim.pre_eq_preRow]; exact lifted os started H enc F)

theorem plain (f : FuncId) (fn : Func) (hf : Tryz.pinned.checked.prog.funcNamed "kerbside/kerbsidelaw08.LinearMixes" = some f) (hfn : Tryz.pinned.checked.prog.funcs[f]? = some fn) :
    false = Tryz.pinned.checked.prog.looks [] ∧ ∀ (j : Nat) t, fn.params[j]? = some t → Tryz.pinned.checked.prog.wantsStandIn t = false := by
  obtain rfl : f = 5 := Option.some.inj ((show Tryz.prog.funcNamed "kerbside/kerbsidelaw08.LinearMixes" = some 5 by kernel_rfl).symm.trans hf) |>.symm
  obtain rfl : fn = Tryz.f5 := (Option.some.inj (Tryz.func5.symm.trans hfn)).symm
  refine ⟨by kernel_rfl, fun j t ht => ?_⟩
  rw [Tryz.params5] at ht
  have hall : (#[46, 28, 28, 52, 52] : Array TypeId).all (fun t => Tryz.prog.wantsStandIn t == false) = true := by kernel_rfl
  exact eq_of_beq (Array.all_eq_true_iff_forall_mem.1 hall t (Array.mem_of_getElem? ht))

/-- The card. -/
theorem card : Rows.LinearMixesCardSaid :=
  Claim7.holds_tied_plain_at .later [] _ _ _ _ said (fun _ h => by cases h) (by kernel_rfl) (fun _ h => by cases h) linearMixes_row_tie rfl ⟨rfl, rfl⟩ (by kernel_rfl) rfl plain (by kernel_rfl)
end Go.Proofs.YtehofikfbcallaaGreatDoor.linearMixes
