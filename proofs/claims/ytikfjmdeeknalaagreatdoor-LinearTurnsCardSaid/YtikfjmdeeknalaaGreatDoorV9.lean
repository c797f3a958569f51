/- The walk of linear's value: the sum of the halves' values. Conditions: sizes; right terms and fractions; the table of math/bits as its text lays it. -/
import Derived.Test.YtikfjmdeeknalaaGreatDoorV7
namespace Go.Proofs.YtikfjmdeeknalaaGreatDoor
set_option maxRecDepth 20000
open Go.RowKit

/-- A bound of the size of a sum of at most 2^d products. -/
def bnd (k : Nat) : Nat → Nat
  | 0 => k + k + 4
  | d + 1 => bnd k d + bnd k d + 1
theorem bnd_le (k : Nat) : ∀ d, k + k + 4 ≤ bnd k d
  | 0 => Nat.le_refl _
  | d + 1 => by have := bnd_le k d; rw [bnd]; omega
theorem bnd_six {k : Nat} (hk : k ≤ 500) : ∀ d, d ≤ 6 → bnd k d ≤ 70000 := by
  have h0 : bnd k 0 ≤ 1004 := by show k + k + 4 ≤ _; omega
  have h1 : bnd k 1 ≤ 2009 := by show bnd k 0 + bnd k 0 + 1 ≤ _; omega
  have h2 : bnd k 2 ≤ 4019 := by show bnd k 1 + bnd k 1 + 1 ≤ _; omega
  have h3 : bnd k 3 ≤ 8039 := by show bnd k 2 + bnd k 2 + 1 ≤ _; omega
  have h4 : bnd k 4 ≤ 16079 := by show bnd k 3 + bnd k 3 + 1 ≤ _; omega
  have h5 : bnd k 5 ≤ 32159 := by show bnd k 4 + bnd k 4 + 1 ≤ _; omega
  have h6 : bnd k 6 ≤ 64319 := by show bnd k 5 + bnd k 5 + 1 ≤ _; omega
  intro d hd
  have : d = 0 ∨ d = 1 ∨ d = 2 ∨ d = 3 ∨ d = 4 ∨ d = 5 ∨ d = 6 := by omega
  rcases this with rfl | rfl | rfl | rfl | rfl | rfl | rfl <;> omega
/-- What value asks of its terms. -/
def inV (m : Nat) (l : List (Int × Option Rat)) : Prop := ∀ t ∈ l, t.2.isSome = true ∧ 0 ≤ t.1 ∧ t.1 < (m : Int)
theorem valO_one (xs : List (Option Rat)) (t : Int × Option Rat) : valO xs [t] = t.2.getD 0 * atX xs t.1 := by
  show t.2.getD 0 * atX xs t.1 + 0 = _
  rw [Rat.add_zero]
theorem valO_half (xs : List (Option Rat)) (l : List (Int × Option Rat)) (h : Nat) : valO xs (l.take h) + valO xs (l.drop h) = valO xs l := by
  rw [← valO_app, List.take_append_drop]
theorem FrEnd.more {w w' : World} {j k : Nat} {x : Rat} {e : Ending} (h : FrEnd w j x e w') (hk : j ≤ k) : FrEnd w k x e w' := by
  obtain ⟨r, h1, h2, h3, h4, h5⟩ := h
  exact ⟨r, h1, h2, h3, h4.more hk, h5⟩

/-- Behind 'x, _ := f(..)' in a region that draws its order: x's box, and where the fraction lies. -/
structure Bx1 (W0 W4 : World) (g k : Nat) (x : Rat) (r : FrR) : Prop where
  bl : Below W0.heap.size W0 W4
  bk : Blk W4 g 43 (frC r)
  lo : W0.heap.size ≤ g
  fg : Fg W4 k x r
  f1 : Fresh W0 r.A1 r.n1
  f2 : Fresh W0 r.A2 r.n2
  of : Off r g
  c1 : r.n1 ≤ r.c1
  c2 : r.n2 ≤ r.c2
theorem cell_on {w w' : World} (hb : Below w.heap.size w w') {p : Addr} {u : Value} (h : w.cell? p = some u) : w'.cell? p = some u := (hb.cell (World.block_lt_of_cell? _ _ h)).trans h
theorem bdr (w : World) : Below w.heap.size w w.drew := (Below.refl _ _).drew
theorem Fresh.old {W0 W1 : World} {A : Option Addr} {n : Nat} (h : Fresh W1 A n) (hs : W0.heap.size ≤ W1.heap.size) : Fresh W0 A n := fun hp ad e => Nat.le_trans hs (h hp ad e)
/-- .. where the box is made behind the call. -/
theorem bx_late {W0 w3 : World} {k : Nat} {x : Rat} {r : FrR} (hb : Below W0.heap.size W0.drew w3) (hf : Fg w3 k x r) (f1 : Fresh W0.drew r.A1 r.n1) (f2 : Fresh W0.drew r.A2 r.n2) (c1 : r.n1 ≤ r.c1) (c2 : r.n2 ≤ r.c2) :
    Bx1 W0 (w3.alloc (.cells (frC r) 43)) w3.heap.size k x r :=
  ⟨bal ((bdr W0).trans hb), Blk.new _ _ _, ((bdr W0).trans hb).size, hf.al, f1, f2, hf.off_new (Nat.le_refl _), c1, c2⟩
/-- .. ahead of it. -/
theorem bx_early {W0 w3 : World} {k : Nat} {x : Rat} {r : FrR} (hb : Below (W0.alloc (.cells #[.int .i64 0, .slice none 0 0, .int .i64 0, .slice none 0 0] 43)).heap.size (W0.alloc (.cells #[.int .i64 0, .slice none 0 0, .int .i64 0, .slice none 0 0] 43)).drew w3) (hf : Fg w3 k x r)
    (f1 : Fresh (W0.alloc (.cells #[.int .i64 0, .slice none 0 0, .int .i64 0, .slice none 0 0] 43)).drew r.A1 r.n1) (f2 : Fresh (W0.alloc (.cells #[.int .i64 0, .slice none 0 0, .int .i64 0, .slice none 0 0] 43)).drew r.A2 r.n2) (c1 : r.n1 ≤ r.c1) (c2 : r.n2 ≤ r.c2) :
    Bx1 W0 ((((w3.setCell ⟨W0.heap.size, 0, none⟩ (.int .i64 r.s1)).setCell ⟨W0.heap.size, 1, none⟩ (.slice r.A1 r.n1 r.c1)).setCell ⟨W0.heap.size, 2, none⟩ (.int .i64 r.s2)).setCell ⟨W0.heap.size, 3, none⟩ (.slice r.A2 r.n2 r.c2)) W0.heap.size k x r := by
  obtain ⟨W1, hW1⟩ : ∃ W1, W1 = W0.alloc (.cells #[.int .i64 0, .slice none 0 0, .int .i64 0, .slice none 0 0] 43) := ⟨_, rfl⟩
  have hb0 : Below W0.heap.size W0 W1 := by rw [hW1]; exact bal (Below.refl _ _)
  have hk : Blk W1 W0.heap.size 43 #[.int .i64 0, .slice none 0 0, .int .i64 0, .slice none 0 0] := by rw [hW1]; exact Blk.new _ _ _
  rw [← hW1] at hb f1 f2
  have hb1 : Below W1.heap.size W1 w3 := (bdr W1).trans hb
  have hlt := hk.lt
  have ho : Off r W0.heap.size := off_old f1 f2 hlt
  exact ⟨below_4 (hb0.trans (hb1.mono hb0.size)) (Nat.le_refl _), (hk.below hb1 hlt).set4, Nat.le_refl _, hf.far4 ho, Fresh.old f1 hb0.size, Fresh.old f2 hb0.size, ho, c1, c2⟩

section
variable {k m n c cx : Nat} {X A : Option Addr} {xs : List (Option Rat)} {l : List (Int × Option Rat)} {w : World}
theorem bx_box {W0 w3 : World} (hb : Below (W0.alloc (.cells #[.int .i64 0, .slice none 0 0, .int .i64 0, .slice none 0 0] 43)).heap.size (W0.alloc (.cells #[.int .i64 0, .slice none 0 0, .int .i64 0, .slice none 0 0] 43)).drew w3) : Blk w3 W0.heap.size 43 #[.int .i64 0, .slice none 0 0, .int .i64 0, .slice none 0 0] :=
  (Blk.new W0 43 #[.int .i64 0, .slice none 0 0, .int .i64 0, .slice none 0 0]).below ((bdr _).trans hb) (Blk.new W0 43 #[.int .i64 0, .slice none 0 0, .int .i64 0, .slice none 0 0]).lt
set_option maxHeartbeats 4000000 in
theorem value_0 : Calls Tryz.prog 167 #[.slice A 0 c, .slice X m cx] w (FrEnd w (bnd k 0) (valO xs [])) := by
  obtain ⟨W0, hW0⟩ : ∃ W0, W0 = w.alloc (.cells #[.int .i64 0, .slice none 0 0, .int .i64 0, .slice none 0 0] 43) := ⟨_, rfl⟩
  have HB0 : Hid (Below w.heap.size w W0) := by show Below _ _ _; rw [hW0]; exact bal (Below.refl _ _)
  have KB : Hid (Blk W0 w.heap.size 43 #[.int .i64 0, .slice none 0 0, .int .i64 0, .slice none 0 0]) := by show Blk _ _ _ _; rw [hW0]; exact Blk.new _ _ _
  have C := Lib.hid (int_R 0 W0 (by decide) (by decide))
  go_enter Tryz.func167, Tryz.ntmps167
  go_upto_region 1 with (fail)
  rw [← hW0]
  clear hW0
  go_wp2_with fail
  refine C.out.mono ?_
  rintro e w3 ⟨⟨s5, A5, n5, c5, s6, A6, n6, c6⟩, rfl, hc1, hc2, hf, f1, f2, hb⟩
  have K3 := Lib.hid (KB.out.below hb KB.out.lt)
  obtain ⟨kr0, kr1, kr2, kr3, q0, q1, q2, q3⟩ := fr_cells K3.out
  obtain ⟨wf, hwf, r0, r1, r2, r3, kE⟩ := fr_end K3.out (Nat.le_refl _) KB.out.lt (HB0.out.trans (hb.mono HB0.out.size)) hf.1 hf.2 f1 f2 hc1 hc2 (Low.self _)
  have HE := Lib.hid (kE.more (k := bnd k 0) (by show 4 ≤ k + k + 4; omega))
  clear kE hc1 hc2 hf f1 f2 hb C KB
  dsimp only [frV]
  go_wp2_with fail
  rw [← hwf]
  clear hwf
  exact bodyPost_ret (v := .agg #[.int .i64 s5, .slice A5 n5 c5, .int .i64 s6, .slice A6 n6 c6]) (by simp [results, Tryz.results167, go_sem, r0, r1, r2, r3]) rfl HE.out
set_option maxHeartbeats 4000000 in
theorem value_1 (hk : k ≤ 500) (hxs : ∀ x ∈ xs, x.isSome = true) (hl : Ts k w A 1 l) (hx : Xs k w X m xs) (hT : TabZ w) (hin : inV m l) :
    Calls Tryz.prog 167 #[.slice A 1 c, .slice X m cx] w (FrEnd w (bnd k 0) (valO xs l)) := by
  obtain ⟨W0, hW0⟩ : ∃ W0, W0 = w.alloc (.cells #[.int .i64 0, .slice none 0 0, .int .i64 0, .slice none 0 0] 43) := ⟨_, rfl⟩
  have HB0 : Hid (Below w.heap.size w W0) := by show Below _ _ _; rw [hW0]; exact bal (Below.refl _ _)
  have KB : Hid (Blk W0 w.heap.size 43 #[.int .i64 0, .slice none 0 0, .int .i64 0, .slice none 0 0]) := by show Blk _ _ _ _; rw [hW0]; exact Blk.new _ _ _
  obtain ⟨ad, t, r, rfl, hab, hlt, c1, c2, hf, q0, q1, q2, q3, q4⟩ := tm_at (i := 0) (Els.past (TmEl.keeps k) hl HB0.out) (by omega)
  have hl1 : l = [t] := by
    match l, hl.len, hlt with
    | [u], _, h => simp at h; rw [h]
  subst hl1
  obtain ⟨hs, h0, hv⟩ := hin t List.mem_cons_self
  obtain ⟨tv, tc⟩ := t
  dsimp only at hs h0 hv hf q0
  obtain ⟨v, rfl⟩ : ∃ v : Nat, tv = (v : Int) := ⟨tv.toNat, by omega⟩
  have hvm : v < m := by omega
  cases tc with
  | none => cases hs
  | some a =>
  obtain ⟨ad2, x2, r2, rfl, hab2, hlt2, d1, d2, hf2, p0, p1, p2, p3⟩ := fr_at (i := v) (Els.past (FrEl.keeps k) hx HB0.out) hvm
  cases x2 with
  | none => cases hxs _ (List.mem_of_getElem? hlt2)
  | some b =>
  have hval : valO xs [((v : Int), some a)] = a * b := by
    rw [valO_one]
    show a * atX xs (v : Int) = a * b
    congr 1
    unfold atX
    rw [List.getD_eq_getElem?_getD, show ((v : Int)).toNat = v from rfl, hlt2]
    rfl
  rw [hval]
  have C := Lib.hid (fun W (hb : Below W0.heap.size W0 W) => mul_R (w := W) r r2 (Fg.past hf hb) (Fg.past hf2 hb) (hT.on (HB0.out.trans (hb.mono HB0.out.size))) (by omega))
  rw [show (0 * 5 : Nat) = 0 from rfl, add_zero] at q0 q1 q2 q3 q4
  have hvm2 : (v : Int) < (m : Int) := hv
  obtain ⟨s1, A1, n1, k1, s2, A2, n2, k2⟩ := r
  obtain ⟨s3, A3, n3, k3, s4, A4, n4, k4⟩ := r2
  dsimp only [frV] at *
  have HS : Hid (∀ w', Below W0.heap.size W0 w' → (w'.cell? ad = some (.int .i64 (v : Int)) ∧ w'.cell? ⟨ad.block, ad.off + 1, none⟩ = some (.int .i64 s1) ∧ w'.cell? ⟨ad.block, ad.off + 1 + 1, none⟩ = some (.slice A1 n1 k1) ∧ w'.cell? ⟨ad.block, ad.off + 1 + 2, none⟩ = some (.int .i64 s2) ∧ w'.cell? ⟨ad.block, ad.off + 1 + 3, none⟩ = some (.slice A2 n2 k2)) ∧
      w'.cell? (ad2.add (v * 4)) = some (.int .i64 s3) ∧ w'.cell? ⟨(ad2.add (v * 4)).block, (ad2.add (v * 4)).off + 1, none⟩ = some (.slice A3 n3 k3) ∧ w'.cell? ⟨(ad2.add (v * 4)).block, (ad2.add (v * 4)).off + 2, none⟩ = some (.int .i64 s4) ∧ w'.cell? ⟨(ad2.add (v * 4)).block, (ad2.add (v * 4)).off + 3, none⟩ = some (.slice A4 n4 k4)) := fun w' hb => ⟨⟨cell_on hb q0, cell_on hb q1, cell_on hb q2, cell_on hb q3, cell_on hb q4⟩, cell_on hb p0, cell_on hb p1, cell_on hb p2, cell_on hb p3⟩
  clear hf hf2 hl hx hT hin hs hxs hab hab2 hlt hlt2 hval c1 c2 d1 d2 h0 hv
  go_enter Tryz.func167, Tryz.ntmps167
  go_upto_region 1 with (fail)
  rw [← hW0]
  clear hW0
  go_wp2_with fail
  go_region_held3 (fun w' => (w'.cell? ad = some (.int .i64 (v : Int)) ∧ w'.cell? ⟨ad.block, ad.off + 1, none⟩ = some (.int .i64 s1) ∧ w'.cell? ⟨ad.block, ad.off + 1 + 1, none⟩ = some (.slice A1 n1 k1) ∧ w'.cell? ⟨ad.block, ad.off + 1 + 2, none⟩ = some (.int .i64 s2) ∧ w'.cell? ⟨ad.block, ad.off + 1 + 3, none⟩ = some (.slice A2 n2 k2)) ∧
      w'.cell? (ad2.add (v * 4)) = some (.int .i64 s3) ∧ w'.cell? ⟨(ad2.add (v * 4)).block, (ad2.add (v * 4)).off + 1, none⟩ = some (.slice A3 n3 k3) ∧ w'.cell? ⟨(ad2.add (v * 4)).block, (ad2.add (v * 4)).off + 2, none⟩ = some (.int .i64 s4) ∧ w'.cell? ⟨(ad2.add (v * 4)).block, (ad2.add (v * 4)).off + 3, none⟩ = some (.slice A4 n4 k4))
    (first | exact HS.out _ (bdr W0) | with_reducible exact HS.out _ HBX.out | with_reducible exact HS.out _ (bal HBX.out) | with_reducible exact HS.out _ (bal (Below.refl _ _)).drew | with_reducible exact HS.out _ (bal (Below.refl _ _)) | exact HS.out _ (below_4 HBX.out (Nat.le_refl _)))
    (first | (go_at_call 48; (with_reducible refine (C.out W0.drew (bdr W0)).mono ?_); rintro e w3 ⟨⟨s5, A5, n5, c5, s6, A6, n6, c6⟩, rfl, hc1, hc2, hf, f1, f2, hb⟩; have BX := Lib.hid (bx_late hb hf f1 f2 hc1 hc2); have HBX := Lib.hid ((bdr W0).trans hb); clear hb hc1 hc2 hf f1 f2; dsimp only [frV]) | (go_at_call 48; (with_reducible refine (C.out _ (bal (Below.refl _ _)).drew).mono ?_); rintro e w3 ⟨⟨s5, A5, n5, c5, s6, A6, n6, c6⟩, rfl, hc1, hc2, hf, f1, f2, hb⟩; have BX := Lib.hid (bx_early hb hf f1 f2 hc1 hc2); obtain ⟨e0, e1, e2, e3, e4, e5, e6, e7⟩ := fr_cells (bx_box hb); have HBX : Hid (Below W0.heap.size W0 w3) := ((bal (Below.refl _ _)).drew).trans (hb.mono (by simp)); clear hb hc1 hc2 hf f1 f2; dsimp only [frV]))
  all_goals
    dsimp only [frC] at BX
    first
      | (obtain ⟨W4, hW4⟩ : ∃ W4, W4 = w3.alloc (.cells #[.int .i64 s5, .slice A5 n5 c5, .int .i64 s6, .slice A6 n6 c6] 43) := ⟨_, rfl⟩
         rw [← hW4] at BX ⊢
         obtain ⟨g, hg⟩ : ∃ g, g = w3.heap.size := ⟨_, rfl⟩
         rw [← hg] at BX ⊢)
      | (obtain ⟨W4, hW4⟩ : ∃ W4, W4 = (((w3.setCell ⟨W0.heap.size, 0, none⟩ (.int .i64 s5)).setCell ⟨W0.heap.size, 1, none⟩ (.slice A5 n5 c5)).setCell ⟨W0.heap.size, 2, none⟩ (.int .i64 s6)).setCell ⟨W0.heap.size, 3, none⟩ (.slice A6 n6 c6) := ⟨_, rfl⟩
         rw [← hW4] at BX ⊢
         obtain ⟨g, hg⟩ : ∃ g, g = W0.heap.size := ⟨_, rfl⟩
         rw [← hg] at BX ⊢)
    have K4 := Lib.hid (KB.out.below BX.out.bl KB.out.lt)
    clear hW4 hg HBX HS C q0 q1 q2 q3 q4 p0 p1 p2 p3
    obtain ⟨z0, z1, z2, z3, -, -, -, -⟩ := fr_cells BX.out.bk
    dsimp only at z0 z1 z2 z3
    obtain ⟨y0, y1, y2, y3, y4, y5, y6, y7⟩ := fr_cells K4.out
    obtain ⟨wf, hwf, r0, r1, r2, r3, kE⟩ := fr_end K4.out (Nat.le_refl _) KB.out.lt (HB0.out.trans (BX.out.bl.mono HB0.out.size)) BX.out.fg.1 BX.out.fg.2 BX.out.f1 BX.out.f2 BX.out.c1 BX.out.c2 (Low.self _)
    have HE := Lib.hid (kE.more (k := bnd k 0) (by show k + k ≤ k + k + 4; omega))
    clear kE
    go_wp2_with fail
    rw [← hwf]
    clear hwf
    exact bodyPost_ret (v := .agg #[.int .i64 s5, .slice A5 n5 c5, .int .i64 s6, .slice A6 n6 c6]) (by simp [results, Tryz.results167, go_sem, r0, r1, r2, r3]) rfl HE.out
end
end Go.Proofs.YtikfjmdeeknalaaGreatDoor

/- The walk of linear's value at more than one term, and value in general. Conditions: sizes; right terms and fractions; the table of math/bits as its text lays it. -/
namespace Go.Proofs.YtikfjmdeeknalaaGreatDoor
set_option maxRecDepth 20000
open Go.RowKit

/-- Behind 'x, _ := f(..)' in a region that draws its order: the box is made ahead of some calls. -/
theorem bx_mid {W0 Wa Wx w3 : World} {k : Nat} {x : Rat} {r : FrR} (hb0 : Below W0.heap.size W0 Wa) (hb : Below (Wa.alloc (.cells #[.int .i64 0, .slice none 0 0, .int .i64 0, .slice none 0 0] 43)).heap.size (Wa.alloc (.cells #[.int .i64 0, .slice none 0 0, .int .i64 0, .slice none 0 0] 43)) w3) (hf : Fg w3 k x r)
    (hx : (Wa.alloc (.cells #[.int .i64 0, .slice none 0 0, .int .i64 0, .slice none 0 0] 43)).heap.size ≤ Wx.heap.size) (f1 : Fresh Wx r.A1 r.n1) (f2 : Fresh Wx r.A2 r.n2) (c1 : r.n1 ≤ r.c1) (c2 : r.n2 ≤ r.c2) :
    Bx1 W0 ((((w3.setCell ⟨Wa.heap.size, 0, none⟩ (.int .i64 r.s1)).setCell ⟨Wa.heap.size, 1, none⟩ (.slice r.A1 r.n1 r.c1)).setCell ⟨Wa.heap.size, 2, none⟩ (.int .i64 r.s2)).setCell ⟨Wa.heap.size, 3, none⟩ (.slice r.A2 r.n2 r.c2)) Wa.heap.size k x r ∧
    Blk w3 Wa.heap.size 43 #[.int .i64 0, .slice none 0 0, .int .i64 0, .slice none 0 0] := by
  obtain ⟨W1, hW1⟩ : ∃ W1, W1 = Wa.alloc (.cells #[.int .i64 0, .slice none 0 0, .int .i64 0, .slice none 0 0] 43) := ⟨_, rfl⟩
  have hb1 : Below Wa.heap.size Wa W1 := by rw [hW1]; exact bal (Below.refl _ _)
  have hk : Blk W1 Wa.heap.size 43 #[.int .i64 0, .slice none 0 0, .int .i64 0, .slice none 0 0] := by rw [hW1]; exact Blk.new _ _ _
  rw [← hW1] at hb hx
  have hlt := hk.lt
  have ho : Off r Wa.heap.size := off_old f1 f2 (Nat.lt_of_lt_of_le hlt hx)
  have h0 := hb0.size
  have h1 := hb1.size
  exact ⟨⟨below_4 (hb0.trans ((hb1.trans (hb.mono h1)).mono h0)) h0, (hk.below hb hlt).set4, h0, hf.far4 ho, Fresh.old f1 (by omega), Fresh.old f2 (by omega), ho, c1, c2⟩, hk.below hb hlt⟩
/-- .. behind all calls. -/
theorem bx_last {W0 Wx w3 : World} {k : Nat} {x : Rat} {r : FrR} (hb : Below W0.heap.size W0 w3) (hf : Fg w3 k x r) (hx : W0.heap.size ≤ Wx.heap.size) (f1 : Fresh Wx r.A1 r.n1) (f2 : Fresh Wx r.A2 r.n2) (c1 : r.n1 ≤ r.c1) (c2 : r.n2 ≤ r.c2) :
    Bx1 W0 (w3.alloc (.cells (frC r) 43)) w3.heap.size k x r :=
  ⟨bal hb, Blk.new _ _ _, hb.size, hf.al, Fresh.old f1 hx, Fresh.old f2 hx, hf.off_new (Nat.le_refl _), c1, c2⟩
section
variable {k n c cx m K : Nat} {X A : Option Addr} {xs : List (Option Rat)} {l : List (Int × Option Rat)} {w : World}
set_option maxHeartbeats 8000000 in
theorem value_2 (hK : K ≤ 70000) (hl : Ts k w A n l) (h2 : 2 ≤ n) (hnm : n ≤ 1073741824) (hnc : n ≤ c) (hT : TabZ w) {x1 x2 : Rat}
    (C1 : ∀ W, Below w.heap.size w W → Calls Tryz.prog 167 #[.slice A (n / 2) c, .slice X m cx] W (FrEnd W K x1))
    (C2 : ∀ W, Below w.heap.size w W → Calls Tryz.prog 167 #[.slice (if c = n / 2 then A else A.map (·.add (n / 2 * 5))) (n - n / 2) (c - n / 2), .slice X m cx] W (FrEnd W K x2)) :
    Calls Tryz.prog 167 #[.slice A n c, .slice X m cx] w (FrEnd w (K + K + 1) (x1 + x2)) := by
  obtain ⟨W0, hW0⟩ : ∃ W0, W0 = w.alloc (.cells #[.int .i64 0, .slice none 0 0, .int .i64 0, .slice none 0 0] 43) := ⟨_, rfl⟩
  have HB0 : Hid (Below w.heap.size w W0) := by show Below _ _ _; rw [hW0]; exact bal (Below.refl _ _)
  have KB : Hid (Blk W0 w.heap.size 43 #[.int .i64 0, .slice none 0 0, .int .i64 0, .slice none 0 0]) := by show Blk _ _ _ _; rw [hW0]; exact Blk.new _ _ _
  obtain ⟨ad, t, r, rfl, hab, -, -, -, -, -, -, -, -, -⟩ := tm_at (i := 0) hl (by omega)
  obtain ⟨h, hh⟩ : ∃ h, n / 2 = h := ⟨_, rfl⟩
  have hhn : h < n := by omega
  have hh1 : 1 ≤ h := by omega
  have hch : (if c = h then some ad else (some ad).map (·.add (h * 5))) = some (ad.add (h * 5)) := by rw [if_neg (by omega)]; rfl
  rw [hh] at C1 C2
  rw [hch] at C2
  have D1 := Lib.hid (fun W (hb : Below W0.heap.size W0 W) => C1 W (HB0.out.trans (hb.mono HB0.out.size)))
  have D2 := Lib.hid (fun W (hb : Below W0.heap.size W0 W) => C2 W (HB0.out.trans (hb.mono HB0.out.size)))
  have HT : Hid (∀ W, Below W0.heap.size W0 W → TabZ W) := fun W hb => hT.on (HB0.out.trans (hb.mono HB0.out.size))
  have hn0 : ((n : Int) == 0) = false := by simp; omega
  have hn1 : ((n : Int) == 1) = false := by simp; omega
  have hq : Int.tdiv (n : Int) 2 = (h : Int) := by rw [Int.tdiv_eq_ediv_of_nonneg (by omega)]; omega
  have hq2 : (n : Int) / 2 = (h : Int) := by omega
  have hi1 : (h : Int) ≤ (n : Int) := by omega
  have hi2 : (h : Int) ≤ (c : Int) := by omega
  have hi3 : (n : Int) ≤ (c : Int) := by omega
  have hi4 : ¬ c = h := by omega
  have hwr : IntKind.i64.wrap (h : Int) = (h : Int) := IntWalk.i64_in _ (by omega)
  clear hl C1 C2 hT hab hch hh
  go_enter Tryz.func167, Tryz.ntmps167
  go_upto_region 1 with (fail)
  rw [← hW0]
  clear hW0
  go_wp2_with fail
  go_region_held3 (fun _ => True) (exact trivial)
    (first | (go_at_call_of 167 (Value.slice (some ad) h c); refine (D1.out _ (by first | exact bdr _ | exact (bal (Below.refl _ _)).drew)).mono ?_; rintro e w1 ⟨⟨s5, A5, n5, c5, s6, A6, n6, c6⟩, rfl, -, -, hf, -, -, hb⟩; have B1 : Hid (Below W0.heap.size W0 w1) := (by first | exact (bdr _).trans hb | exact ((bal (Below.refl _ _)).drew).trans (hb.mono (by simp))); have HBa := Lib.hid hb; have HF1 := Lib.hid hf; clear hb hf; dsimp only [frV]) | (go_at_call_of 167 (Value.slice (some (ad.add (h * 5))) (n - h) (c - h)); refine (D2.out _ (by first | exact B1.out | exact bal B1.out)).mono ?_; rintro e w2 ⟨⟨s7, A7, n7, c7, s8, A8, n8, c8⟩, rfl, -, -, hf, -, -, hb⟩; have B2 : Hid (Below W0.heap.size W0 w2) := (by first | exact B1.out.trans (hb.mono B1.out.size) | exact (bal B1.out).trans (hb.mono (bal B1.out).size)); have HBb := Lib.hid hb; have HF3 : Hid (Fg w2 K x1 ⟨s5, A5, n5, c5, s6, A6, n6, c6⟩) := (by first | exact HF1.out.past hb | exact (HF1.out.al).past hb); have HF2 := Lib.hid hf; clear hb hf; dsimp only [frV]) | (go_at_call 43; refine (add_R ⟨s5, A5, n5, c5, s6, A6, n6, c6⟩ ⟨s7, A7, n7, c7, s8, A8, n8, c8⟩ (by first | exact HF3.out | exact HF3.out.al) (by first | exact HF2.out | exact HF2.out.al) (HT.out _ (by first | exact B2.out | exact bal B2.out)) (by omega)).mono ?_; rintro e w3 ⟨⟨s9, A9, n9, c9, s10, A10, n10, c10⟩, rfl, hc1, hc2, hf, f1, f2, hb⟩; (first | (refine (bx_mid (Wa := w2) B2.out hb hf (Nat.le_refl _) f1 f2 hc1 hc2).elim fun bx bk => ?_; have BX := Lib.hid bx; obtain ⟨e0, e1, e2, e3, e4, e5, e6, e7⟩ := fr_cells bk; clear bx bk) | (refine (bx_mid (Wa := w1) B1.out (HBb.out.trans (hb.mono HBb.out.size)) hf HBb.out.size f1 f2 hc1 hc2).elim fun bx bk => ?_; have BX := Lib.hid bx; obtain ⟨e0, e1, e2, e3, e4, e5, e6, e7⟩ := fr_cells bk; clear bx bk) | (refine (bx_mid (W0 := W0) (Wa := W0) (Below.refl _ _) (((bdr _).trans (HBa.out.trans ((HBb.out.trans (hb.mono HBb.out.size)).mono HBa.out.size)))) hf (Nat.le_trans HBa.out.size HBb.out.size) f1 f2 hc1 hc2).elim fun bx bk => ?_; have BX := Lib.hid bx; obtain ⟨e0, e1, e2, e3, e4, e5, e6, e7⟩ := fr_cells bk; clear bx bk) | (have BX := Lib.hid (bx_last (B2.out.trans (hb.mono B2.out.size)) hf B2.out.size f1 f2 hc1 hc2); dsimp only [frC] at BX)); clear hb hc1 hc2 hf f1 f2; dsimp only [frV]))
  all_goals
    first
      | (obtain ⟨W4, hW4⟩ : ∃ W4, W4 = w3.alloc (.cells #[.int .i64 s9, .slice A9 n9 c9, .int .i64 s10, .slice A10 n10 c10] 43) := ⟨_, rfl⟩
         rw [← hW4] at BX ⊢
         obtain ⟨g, hg⟩ : ∃ g, g = w3.heap.size := ⟨_, rfl⟩
         rw [← hg] at BX ⊢)
      | (obtain ⟨g, hg⟩ : ∃ g, g = W0.heap.size := ⟨_, rfl⟩
         rw [← hg] at BX ⊢
         obtain ⟨W4, hW4⟩ : ∃ W4, W4 = (((w3.setCell ⟨g, 0, none⟩ (.int .i64 s9)).setCell ⟨g, 1, none⟩ (.slice A9 n9 c9)).setCell ⟨g, 2, none⟩ (.int .i64 s10)).setCell ⟨g, 3, none⟩ (.slice A10 n10 c10) := ⟨_, rfl⟩
         rw [← hW4] at BX ⊢)
      | (obtain ⟨g, hg⟩ : ∃ g, g = w1.heap.size := ⟨_, rfl⟩
         rw [← hg] at BX ⊢
         obtain ⟨W4, hW4⟩ : ∃ W4, W4 = (((w3.setCell ⟨g, 0, none⟩ (.int .i64 s9)).setCell ⟨g, 1, none⟩ (.slice A9 n9 c9)).setCell ⟨g, 2, none⟩ (.int .i64 s10)).setCell ⟨g, 3, none⟩ (.slice A10 n10 c10) := ⟨_, rfl⟩
         rw [← hW4] at BX ⊢)
      | (obtain ⟨g, hg⟩ : ∃ g, g = w2.heap.size := ⟨_, rfl⟩
         rw [← hg] at BX ⊢
         obtain ⟨W4, hW4⟩ : ∃ W4, W4 = (((w3.setCell ⟨g, 0, none⟩ (.int .i64 s9)).setCell ⟨g, 1, none⟩ (.slice A9 n9 c9)).setCell ⟨g, 2, none⟩ (.int .i64 s10)).setCell ⟨g, 3, none⟩ (.slice A10 n10 c10) := ⟨_, rfl⟩
         rw [← hW4] at BX ⊢)
    have K4 := Lib.hid (KB.out.below BX.out.bl KB.out.lt)
    clear hW4 hg D1 D2 HT HF1 HF2 HF3 HBa HBb B1 B2
    obtain ⟨z0, z1, z2, z3, -, -, -, -⟩ := fr_cells BX.out.bk
    dsimp only at z0 z1 z2 z3
    obtain ⟨y0, y1, y2, y3, y4, y5, y6, y7⟩ := fr_cells K4.out
    obtain ⟨wf, hwf, r0, r1, r2, r3, kE⟩ := fr_end K4.out (Nat.le_refl _) KB.out.lt (HB0.out.trans (BX.out.bl.mono HB0.out.size)) BX.out.fg.1 BX.out.fg.2 BX.out.f1 BX.out.f2 BX.out.c1 BX.out.c2 (Low.self _)
    have HE := Lib.hid kE
    clear kE
    go_wp2_with fail
    rw [← hwf]
    clear hwf
    exact bodyPost_ret (v := .agg #[.int .i64 s9, .slice A9 n9 c9, .int .i64 s10, .slice A10 n10 c10]) (by simp [results, Tryz.results167, go_sem, r0, r1, r2, r3]) rfl HE.out
theorem inV_take {m h : Nat} {l : List (Int × Option Rat)} (hi : inV m l) : inV m (l.take h) := fun t ht => hi t (List.mem_of_mem_take ht)
theorem inV_drop {m h : Nat} {l : List (Int × Option Rat)} (hi : inV m l) : inV m (l.drop h) := fun t ht => hi t (List.mem_of_mem_drop ht)
end
theorem value_R {k m cx : Nat} {X : Option Addr} {xs : List (Option Rat)} (hk : k ≤ 500) (hxs : ∀ x ∈ xs, x.isSome = true) : ∀ (d : Nat), d ≤ 6 → ∀ {n : Nat}, n ≤ 2 ^ d → ∀ {A : Option Addr} {c : Nat} {l : List (Int × Option Rat)} {w : World}, n ≤ c → Ts k w A n l → Xs k w X m xs → TabZ w → inV m l →
    Calls Tryz.prog 167 #[.slice A n c, .slice X m cx] w (FrEnd w (bnd k d) (valO xs l)) := by
  have small : ∀ d n, n ≤ 1 → ∀ {A : Option Addr} {c : Nat} {l : List (Int × Option Rat)} {w : World}, n ≤ c → Ts k w A n l → Xs k w X m xs → TabZ w → inV m l → Calls Tryz.prog 167 #[.slice A n c, .slice X m cx] w (FrEnd w (bnd k d) (valO xs l)) := by
    intro d n hn A c l w hnc hl hx hT hin
    have hb : bnd k 0 ≤ bnd k d := bnd_le k d
    rcases Nat.eq_zero_or_pos n with h0 | h0
    · subst h0
      obtain rfl : l = [] := List.eq_nil_of_length_eq_zero hl.len
      exact value_0.mono fun _ _ h => h.more hb
    · obtain rfl : n = 1 := by omega
      exact (value_1 hk hxs hl hx hT hin).mono fun _ _ h => h.more hb
  intro d
  induction d with
  | zero =>
    intro _ n hn A c l w hnc hl hx hT hin
    exact small 0 n (by simpa using hn) hnc hl hx hT hin
  | succ d ih =>
    intro hd n hn A c l w hnc hl hx hT hin
    by_cases h2 : n ≤ 1
    · exact small (d + 1) n h2 hnc hl hx hT hin
    have e : 2 ^ (d + 1) = 2 * 2 ^ d := by rw [Nat.pow_succ, Nat.mul_comm]
    have h6 : 2 ^ d ≤ 2 ^ 6 := Nat.pow_le_pow_right (by decide) (by omega)
    have e6 : (2 : Nat) ^ 6 = 64 := rfl
    have hv := valO_half xs l (n / 2)
    rw [← hv]
    exact value_2 (bnd_six hk d (by omega)) hl (by omega) (by omega) hnc hT
      (fun W hb => ih (by omega) (by omega) (by omega) ((hl.take (by omega)).past (TmEl.keeps k) hb) (hx.past (FrEl.keeps k) hb) (hT.on hb) (inV_take hin))
      (fun W hb => ih (by omega) (by omega) (by omega) ((hl.cut (by omega) hnc).past (TmEl.keeps k) hb) (hx.past (FrEl.keeps k) hb) (hT.on hb) (inV_drop hin))
end Go.Proofs.YtikfjmdeeknalaaGreatDoor
