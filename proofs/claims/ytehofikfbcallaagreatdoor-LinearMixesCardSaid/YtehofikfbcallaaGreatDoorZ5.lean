/- The law's mixed, plainly and in memory; the walk of LinearMixes. Conditions: the arguments' memory; the table of math/bits as its text lays it. -/
import Derived.Test.YtehofikfbcallaaGreatDoorY4
namespace Go.Proofs.YtehofikfbcallaaGreatDoor
set_option maxRecDepth 20000
open Go.RowKit

/-- A mixture of two lists. -/
def mixQ (t : Rat) (a b : List Rat) : List Rat := List.zipWith (fun x y => t * x + (1 - t) * y) a b
theorem mix_len {t : Rat} {a b : List Rat} {n : Nat} (ha : a.length = n) (hb : b.length = n) : (mixQ t a b).length = n := by
  unfold mixQ; rw [List.length_zipWith]; omega
theorem mix_at {t x y : Rat} {a b : List Rat} {j : Nat} (ha : a[j]? = some x) (hb : b[j]? = some y) : ((mixQ t a b).map some)[j]? = some (some (t * x + (1 - t) * y)) := by
  unfold mixQ
  rw [List.getElem?_map, List.getElem?_zipWith, ha, hb]
  rfl
theorem map_at {a : List Rat} {j : Nat} {x : Option Rat} (h : (a.map some)[j]? = some x) : ∃ y, a[j]? = some y ∧ x = some y := by
  rw [List.getElem?_map, Option.map_eq_some_iff] at h
  obtain ⟨y, h1, h2⟩ := h
  exact ⟨y, h1, h2.symm⟩
def MixEnd (w : World) (n : Nat) (l : List Rat) (e : Ending) (w' : World) : Prop := ∃ A c, e = .returned (.slice A n c) ∧ n ≤ c ∧ Xs 69 w' A n (l.map some) ∧ Below w.heap.size w w'
theorem infoFr : (Tryz.prog.info? 27).map (fun i => (i.zero, i.size, i.bytes)) = some (some (.agg #[.int .i64 0, .slice none 0 0, .int .i64 0, .slice none 0 0]), 4, 64) := by kernel_rfl
/-- An append to a list of fractions that is built, of a new one. -/
theorem app_frac {w wr w1 : World} {K q : Nat} {v : Value} {L : List (Option Rat)} {x : Rat} {r : FrR} (hM : Mk (FrEl K) 4 27 w wr v q L) (hB : Below w.heap.size w wr) (hb : Below wr.heap.size wr w1)
    (hf : Fg w1 K x r) (f1 : Fresh wr r.A1 r.n1) (f2 : Fresh wr r.A2 r.n2) (c1 : r.n1 ≤ r.c1) (c2 : r.n2 ≤ r.c2) :
    ∃ xs, (w1.alloc (.cells (frC r) 27)).ownsRow w.heap.size 27 4 v q xs ∧
      Reads (w1.alloc (.cells (frC r) 27)) (w1.heap.size + 1) 4 (some ⟨w1.heap.size, 0, none⟩) 1 (frL r) ∧
      (∀ y ∈ frL r, y.oneCell' = true) ∧ w.heap.size ≤ (w1.alloc (.cells (frC r) 27)).heap.size ∧
      ∀ v' w2, w2.ownsRow w.heap.size 27 4 v' (q + 1) (xs ++ frL r) → (w1.alloc (.cells (frC r) 27)).grownBy w2 v.ownBlock →
        (v'.ownBlock = v.ownBlock ∨ v'.ownBlock = some (w1.alloc (.cells (frC r) 27)).heap.size) →
        Mk (FrEl K) 4 27 w w2 v' (q + 1) (L ++ [some x]) ∧ Below w.heap.size w w2 := by
  obtain ⟨W, hW⟩ : ∃ W, W = w1.alloc (.cells (frC r) 27) := ⟨_, rfl⟩
  have hb2 : Below wr.heap.size wr W := by rw [hW]; exact bal hb
  have hfW : Fg W K x r := by rw [hW]; exact hf.al
  have hk : Blk W w1.heap.size 27 (frC r) := by rw [hW]; exact Blk.new _ _ _
  have hsz : W.heap.size = w1.heap.size + 1 := by rw [hW]; simp
  rw [← hW]
  clear hW
  obtain ⟨ps, h1, h2, h3, h4⟩ := hM
  have hB2 := hB.trans (hb2.mono hB.size)
  refine ⟨ps.flatten, own_on h1 hb2, ⟨rfl, fun _ => ⟨_, rfl, by simp, fun j y hj => ?_⟩⟩, frL_one r, hB2.size, fun v' w2 p1 p2 p3 => ⟨?_, hB2.grown p2 hB2.size (fun g e => (h1.lt g e).1)⟩⟩
  · rw [show (Addr.mk w1.heap.size 0 none).add j = ⟨w1.heap.size, j, none⟩ from by simp [Addr.add]; omega, hk.cell j]
    simpa [frL, frC] using hj
  · refine Mk.step (FrEl.keeps K) (ps := ps) (cs := frL r) h2 h3 (fun i a hi => ?_) rfl ⟨r, rfl, c1, c2, hfW⟩ (fun g hg => FrEl.ap hfW c1 c2 (off_old f1 f2 (h1.lt g hg).2)) p1 p2 p3
    obtain ⟨cs, d1, d2, d3, d4⟩ := h4 i a hi
    exact ⟨cs, d1, d2, FrEl.keeps K _ _ _ _ d3 hb2, fun g hg => (d4 g hg).past hb2⟩

set_option maxHeartbeats 64000000 in
theorem mixed_T {X Y : Option Addr} {n cx cy : Nat} {a b : List Rat} {t : Rat} (rp : FrR) (w : World) (hx : Xs 8 w X n (a.map some)) (hy : Xs 8 w Y n (b.map some)) (hp : Fg w 8 t rp) (hT : TabZ w) (hn : n ≤ 1000) :
    Calls Tryz.prog 22 #[.slice X n cx, .slice Y n cy, frV rp] w (MixEnd w n (mixQ t a b)) := by
  obtain ⟨W0, hW0⟩ : ∃ W0, W0 = w.alloc (.cells (frC rp) 27) := ⟨_, rfl⟩
  have B0 : Hid (Below w.heap.size w W0) := by show Below _ _ _; rw [hW0]; exact bal (Below.refl _ _)
  have Kp : Hid (Blk W0 w.heap.size 27 (frC rp)) := by show Blk _ _ _ _; rw [hW0]; exact Blk.new _ _ _
  have Fp := Lib.hid (Fg.past hp B0.out)
  have HT := Lib.hid (hT.on B0.out)
  have Xx := Lib.hid (hx.past (FrEl.keeps _) B0.out)
  have Yy := Lib.hid (hy.past (FrEl.keeps _) B0.out)
  have hla : a.length = n := by have := hx.len; rw [List.length_map] at this; exact this
  have hlb : b.length = n := by have := hy.len; rw [List.length_map] at this; exact this
  clear hp hT hx hy
  obtain ⟨sp, Ap, np, cp, tp, Bp, mp, dp⟩ := rp
  dsimp only [frV, frC] at *
  obtain ⟨y0, y1, y2, y3, -, -, -, -⟩ := fr_cells Kp.out
  obtain ⟨gp, hgp⟩ : ∃ g, g = w.heap.size := ⟨_, rfl⟩
  rw [← hgp] at Kp y0 y1 y2 y3
  have HS : Hid (∀ w', Below W0.heap.size W0 w' → w'.cell? ⟨gp, 0, none⟩ = some (.int .i64 sp) ∧ w'.cell? ⟨gp, 1, none⟩ = some (.slice Ap np cp) ∧ w'.cell? ⟨gp, 2, none⟩ = some (.int .i64 tp) ∧ w'.cell? ⟨gp, 3, none⟩ = some (.slice Bp mp dp)) := fun w' hb => ⟨cell_on hb y0, cell_on hb y1, cell_on hb y2, cell_on hb y3⟩
  clear y0 y1 y2 y3
  go_enter Tryz.func22, Tryz.ntmps22
  go_upto_region 1 with (fail)
  rw [← hW0]
  clear hW0
  rw [← hgp]
  clear hgp
  go_wp2_with fail
  go_region_held3 (fun w' => w'.cell? ⟨gp, 0, none⟩ = some (.int .i64 sp) ∧ w'.cell? ⟨gp, 1, none⟩ = some (.slice Ap np cp) ∧ w'.cell? ⟨gp, 2, none⟩ = some (.int .i64 tp) ∧ w'.cell? ⟨gp, 3, none⟩ = some (.slice Bp mp dp))
    (first | exact HS.out _ (bdr W0) | with_reducible exact HS.out _ HBX.out | with_reducible exact HS.out _ (bal HBX.out) | with_reducible exact HS.out _ B1.out | with_reducible exact HS.out _ (bal B1.out) | with_reducible exact HS.out _ (bal (Below.refl _ _)).drew | with_reducible exact HS.out _ (bal (Below.refl _ _)) | exact HS.out _ (below_4 HBX.out (Nat.le_refl _)) | exact HS.out _ (below_4 HBX.out B1.out.size))
    (first | (go_at_call 47; refine (int_R 1 _ (by decide) (by decide)).mono ?_; rintro e w1 ⟨⟨si, Ai, ni, ci, ti, Bi, mi, di⟩, rfl, -, -, hf, -, -, hb⟩; have B1 : Hid (Below W0.heap.size W0 w1) := (by first | exact (bdr _).trans hb | exact ((bal (Below.refl _ _)).drew).trans (hb.mono (by simp))); have HBa := Lib.hid hb; have HF1 := Lib.hid hf; clear hb hf; dsimp only [frV]) | (go_at_call 46; refine (sub_R (k := 8) ⟨si, Ai, ni, ci, ti, Bi, mi, di⟩ ⟨sp, Ap, np, cp, tp, Bp, mp, dp⟩ (by first | exact HF1.out.more (by decide) | exact (HF1.out.more (by decide)).al) (by first | exact Fg.past Fp.out B1.out | exact Fg.past Fp.out (bal B1.out)) (HT.out.on (by first | exact B1.out | exact bal B1.out)) (by decide)).mono ?_; rintro e w3 ⟨⟨sr, Ar, nr, cr, tr, Br, mr, dr⟩, rfl, hc1, hc2, hf, f1, f2, hb⟩; have HBX : Hid (Below W0.heap.size W0 w3) := (by first | exact B1.out.trans (hb.mono B1.out.size) | exact (bal B1.out).trans (hb.mono (bal B1.out).size)); (first | (refine (bx_mid (Wa := w1) B1.out hb hf (Nat.le_refl _) f1 f2 hc1 hc2).elim fun bx bk => ?_; have BX := Lib.hid bx; obtain ⟨e0, e1, e2, e3, e4, e5, e6, e7⟩ := fr_cells bk; clear bx bk) | (refine (bx_mid (W0 := W0) (Wa := W0) (Below.refl _ _) ((bdr _).trans (HBa.out.trans (hb.mono HBa.out.size))) hf HBa.out.size f1 f2 hc1 hc2).elim fun bx bk => ?_; have BX := Lib.hid bx; obtain ⟨e0, e1, e2, e3, e4, e5, e6, e7⟩ := fr_cells bk; clear bx bk) | (have BX := Lib.hid (bx_last (B1.out.trans (hb.mono B1.out.size)) hf B1.out.size f1 f2 hc1 hc2); dsimp only [frC] at BX)); clear hb hc1 hc2 hf f1 f2; dsimp only [frV]))
  all_goals
    first
    | (obtain ⟨W4, hW4⟩ : ∃ W4, W4 = w3.alloc (.cells #[.int .i64 sr, .slice Ar nr cr, .int .i64 tr, .slice Br mr dr] 27) := ⟨_, rfl⟩
       rw [← hW4] at BX ⊢
       obtain ⟨g, hg⟩ : ∃ g, g = w3.heap.size := ⟨_, rfl⟩
       rw [← hg] at BX ⊢)
    | (obtain ⟨W4, hW4⟩ : ∃ W4, W4 = (((w3.setCell ⟨W0.heap.size, 0, none⟩ (.int .i64 sr)).setCell ⟨W0.heap.size, 1, none⟩ (.slice Ar nr cr)).setCell ⟨W0.heap.size, 2, none⟩ (.int .i64 tr)).setCell ⟨W0.heap.size, 3, none⟩ (.slice Br mr dr) := ⟨_, rfl⟩
       rw [← hW4] at BX ⊢
       obtain ⟨g, hg⟩ : ∃ g, g = W0.heap.size := ⟨_, rfl⟩
       rw [← hg] at BX ⊢)
    | (obtain ⟨W4, hW4⟩ : ∃ W4, W4 = (((w3.setCell ⟨w1.heap.size, 0, none⟩ (.int .i64 sr)).setCell ⟨w1.heap.size, 1, none⟩ (.slice Ar nr cr)).setCell ⟨w1.heap.size, 2, none⟩ (.int .i64 tr)).setCell ⟨w1.heap.size, 3, none⟩ (.slice Br mr dr) := ⟨_, rfl⟩
       rw [← hW4] at BX ⊢
       obtain ⟨g, hg⟩ : ∃ g, g = w1.heap.size := ⟨_, rfl⟩
       rw [← hg] at BX ⊢)
    have B4 := Lib.hid (B0.out.trans (BX.out.bl.mono B0.out.size))
    have Kp4 := Lib.hid (Kp.out.below BX.out.bl Kp.out.lt)
    have Fp4 := Lib.hid (Fg.past Fp.out BX.out.bl)
    have HT4 := Lib.hid (HT.out.on BX.out.bl)
    have Xx4 := Lib.hid (Xx.out.past (FrEl.keeps _) BX.out.bl)
    have Yy4 := Lib.hid (Yy.out.past (FrEl.keeps _) BX.out.bl)
    have Kr4 := Lib.hid BX.out.bk
    have Fr4 : Hid (Fg W4 17 (1 - t) ⟨sr, Ar, nr, cr, tr, Br, mr, dr⟩) := BX.out.fg
    clear hW4 hg HBX HBa HF1 B1 HS BX Kp Fp HT Xx Yy
    dsimp only [frC] at Kr4
    go_wp2_with fail
    go_loopw [9, 10] (fun s9 i wr => ∃ (j : Nat) (v : Value), v = s9 ∧ j ≤ n ∧ i = .int .i64 j ∧ Hid (Mk (FrEl 69) 4 27 W4 wr v j (((mixQ t a b).map some).take j)) ∧ Hid (Below W4.heap.size W4 wr)) (fun _ i _ => n - (RowKit.intOf i).toNat)
    case atStart => exact ⟨0, _, rfl, Nat.zero_le _, rfl, Mk.nil _ _ _, Below.refl _ _⟩
    case round =>
      obtain ⟨j, v, rfl, hj, rfl, HM, HB⟩ := hrel
      by_cases hlt : j < n
      · have hjc : (j : Int) < (n : Int) := by omega
        obtain ⟨ad, xx, ⟨sx, Ax, nx, cx, tx, Bx, mx, dx⟩, rfl, -, hxa, -, -, hfx, p0, p1, p2, p3⟩ := fr_at (Xx4.out.past (FrEl.keeps _) HB.out) hlt
        obtain ⟨ad2, yy, ⟨sy, Ay, ny, cy, ty, By, my, dy⟩, rfl, -, hyb, -, -, hfy, q0, q1, q2, q3⟩ := fr_at (Yy4.out.past (FrEl.keeps _) HB.out) hlt
        obtain ⟨xq, hxq, rfl⟩ := map_at hxa
        obtain ⟨yq, hyq, rfl⟩ := map_at hyb
        have hz := mix_at (t := t) hxq hyq
        dsimp only at p0 p1 p2 p3 q0 q1 q2 q3
        obtain ⟨y0, y1, y2, y3, -, -, -, -⟩ := fr_cells (Kp4.out.below HB.out Kp4.out.lt)
        obtain ⟨z0, z1, z2, z3, -, -, -, -⟩ := fr_cells (Kr4.out.below HB.out Kr4.out.lt)
        obtain ⟨i0, hi, hz0, hz1, hz2⟩ := info_parts infoFr
        have HS : Hid (∀ w', Below wr.heap.size wr w' → (w'.cell? ⟨gp, 0, none⟩ = some (.int .i64 sp) ∧ w'.cell? ⟨gp, 1, none⟩ = some (.slice Ap np cp) ∧ w'.cell? ⟨gp, 2, none⟩ = some (.int .i64 tp) ∧ w'.cell? ⟨gp, 3, none⟩ = some (.slice Bp mp dp)) ∧ w'.cell? (ad.add (j * 4)) = some (.int .i64 sx) ∧ w'.cell? ⟨(ad.add (j * 4)).block, (ad.add (j * 4)).off + 1, none⟩ = some (.slice Ax nx cx) ∧ w'.cell? ⟨(ad.add (j * 4)).block, (ad.add (j * 4)).off + 2, none⟩ = some (.int .i64 tx) ∧ w'.cell? ⟨(ad.add (j * 4)).block, (ad.add (j * 4)).off + 3, none⟩ = some (.slice Bx mx dx)) := fun w' hb => ⟨⟨cell_on hb y0, cell_on hb y1, cell_on hb y2, cell_on hb y3⟩, cell_on hb p0, cell_on hb p1, cell_on hb p2, cell_on hb p3⟩
        have HQ : Hid (∀ w', Below wr.heap.size wr w' → (w'.cell? ⟨g, 0, none⟩ = some (.int .i64 sr) ∧ w'.cell? ⟨g, 1, none⟩ = some (.slice Ar nr cr) ∧ w'.cell? ⟨g, 2, none⟩ = some (.int .i64 tr) ∧ w'.cell? ⟨g, 3, none⟩ = some (.slice Br mr dr)) ∧ w'.cell? (ad2.add (j * 4)) = some (.int .i64 sy) ∧ w'.cell? ⟨(ad2.add (j * 4)).block, (ad2.add (j * 4)).off + 1, none⟩ = some (.slice Ay ny cy) ∧ w'.cell? ⟨(ad2.add (j * 4)).block, (ad2.add (j * 4)).off + 2, none⟩ = some (.int .i64 ty) ∧ w'.cell? ⟨(ad2.add (j * 4)).block, (ad2.add (j * 4)).off + 3, none⟩ = some (.slice By my dy)) := fun w' hb => ⟨⟨cell_on hb z0, cell_on hb z1, cell_on hb z2, cell_on hb z3⟩, cell_on hb q0, cell_on hb q1, cell_on hb q2, cell_on hb q3⟩
        have C := Lib.hid (fun W (hb : Below wr.heap.size wr W) => mul_R (w := W) (k := 8) ⟨sp, Ap, np, cp, tp, Bp, mp, dp⟩ ⟨sx, Ax, nx, cx, tx, Bx, mx, dx⟩ (Fg.past Fp4.out (HB.out.trans (hb.mono HB.out.size))) (Fg.past hfx hb) (HT4.out.on (HB.out.trans (hb.mono HB.out.size))) (by decide))
        have HY : Hid (∀ W, Below wr.heap.size wr W → Fg W 8 yq ⟨sy, Ay, ny, cy, ty, By, my, dy⟩) := fun W hb => Fg.past hfy hb
        dsimp only [frV] at C
        clear hfx hfy hxa hyb hxq hyq p0 p1 p2 p3 q0 q1 q2 q3 y0 y1 y2 y3 z0 z1 z2 z3
        go_wp2_with fail
        go_region_held3 (fun w' => (w'.cell? ⟨gp, 0, none⟩ = some (.int .i64 sp) ∧ w'.cell? ⟨gp, 1, none⟩ = some (.slice Ap np cp) ∧ w'.cell? ⟨gp, 2, none⟩ = some (.int .i64 tp) ∧ w'.cell? ⟨gp, 3, none⟩ = some (.slice Bp mp dp)) ∧ w'.cell? (ad.add (j * 4)) = some (.int .i64 sx) ∧ w'.cell? ⟨(ad.add (j * 4)).block, (ad.add (j * 4)).off + 1, none⟩ = some (.slice Ax nx cx) ∧ w'.cell? ⟨(ad.add (j * 4)).block, (ad.add (j * 4)).off + 2, none⟩ = some (.int .i64 tx) ∧ w'.cell? ⟨(ad.add (j * 4)).block, (ad.add (j * 4)).off + 3, none⟩ = some (.slice Bx mx dx))
          (first | exact HS.out _ (bdr wr) | with_reducible exact HS.out _ HBX.out | with_reducible exact HS.out _ (bal HBX.out) | with_reducible exact HS.out _ (bal (Below.refl _ _)).drew | with_reducible exact HS.out _ (bal (Below.refl _ _)) | exact HS.out _ (below_4 HBX.out (Nat.le_refl _)))
          (first | (go_at_call 16; (with_reducible refine (C.out wr.drew (bdr wr)).mono ?_); rintro e w3 ⟨⟨su, Au, nu, cu, tu, Bu, mu, du⟩, rfl, hc1, hc2, hf, f1, f2, hb⟩; have BX := Lib.hid (bx_late hb hf f1 f2 hc1 hc2); have HBX := Lib.hid ((bdr wr).trans hb); clear hb hc1 hc2 hf f1 f2; dsimp only [frV]) | (go_at_call 16; (with_reducible refine (C.out _ (bal (Below.refl _ _)).drew).mono ?_); rintro e w3 ⟨⟨su, Au, nu, cu, tu, Bu, mu, du⟩, rfl, hc1, hc2, hf, f1, f2, hb⟩; have BX := Lib.hid (bx_early hb hf f1 f2 hc1 hc2); obtain ⟨e0, e1, e2, e3, e4, e5, e6, e7⟩ := fr_cells (bx_box hb); have HBX : Hid (Below wr.heap.size wr w3) := ((bal (Below.refl _ _)).drew).trans (hb.mono (by simp)); clear hb hc1 hc2 hf f1 f2; dsimp only [frV]))
        all_goals
          dsimp only [frC] at BX
          first
          | (obtain ⟨W5, hW5⟩ : ∃ W5, W5 = w3.alloc (.cells #[.int .i64 su, .slice Au nu cu, .int .i64 tu, .slice Bu mu du] 27) := ⟨_, rfl⟩
             rw [← hW5] at BX ⊢
             obtain ⟨gu, hgu⟩ : ∃ gu, gu = w3.heap.size := ⟨_, rfl⟩
             rw [← hgu] at BX ⊢)
          | (obtain ⟨W5, hW5⟩ : ∃ W5, W5 = (((w3.setCell ⟨wr.heap.size, 0, none⟩ (.int .i64 su)).setCell ⟨wr.heap.size, 1, none⟩ (.slice Au nu cu)).setCell ⟨wr.heap.size, 2, none⟩ (.int .i64 tu)).setCell ⟨wr.heap.size, 3, none⟩ (.slice Bu mu du) := ⟨_, rfl⟩
             rw [← hW5] at BX ⊢
             obtain ⟨gu, hgu⟩ : ∃ gu, gu = wr.heap.size := ⟨_, rfl⟩
             rw [← hgu] at BX ⊢)
        
          have BU := BX
          clear BX hW5 hgu HBX HS C
          have HQ5 : Hid (∀ w', Below W5.heap.size W5 w' → (w'.cell? ⟨g, 0, none⟩ = some (.int .i64 sr) ∧ w'.cell? ⟨g, 1, none⟩ = some (.slice Ar nr cr) ∧ w'.cell? ⟨g, 2, none⟩ = some (.int .i64 tr) ∧ w'.cell? ⟨g, 3, none⟩ = some (.slice Br mr dr)) ∧ w'.cell? (ad2.add (j * 4)) = some (.int .i64 sy) ∧ w'.cell? ⟨(ad2.add (j * 4)).block, (ad2.add (j * 4)).off + 1, none⟩ = some (.slice Ay ny cy) ∧ w'.cell? ⟨(ad2.add (j * 4)).block, (ad2.add (j * 4)).off + 2, none⟩ = some (.int .i64 ty) ∧ w'.cell? ⟨(ad2.add (j * 4)).block, (ad2.add (j * 4)).off + 3, none⟩ = some (.slice By my dy)) := fun w' hb => HQ.out w' (BU.out.bl.trans (hb.mono BU.out.bl.size))
          have HS := HQ5
          have C := Lib.hid (fun W (hb : Below W5.heap.size W5 W) => mul_R (w := W) (k := 17) ⟨sr, Ar, nr, cr, tr, Br, mr, dr⟩ ⟨sy, Ay, ny, cy, ty, By, my, dy⟩ (Fg.past Fr4.out (HB.out.trans ((BU.out.bl.trans (hb.mono BU.out.bl.size)).mono HB.out.size))) ((HY.out W (BU.out.bl.trans (hb.mono BU.out.bl.size))).more (by decide)) (HT4.out.on (HB.out.trans ((BU.out.bl.trans (hb.mono BU.out.bl.size)).mono HB.out.size))) (by decide))
          dsimp only [frV] at C
          clear HQ HQ5
          go_wp2_with fail
          go_region_held3 (fun w' => (w'.cell? ⟨g, 0, none⟩ = some (.int .i64 sr) ∧ w'.cell? ⟨g, 1, none⟩ = some (.slice Ar nr cr) ∧ w'.cell? ⟨g, 2, none⟩ = some (.int .i64 tr) ∧ w'.cell? ⟨g, 3, none⟩ = some (.slice Br mr dr)) ∧ w'.cell? (ad2.add (j * 4)) = some (.int .i64 sy) ∧ w'.cell? ⟨(ad2.add (j * 4)).block, (ad2.add (j * 4)).off + 1, none⟩ = some (.slice Ay ny cy) ∧ w'.cell? ⟨(ad2.add (j * 4)).block, (ad2.add (j * 4)).off + 2, none⟩ = some (.int .i64 ty) ∧ w'.cell? ⟨(ad2.add (j * 4)).block, (ad2.add (j * 4)).off + 3, none⟩ = some (.slice By my dy))
            (first | exact HS.out _ (bdr W5) | with_reducible exact HS.out _ HBX.out | with_reducible exact HS.out _ (bal HBX.out) | with_reducible exact HS.out _ (bal (Below.refl _ _)).drew | with_reducible exact HS.out _ (bal (Below.refl _ _)) | exact HS.out _ (below_4 HBX.out (Nat.le_refl _)))
            (first | (go_at_call 16; (with_reducible refine (C.out W5.drew (bdr W5)).mono ?_); rintro e w3 ⟨⟨sv, Av, nv, cv, tv, Bv, mv, dv⟩, rfl, hc1, hc2, hf, f1, f2, hb⟩; have BX := Lib.hid (bx_late hb hf f1 f2 hc1 hc2); have HBX := Lib.hid ((bdr W5).trans hb); clear hb hc1 hc2 hf f1 f2; dsimp only [frV]) | (go_at_call 16; (with_reducible refine (C.out _ (bal (Below.refl _ _)).drew).mono ?_); rintro e w3 ⟨⟨sv, Av, nv, cv, tv, Bv, mv, dv⟩, rfl, hc1, hc2, hf, f1, f2, hb⟩; have BX := Lib.hid (bx_early hb hf f1 f2 hc1 hc2); obtain ⟨e0, e1, e2, e3, e4, e5, e6, e7⟩ := fr_cells (bx_box hb); have HBX : Hid (Below W5.heap.size W5 w3) := ((bal (Below.refl _ _)).drew).trans (hb.mono (by simp)); clear hb hc1 hc2 hf f1 f2; dsimp only [frV]))
          all_goals
            dsimp only [frC] at BX
            first
            | (obtain ⟨W6, hW6⟩ : ∃ W6, W6 = w3.alloc (.cells #[.int .i64 sv, .slice Av nv cv, .int .i64 tv, .slice Bv mv dv] 27) := ⟨_, rfl⟩
               rw [← hW6] at BX ⊢
               obtain ⟨gv, hgv⟩ : ∃ gv, gv = w3.heap.size := ⟨_, rfl⟩
               rw [← hgv] at BX ⊢)
            | (obtain ⟨W6, hW6⟩ : ∃ W6, W6 = (((w3.setCell ⟨W5.heap.size, 0, none⟩ (.int .i64 sv)).setCell ⟨W5.heap.size, 1, none⟩ (.slice Av nv cv)).setCell ⟨W5.heap.size, 2, none⟩ (.int .i64 tv)).setCell ⟨W5.heap.size, 3, none⟩ (.slice Bv mv dv) := ⟨_, rfl⟩
               rw [← hW6] at BX ⊢
               obtain ⟨gv, hgv⟩ : ∃ gv, gv = W5.heap.size := ⟨_, rfl⟩
               rw [← hgv] at BX ⊢)
          
            have BV := BX
            clear BX hW6 hgv HBX HS C
            have D6 := Lib.hid (BU.out.bl.trans (BV.out.bl.mono BU.out.bl.size))
            obtain ⟨z0, z1, z2, z3, -, -, -, -⟩ := fr_cells (BU.out.bk.below BV.out.bl BU.out.bk.lt)
            obtain ⟨q0, q1, q2, q3, -, -, -, -⟩ := fr_cells BV.out.bk
            try dsimp only at z0 z1 z2 z3 q0 q1 q2 q3
            go_wp2_with fail
            refine (add_R (k := 34) ⟨su, Au, nu, cu, tu, Bu, mu, du⟩ ⟨sv, Av, nv, cv, tv, Bv, mv, dv⟩ (Fg.more (Fg.past BU.out.fg BV.out.bl) (by decide)) BV.out.fg (HT4.out.on (HB.out.trans (D6.out.mono HB.out.size))) (by decide)).mono ?_
            rintro e w6 ⟨⟨sz, Az, nz, cz, tz, Bz, mz, dz⟩, rfl, hc1, hc2, hf, f1, f2, hb⟩
            have D7 := Lib.hid (D6.out.trans (hb.mono D6.out.size))
            obtain ⟨W7, hW7⟩ : ∃ W7, W7 = w6.alloc (.cells #[.int .i64 sz, .slice Az nz cz, .int .i64 tz, .slice Bz mz dz] 27) := ⟨_, rfl⟩
            have D8 : Hid (Below wr.heap.size wr W7) := by show Below _ _ _; rw [hW7]; exact bal D7.out
            have KZ : Hid (Blk W7 w6.heap.size 27 #[.int .i64 sz, .slice Az nz cz, .int .i64 tz, .slice Bz mz dz]) := by show Blk _ _ _ _; rw [hW7]; exact Blk.new _ _ _
            have hf7 : Fg W7 69 (t * xq + (1 - t) * yq) ⟨sz, Az, nz, cz, tz, Bz, mz, dz⟩ := by rw [hW7]; exact hf.al
            obtain ⟨gz, hgz⟩ : ∃ g, g = w6.heap.size := ⟨_, rfl⟩
            rw [← hgz] at KZ
            obtain ⟨ps, o1, o2, o3, o4, o5⟩ := app_frac HM.out HB.out D8.out hf7 (Fresh.old f1 D6.out.size) (Fresh.old f2 D6.out.size) hc1 hc2
            have O1 := Lib.hid o1
            have O2 := Lib.hid o2
            have O3 := Lib.hid o3
            have O4 := Lib.hid o4
            have O5 := Lib.hid o5
            clear o1 o2 o3 o4 o5 hf f1 f2 hb z0 z1 z2 z3 q0 q1 q2 q3 hf7
            dsimp only [frV]
            go_upto_region 9 with (fail)
            rw [← hW7, ← hgz]
            clear hW7 hgz
            obtain ⟨z0, z1, z2, z3, -, -, -, -⟩ := fr_cells KZ.out
            try dsimp only at z0 z1 z2 z3
            go_wp2_with (at_builtin; refine wpList_append_any _ rfl (.tmp 59) (.tmp 61) 28 rfl W4.heap.size 27 i0 _ 4 64 Tryz.underlying28 hi hz0 hz1 hz2 rfl (by decide) _ _ ps rfl O1.out _ (some ⟨W7.heap.size, 0, none⟩) 1 1 _ rfl O2.out O3.out (by unfold maxLen; omega) (by omega) O4.out ?_; intro v' w7 p1 p2 p3)
            obtain ⟨m1, m2⟩ := O5.out v' w7 p1 p2 p3
            have M7 := Lib.hid m1
            have B7 := Lib.hid m2
            clear p1 p2 p3 m1 m2 O1 O2 O3 O4 O5 z0 z1 z2 z3
            go_wp2_with fail
            go_roundw
            case rel => exact ⟨j + 1, v', rfl, by omega, rfl, (by show Mk _ _ _ _ _ _ _ _; rw [List.take_add_one, hz]; exact M7.out), B7⟩
            case measure => simp [intOf]; omega
      · obtain rfl : j = n := by omega
        obtain ⟨A9, c9, rfl, hc9, -⟩ := HM.out.form
        have HR := Lib.hid HM.out.els
        rw [List.take_of_length_le (by rw [List.length_map, mix_len hla hlb]; omega)] at HR
        have BW := Lib.hid (B4.out.trans (HB.out.mono B4.out.size))
        go_wp2_with fail
        go_ret
        exact ⟨A9, c9, rfl, hc9, HR.out, BW.out⟩
end Go.Proofs.YtehofikfbcallaaGreatDoor
