/- The walk of LinearRows. Conditions: the arguments' memory; the table of math/bits as its text lays it. -/
import Derived.Test.YtehofikfbcallaaGreatDoorY4
namespace Go.Proofs.YtehofikfbcallaaGreatDoor
set_option maxRecDepth 20000
open Go.RowKit

theorem Right_is {k n c : Nat} {A : Option Addr} {l : List RowP} {w : World} (N : Int) (hl : Rs k w A n l) (hT : TabZ w) (hk : k ≤ 100000) (hn : n ≤ 1073741824) {b : Bool} (hb : sysR N l = b) :
    Calls Tryz.prog 21 #[.agg #[.int .i64 N, .slice A n c]] w (BoolB b w) := by
  subst hb; exact Right_sys N hl hT hk hn
theorem infoRow : (Tryz.prog.info? 51).map (fun i => (i.zero, i.size, i.bytes)) = some (some (.agg #[.slice none 0 0, .int .i64 0, .int .i64 0, .slice none 0 0, .int .i64 0, .slice none 0 0]), 6, 96) := by kernel_rfl
/-- A system's rightness, row by row. -/
theorem sysR_split {N : Int} {l : List RowP} (h : l.length ≤ 6000) : sysR N l = (sysR N [] && l.all fun r => sysR N [r]) := by
  have h0 : (decide (6000 < (l.length : Int))) = false := by simp; omega
  have h1 : ∀ r, sysR N [r] = (!(decide (N < 0) || decide (1500 < N)) && rowR N r) := fun r => by simp [sysR]
  have h2 : sysR N [] = !(decide (N < 0) || decide (1500 < N)) := by simp [sysR]
  rw [h2]
  simp only [h1]
  rw [show sysR N l = (!(decide (N < 0) || (decide (1500 < N) || decide (6000 < (l.length : Int)))) && l.all (rowR N)) from rfl, h0, Bool.or_false]
  cases (decide (N < 0) || decide (1500 < N)) with
  | true => simp
  | false => simp
theorem sysH_split {N : Int} {l : List RowP} {xs : List (Option Rat)} (h : l.length ≤ 6000) : sysH N l xs = (sysH N [] xs && l.all fun r => sysH N [r] xs) := by
  unfold sysH
  rw [sysR_split h]
  cases decide ((xs.length : Int) = N) with
  | false => simp
  | true =>
    cases xs.all posO with
    | false => simp
    | true =>
      cases hr : sysR N [] with
      | false => simp
      | true =>
        simp only [Bool.true_and, List.all_nil, List.all_cons, Bool.and_true]
        induction l with
        | nil => rfl
        | cons r l ih =>
          have := ih (by simp at h; omega)
          simp only [List.all_cons]
          rw [← this]
          cases sysR N [r] <;> cases rowH xs r <;> simp
theorem sysH_rev {N : Int} {l : List RowP} {xs : List (Option Rat)} : sysH N l.reverse xs = sysH N l xs := by
  unfold sysH sysR
  rw [List.all_reverse, List.all_reverse, List.length_reverse]
theorem sysH_R {N : Int} {l : List RowP} {xs : List (Option Rat)} (h : sysH N l xs = true) : sysR N l = true := by
  unfold sysH at h
  simp only [Bool.and_eq_true] at h
  exact h.2.1
theorem all_next {α : Type} {l : List α} {j : Nat} {x : α} {p : α → Bool} (h : l[j]? = some x) : (l.take (j + 1)).all p = ((l.take j).all p && p x) := by
  rw [List.take_add_one, h]
  simp
/-- An append of an old element to a list that is built. -/
theorem app_old {α : Type} {El : World → α → List Value → Prop} {sz : Nat} {T : TypeId} {w wr W : World} {v : Value} {q g : Nat} {L : List α} {x : α} {cs : Array Value} (hE : Keeps El) (hM : Mk El sz T w wr v q L) (hB : Below w.heap.size w wr) (hb : Below wr.heap.size wr W) (hk : Blk W g T cs) (hel : El w x cs.toList) (hsz : cs.toList.length = sz) :
    ∃ xs, W.ownsRow w.heap.size T sz v q xs ∧ Reads W W.heap.size sz (some ⟨g, 0, none⟩) 1 cs.toList ∧ w.heap.size ≤ W.heap.size ∧
      ∀ v' w2, w2.ownsRow w.heap.size T sz v' (q + 1) (xs ++ cs.toList) → W.grownBy w2 v.ownBlock → (v'.ownBlock = v.ownBlock ∨ v'.ownBlock = some W.heap.size) → Mk El sz T w w2 v' (q + 1) (L ++ [x]) ∧ Below w.heap.size w w2 := by
  obtain ⟨ps, o1, o2, o3, o4⟩ := hM
  have hB2 := hB.trans (hb.mono hB.size)
  refine ⟨ps.flatten, own_on o1 hb, ⟨by rw [hsz, Nat.one_mul], fun _ => ⟨_, rfl, hk.lt, fun j y hj => ?_⟩⟩, hB2.size, fun v' w2 p1 p2 p3 => ⟨?_, hB2.grown p2 hB2.size (fun g e => (o1.lt g e).1)⟩⟩
  · rw [show (Addr.mk g 0 none).add j = ⟨g, j, none⟩ from by simp [Addr.add]; omega, hk.cell j]
    simpa using hj
  · refine Mk.step hE (ps := ps) (cs := cs.toList) o2 o3 (fun i a hi => ?_) hsz (hE _ _ _ _ hel hB2) (fun g hg => Ap.old hE hel hB2 (o1.lt g hg).1) p1 p2 p3
    obtain ⟨ds, d1, d2, d3, d4⟩ := o4 i a hi
    exact ⟨ds, d1, d2, hE _ _ _ _ d3 hb, fun g hg => (d4 g hg).past hb⟩
/-- A row and a system of it, made in either order. -/
structure Ro (W0 W : World) (g h : Nat) (rc sc : Array Value) : Prop where
  bl : Below W0.heap.size W0 W
  kr : Blk W g 51 rc
  ks : Blk W h 46 sc
theorem ro_a {W0 : World} {rc sc : Array Value} : Ro W0 ((W0.alloc (.cells rc 51)).alloc (.cells sc 46)).drew W0.heap.size (W0.heap.size + 1) rc sc :=
  ⟨(bal (bal (Below.refl _ _))).drew, (Blk.new _ _ _).alloc _, Blk.new_ (by simp)⟩
theorem ro_b {W0 : World} {rc sc : Array Value} : Ro W0 ((W0.alloc (.cells sc 46)).alloc (.cells rc 51)).drew (W0.heap.size + 1) W0.heap.size rc sc :=
  ⟨(bal (bal (Below.refl _ _))).drew, Blk.new_ (by simp), (Blk.new _ _ _).alloc _⟩

set_option maxHeartbeats 64000000 in
theorem rows_walk {A X : Option Addr} {n c m cx : Nat} {N : Int} {l : List RawR} {lx : List FrR} (w : World) (Ra : Hid (Els rRw 6 w A n l)) (hc : n ≤ c) (Rx : Hid (Els rFr 4 w X m lx)) (HT : Hid (TabZ w)) :
    Calls Tryz.prog 4 #[.agg #[.int .i64 N, .slice A n c], .slice X m cx] w (BoolB true w) := by
  have BB : Hid (Below w.heap.size w w) := Below.refl _ _
  go_enter Tryz.func4, Tryz.ntmps4
  go_upto_region 1 with (fail)
  obtain ⟨v1, hv1⟩ : ∃ v, v = w.alloc (.cells #[.int .i64 N, .slice A n c] 46) := ⟨_, rfl⟩
  rw [← hv1]
  have Ks : Hid (Blk v1 w.heap.size 46 #[.int .i64 N, .slice A n c]) := by show Blk _ _ _ _; rw [hv1]; exact Blk.new _ _ _
  have hb1 : Below w.heap.size w v1 := by rw [hv1]; exact bal (Below.refl _ _)
  replace HT := Lib.hid (HT.out.on hb1)
  replace BB := Lib.hid (BB.out.trans (hb1.mono BB.out.size))
  replace Ra := Lib.hid (Ra.out.past (rRw.keeps) hb1)
  replace Rx := Lib.hid (Rx.out.past (rFr.keeps) hb1)
  obtain ⟨gs, hg1⟩ : ∃ g, g = w.heap.size := ⟨_, rfl⟩
  rw [← hg1] at Ks ⊢
  clear hv1 hb1 hg1
  go_wp2_with fail
  refine (small8 v1 HT).mono ?_
  rintro e v2 ⟨rfl, hb⟩
  replace HT := Lib.hid (HT.out.on hb)
  replace BB := Lib.hid (BB.out.trans (hb.mono BB.out.size))
  replace Ra := Lib.hid (Ra.out.past (rRw.keeps) hb)
  replace Rx := Lib.hid (Rx.out.past (rFr.keeps) hb)
  replace Ks := Lib.hid (Ks.out.below hb Ks.out.lt)
  clear hb
  obtain ⟨ys0, ys1⟩ := sy_cells Ks.out
  go_wp2_with fail
  refine (Few_any c N 12 10 6 v2 Ra (by decide) (by decide) (by decide) (by decide)).mono ?_
  rintro e v3 ⟨b, rfl, hp, hb⟩
  replace HT := Lib.hid (HT.out.on hb)
  replace BB := Lib.hid (BB.out.trans (hb.mono BB.out.size))
  replace Ra := Lib.hid (Ra.out.past (rRw.keeps) hb)
  replace Rx := Lib.hid (Rx.out.past (rFr.keeps) hb)
  replace Ks := Lib.hid (Ks.out.below hb Ks.out.lt)
  clear hb
  rcases b with _ | _
  · clear hp
    go_wp2_with fail
    go_ret
    exact ⟨rfl, BB.out⟩
  have Pa := Lib.hid (hp rfl)
  clear hp
  clear ys0 ys1
  go_wp2_with fail
  refine (FewPoint_any cx 12 6 v3 Rx (by decide) (by decide)).mono ?_
  rintro e v4 ⟨b, rfl, hp, hb⟩
  replace HT := Lib.hid (HT.out.on hb)
  replace BB := Lib.hid (BB.out.trans (hb.mono BB.out.size))
  replace Ra := Lib.hid (Ra.out.past (rRw.keeps) hb)
  replace Rx := Lib.hid (Rx.out.past (rFr.keeps) hb)
  replace Ks := Lib.hid (Ks.out.below hb Ks.out.lt)
  clear hb
  rcases b with _ | _
  · clear hp
    go_wp2_with fail
    go_ret
    exact ⟨rfl, BB.out⟩
  have Px := Lib.hid (hp rfl)
  clear hp
  obtain ⟨rows, hrs⟩ := rs_of (k := 6) Ra.out (fun r hr => by obtain ⟨p1, p2, p3, p4⟩ := Pa.out.2.2 r hr; exact ⟨by omega, fun t ht => by have := p2 t ht; omega, by omega, by omega⟩)
  obtain ⟨xs, hxs⟩ := xs_of (k := 6) Rx.out (fun t ht => by have := Px.out.2 t ht; omega)
  have hn : n ≤ 10 := by have := Pa.out.2.1; omega
  have hm : m ≤ 12 := by have := Px.out.1; omega
  have Rr := Lib.hid hrs
  have Xx := Lib.hid hxs
  clear hrs hxs
  clear Ra Rx
  clear Pa Px
  obtain ⟨h0, hh0⟩ : ∃ b, sysH N [] xs = b := ⟨_, rfl⟩
  obtain ⟨r0, hr0⟩ : ∃ b, sysR N [] = b := ⟨_, rfl⟩
  obtain ⟨ys0, ys1⟩ := sy_cells Ks.out
  go_wp2_with fail
  refine (Holds_is (k := 12) (c := 0) (cx := cx) N (Els.nil (El := RwEl 12) (sz := 6)) Xx.out HT.out (by decide) (by decide) (by omega) hh0).mono ?_
  rintro e v5 ⟨rfl, hb⟩
  replace HT := Lib.hid (HT.out.on hb)
  replace BB := Lib.hid (BB.out.trans (hb.mono BB.out.size))
  replace Ks := Lib.hid (Ks.out.below hb Ks.out.lt)
  replace Rr := Lib.hid (Rr.out.past (RwEl.keeps _) hb)
  replace Xx := Lib.hid (Xx.out.past (FrEl.keeps _) hb)
  clear hb
  clear ys0 ys1
  obtain ⟨ys0, ys1⟩ := sy_cells Ks.out
  go_wp2_with fail
  refine (Right_is (k := 12) (c := 0) N (Els.nil (El := RwEl 12) (sz := 6)) HT.out (by decide) (by decide) hr0).mono ?_
  rintro e v6 ⟨rfl, hb⟩
  replace HT := Lib.hid (HT.out.on hb)
  replace BB := Lib.hid (BB.out.trans (hb.mono BB.out.size))
  replace Ks := Lib.hid (Ks.out.below hb Ks.out.lt)
  replace Rr := Lib.hid (Rr.out.past (RwEl.keeps _) hb)
  replace Xx := Lib.hid (Xx.out.past (FrEl.keeps _) hb)
  clear hb
  clear ys0 ys1
  have hlen := Rr.out.len
  go_wp2_with fail
  go_loopw [6, 7, 8, 9] (fun s6 s7 s8 i wr => ∃ (j : Nat) (al ri : Bool) (v : Value), s6 = .bool al ∧ s7 = .bool ri ∧ v = s8 ∧ j ≤ n ∧ i = .int .i64 j ∧ Hid (al = (h0 && (rows.take j).all (fun r => sysH N [r] xs)) ∧ ri = (r0 && (rows.take j).all (fun r => sysR N [r]))) ∧ Hid (Mk (RwEl 12) 6 51 v6 wr v j (rows.reverse.take j)) ∧ Hid (Below v6.heap.size v6 wr)) (fun _ _ _ i _ => n - (RowKit.intOf i).toNat)
  case atStart => exact ⟨0, h0, r0, _, rfl, rfl, rfl, Nat.zero_le _, rfl, (by show _ ∧ _; simp), Mk.nil _ _ _, Below.refl _ _⟩
  case round =>
    obtain ⟨j, al, ri, v, rfl, rfl, rfl, hj, rfl, HE, HM, HB⟩ := hrel
    have Ks2 := Lib.hid (Ks.out.below HB.out Ks.out.lt)
    obtain ⟨y0, y1⟩ := sy_cells Ks2.out
    by_cases hlt : j < n
    · have hjc : (j : Int) < (n : Int) := by omega
      have Rw := Lib.hid (Rr.out.past (RwEl.keeps _) HB.out)
      obtain ⟨ad, x, A2, m2, mc2, r, rfl, hab, hx, e2, c1, c2, ht, hf, q0, q1, q2, q3, q4, q5⟩ := rw_at Rw.out hlt
      obtain ⟨s1, A1, n1, k1, s2, A3, n3, k3⟩ := r
      obtain ⟨xt, xk, xv⟩ := x
      dsimp only at q0 q1 q2 q3 q4 q5 ht hf
      have HS : Hid (∀ w', Below wr.heap.size wr w' → w'.cell? ⟨gs, 0, none⟩ = some (.int .i64 N) ∧ w'.cell? ⟨gs, 1, none⟩ = some (.slice (some ad) n c) ∧ w'.cell? (ad.add (j * 6)) = some (.slice A2 m2 mc2) ∧ w'.cell? ⟨(ad.add (j * 6)).block, (ad.add (j * 6)).off + 1, none⟩ = some (.int .i64 xk) ∧ w'.cell? ⟨(ad.add (j * 6)).block, (ad.add (j * 6)).off + 2, none⟩ = some (.int .i64 s1) ∧ w'.cell? ⟨(ad.add (j * 6)).block, (ad.add (j * 6)).off + 3, none⟩ = some (.slice A1 n1 k1) ∧ w'.cell? ⟨(ad.add (j * 6)).block, (ad.add (j * 6)).off + 4, none⟩ = some (.int .i64 s2) ∧ w'.cell? ⟨(ad.add (j * 6)).block, (ad.add (j * 6)).off + 5, none⟩ = some (.slice A3 n3 k3)) := fun w' hb => ⟨cell_on hb y0, cell_on hb y1, cell_on hb q0, cell_on hb q1, cell_on hb q2, cell_on hb q3, cell_on hb q4, cell_on hb q5⟩
      obtain ⟨b1, hh1⟩ : ∃ b, sysH N [⟨xt, xk, xv⟩] xs = b := ⟨_, rfl⟩
      obtain ⟨b2, hr1⟩ : ∃ b, sysR N [⟨xt, xk, xv⟩] = b := ⟨_, rfl⟩
      obtain ⟨i0, hi, hz0, hz1, hz2⟩ := info_parts infoRow
      obtain ⟨p, hp⟩ : ∃ p : Nat, (n : Int) - 1 - (j : Int) = (p : Int) := ⟨n - 1 - j, by omega⟩
      have hpn : p < n := by omega
      have hpc : (p : Int) < (n : Int) := by omega
      obtain ⟨ad2, xp, A4, m4, mc4, rp, he2, -, hxp, e4, c3, c4, htp, hfp, p0, p1, p2, p3, p4, p5⟩ := rw_at Rr.out hpn
      cases he2
      have hrev : rows.reverse[j]? = some xp := by rw [List.getElem?_reverse (by omega), hlen, show n - 1 - j = p by omega]; exact hxp
      obtain ⟨t1, A5, n5, k5, t2, A6, n6, k6⟩ := rp
      obtain ⟨pt, pk, pv⟩ := xp
      dsimp only at p0 p1 p2 p3 p4 p5 htp hfp
      have HP : Hid (∀ w', Below v6.heap.size v6 w' → w'.cell? (ad.add (p * 6)) = some (.slice A4 m4 mc4) ∧ w'.cell? ⟨(ad.add (p * 6)).block, (ad.add (p * 6)).off + 1, none⟩ = some (.int .i64 pk) ∧ w'.cell? ⟨(ad.add (p * 6)).block, (ad.add (p * 6)).off + 2, none⟩ = some (.int .i64 t1) ∧ w'.cell? ⟨(ad.add (p * 6)).block, (ad.add (p * 6)).off + 3, none⟩ = some (.slice A5 n5 k5) ∧ w'.cell? ⟨(ad.add (p * 6)).block, (ad.add (p * 6)).off + 4, none⟩ = some (.int .i64 t2) ∧ w'.cell? ⟨(ad.add (p * 6)).block, (ad.add (p * 6)).off + 5, none⟩ = some (.slice A6 n6 k6)) := fun w' hb => ⟨cell_on hb p0, cell_on hb p1, cell_on hb p2, cell_on hb p3, cell_on hb p4, cell_on hb p5⟩
      have HEL : Hid (RwEl 12 v6 ⟨pt, pk, pv⟩ (#[.slice A4 m4 mc4, .int .i64 pk, .int .i64 t1, .slice A5 n5 k5, .int .i64 t2, .slice A6 n6 k6] : Array Value).toList) := ⟨A4, m4, mc4, ⟨t1, A5, n5, k5, t2, A6, n6, k6⟩, rfl, e4, c3, c4, htp, hfp⟩
      have H1C : Hid (∀ u ∈ (#[.slice A4 m4 mc4, .int .i64 pk, .int .i64 t1, .slice A5 n5 k5, .int .i64 t2, .slice A6 n6 k6] : Array Value).toList, u.oneCell' = true) := RwEl.one _ _ _ HEL.out
      clear p0 p1 p2 p3 p4 p5 htp hfp hxp
      go_wp2_with fail
      go_region_held3 (fun w' => w'.cell? ⟨gs, 0, none⟩ = some (.int .i64 N) ∧ w'.cell? ⟨gs, 1, none⟩ = some (.slice (some ad) n c) ∧ w'.cell? (ad.add (j * 6)) = some (.slice A2 m2 mc2) ∧ w'.cell? ⟨(ad.add (j * 6)).block, (ad.add (j * 6)).off + 1, none⟩ = some (.int .i64 xk) ∧ w'.cell? ⟨(ad.add (j * 6)).block, (ad.add (j * 6)).off + 2, none⟩ = some (.int .i64 s1) ∧ w'.cell? ⟨(ad.add (j * 6)).block, (ad.add (j * 6)).off + 3, none⟩ = some (.slice A1 n1 k1) ∧ w'.cell? ⟨(ad.add (j * 6)).block, (ad.add (j * 6)).off + 4, none⟩ = some (.int .i64 s2) ∧ w'.cell? ⟨(ad.add (j * 6)).block, (ad.add (j * 6)).off + 5, none⟩ = some (.slice A3 n3 k3))
        (first | exact HS.out _ (bdr wr) | with_reducible exact HS.out _ (bal (Below.refl _ _)).drew | with_reducible exact HS.out _ (bal (Below.refl _ _)) | with_reducible exact HS.out _ (bal (bal (Below.refl _ _))) | with_reducible exact HS.out _ (bal (bal (Below.refl _ _))).drew | exact HS.out _ (below_2 (bal (bal (Below.refl _ _))) (Nat.le_refl _))) (fail)
      all_goals
        first
          | (have RO := Lib.hid (ro_a (W0 := wr) (rc := #[.slice A2 m2 mc2, .int .i64 xk, .int .i64 s1, .slice A1 n1 k1, .int .i64 s2, .slice A3 n3 k3]) (sc := #[.int .i64 N, .slice (some ⟨wr.heap.size, 0, none⟩) 1 1]))
             obtain ⟨W, hW⟩ : ∃ W, W = ((wr.alloc (.cells #[.slice A2 m2 mc2, .int .i64 xk, .int .i64 s1, .slice A1 n1 k1, .int .i64 s2, .slice A3 n3 k3] 51)).alloc (.cells #[.int .i64 N, .slice (some ⟨wr.heap.size, 0, none⟩) 1 1] 46)).drew := ⟨_, rfl⟩
             rw [← hW] at RO ⊢
             obtain ⟨h, hh⟩ : ∃ h, h = wr.heap.size + 1 := ⟨_, rfl⟩
             rw [← hh] at RO ⊢
             obtain ⟨g, hg⟩ : ∃ g, g = wr.heap.size := ⟨_, rfl⟩
             rw [← hg] at RO ⊢)
          | (have RO := Lib.hid (ro_b (W0 := wr) (rc := #[.slice A2 m2 mc2, .int .i64 xk, .int .i64 s1, .slice A1 n1 k1, .int .i64 s2, .slice A3 n3 k3]) (sc := #[.int .i64 N, .slice (some ⟨wr.heap.size + 1, 0, none⟩) 1 1]))
             obtain ⟨W, hW⟩ : ∃ W, W = ((wr.alloc (.cells #[.int .i64 N, .slice (some ⟨wr.heap.size + 1, 0, none⟩) 1 1] 46)).alloc (.cells #[.slice A2 m2 mc2, .int .i64 xk, .int .i64 s1, .slice A1 n1 k1, .int .i64 s2, .slice A3 n3 k3] 51)).drew := ⟨_, rfl⟩
             rw [← hW] at RO ⊢
             obtain ⟨g, hg⟩ : ∃ g, g = wr.heap.size + 1 := ⟨_, rfl⟩
             rw [← hg] at RO ⊢
             obtain ⟨h, hh⟩ : ∃ h, h = wr.heap.size := ⟨_, rfl⟩
             rw [← hh] at RO ⊢)
        clear hW hg hh y0 y1 q0 q1 q2 q3 q4 q5 HS
        have HBW := Lib.hid (HB.out.trans (RO.out.bl.mono HB.out.size))
        have DD : Hid (Below W.heap.size W W) := Below.refl _ _
        have R1 := Lib.hid (rs_one ⟨s1, A1, n1, k1, s2, A3, n3, k3⟩ RO.out.kr (ht.past (TmEl.keeps _) RO.out.bl) e2 (hf.past RO.out.bl) c1 c2)
        clear ht hf Ks2 Rw
        rcases al with _ | _
        · rcases ri with _ | _
          · skip
            have DW := Lib.hid RO.out.bl
            obtain ⟨z0, z1⟩ := sy_cells (RO.out.ks.below DD.out RO.out.ks.lt)
            obtain ⟨y0, y1⟩ := sy_cells (Ks.out.below HBW.out Ks.out.lt)
            obtain ⟨p0, p1, p2, p3, p4, p5⟩ := HP.out _ HBW.out
            obtain ⟨ps, o1, o2, o4, o5⟩ := app_old (W := W.alloc (.cells #[.slice A4 m4 mc4, .int .i64 pk, .int .i64 t1, .slice A5 n5 k5, .int .i64 t2, .slice A6 n6 k6] 51)) (g := W.heap.size) (x := ⟨pt, pk, pv⟩) (cs := #[.slice A4 m4 mc4, .int .i64 pk, .int .i64 t1, .slice A5 n5 k5, .int .i64 t2, .slice A6 n6 k6]) (RwEl.keeps 12) HM.out HB.out (bal DW.out) (Blk.new _ _ _) HEL.out rfl
            have O1 := Lib.hid o1
            have O2 := Lib.hid o2
            have O4 := Lib.hid o4
            have O5 := Lib.hid o5
            clear o1 o2 o4 o5
            go_wp2_with (at_builtin; refine wpList_append_any _ rfl (.tmp 57) (.tmp 68) 44 rfl v6.heap.size 51 i0 _ 6 96 Tryz.underlying44 hi hz0 hz1 hz2 rfl (by decide) _ _ ps rfl O1.out _ (some ⟨W.heap.size, 0, none⟩) 1 1 _ rfl O2.out H1C.out (by unfold maxLen; omega) (by omega) O4.out ?_; intro v' w7 p1 p2 p3)
            obtain ⟨m1, m2'⟩ := O5.out v' w7 p1 p2 p3
            have M7 := Lib.hid m1
            have B7 := Lib.hid m2'
            clear p1 p2 p3 m1 m2' O1 O2 O4 O5 z0 z1 y0 y1
            go_wp2_with fail
            go_roundw
            case rel => exact ⟨j + 1, false, false, v', rfl, rfl, rfl, by omega, rfl, ⟨by show _ = _; rw [all_next hx, ← Bool.and_assoc, ← HE.out.1]; rfl, by show _ = _; rw [all_next hx, ← Bool.and_assoc, ← HE.out.2]; rfl⟩, (by show Mk _ _ _ _ _ _ _ _; rw [List.take_add_one, hrev]; exact M7.out), B7⟩
            case measure => simp [intOf]; omega
          · skip
            have DW := Lib.hid RO.out.bl
            obtain ⟨z0, z1⟩ := sy_cells (RO.out.ks.below DD.out RO.out.ks.lt)
            obtain ⟨y0, y1⟩ := sy_cells (Ks.out.below HBW.out Ks.out.lt)
            obtain ⟨p0, p1, p2, p3, p4, p5⟩ := HP.out _ HBW.out
            go_wp2_with fail
            refine (Right_is (k := 12) (c := 1) N (R1.out.past (RwEl.keeps _) DD.out) (HT.out.on HBW.out) (by decide) (by decide) hr1).mono ?_
            rintro e u1 ⟨rfl, hb⟩
            replace DD := Lib.hid (DD.out.trans (hb.mono DD.out.size))
            replace HBW := Lib.hid (HBW.out.trans (hb.mono HBW.out.size))
            replace DW := Lib.hid (DW.out.trans (hb.mono DW.out.size))
            clear z0 z1 y0 y1 p0 p1 p2 p3 p4 p5 hb
            obtain ⟨z0, z1⟩ := sy_cells (RO.out.ks.below DD.out RO.out.ks.lt)
            obtain ⟨y0, y1⟩ := sy_cells (Ks.out.below HBW.out Ks.out.lt)
            obtain ⟨p0, p1, p2, p3, p4, p5⟩ := HP.out _ HBW.out
            obtain ⟨ps, o1, o2, o4, o5⟩ := app_old (W := u1.alloc (.cells #[.slice A4 m4 mc4, .int .i64 pk, .int .i64 t1, .slice A5 n5 k5, .int .i64 t2, .slice A6 n6 k6] 51)) (g := u1.heap.size) (x := ⟨pt, pk, pv⟩) (cs := #[.slice A4 m4 mc4, .int .i64 pk, .int .i64 t1, .slice A5 n5 k5, .int .i64 t2, .slice A6 n6 k6]) (RwEl.keeps 12) HM.out HB.out (bal DW.out) (Blk.new _ _ _) HEL.out rfl
            have O1 := Lib.hid o1
            have O2 := Lib.hid o2
            have O4 := Lib.hid o4
            have O5 := Lib.hid o5
            clear o1 o2 o4 o5
            go_wp2_with (at_builtin; refine wpList_append_any _ rfl (.tmp 57) (.tmp 68) 44 rfl v6.heap.size 51 i0 _ 6 96 Tryz.underlying44 hi hz0 hz1 hz2 rfl (by decide) _ _ ps rfl O1.out _ (some ⟨u1.heap.size, 0, none⟩) 1 1 _ rfl O2.out H1C.out (by unfold maxLen; omega) (by omega) O4.out ?_; intro v' w7 p1 p2 p3)
            obtain ⟨m1, m2'⟩ := O5.out v' w7 p1 p2 p3
            have M7 := Lib.hid m1
            have B7 := Lib.hid m2'
            clear p1 p2 p3 m1 m2' O1 O2 O4 O5 z0 z1 y0 y1
            go_wp2_with fail
            go_roundw
            case rel => exact ⟨j + 1, false, b2, v', rfl, rfl, rfl, by omega, rfl, ⟨by show _ = _; rw [all_next hx, ← Bool.and_assoc, ← HE.out.1]; rfl, by show _ = _; rw [all_next hx, hr1, ← Bool.and_assoc, ← HE.out.2]; rfl⟩, (by show Mk _ _ _ _ _ _ _ _; rw [List.take_add_one, hrev]; exact M7.out), B7⟩
            case measure => simp [intOf]; omega
        · rcases ri with _ | _
          · skip
            have DW := Lib.hid RO.out.bl
            obtain ⟨z0, z1⟩ := sy_cells (RO.out.ks.below DD.out RO.out.ks.lt)
            obtain ⟨y0, y1⟩ := sy_cells (Ks.out.below HBW.out Ks.out.lt)
            obtain ⟨p0, p1, p2, p3, p4, p5⟩ := HP.out _ HBW.out
            go_wp2_with fail
            refine (Holds_is (k := 12) (c := 1) (cx := cx) N (R1.out.past (RwEl.keeps _) DD.out) (Xx.out.past (FrEl.keeps _) HBW.out) (HT.out.on HBW.out) (by decide) (by decide) (by omega) hh1).mono ?_
            rintro e u1 ⟨rfl, hb⟩
            replace DD := Lib.hid (DD.out.trans (hb.mono DD.out.size))
            replace HBW := Lib.hid (HBW.out.trans (hb.mono HBW.out.size))
            replace DW := Lib.hid (DW.out.trans (hb.mono DW.out.size))
            clear z0 z1 y0 y1 p0 p1 p2 p3 p4 p5 hb
            obtain ⟨z0, z1⟩ := sy_cells (RO.out.ks.below DD.out RO.out.ks.lt)
            obtain ⟨y0, y1⟩ := sy_cells (Ks.out.below HBW.out Ks.out.lt)
            obtain ⟨p0, p1, p2, p3, p4, p5⟩ := HP.out _ HBW.out
            obtain ⟨ps, o1, o2, o4, o5⟩ := app_old (W := u1.alloc (.cells #[.slice A4 m4 mc4, .int .i64 pk, .int .i64 t1, .slice A5 n5 k5, .int .i64 t2, .slice A6 n6 k6] 51)) (g := u1.heap.size) (x := ⟨pt, pk, pv⟩) (cs := #[.slice A4 m4 mc4, .int .i64 pk, .int .i64 t1, .slice A5 n5 k5, .int .i64 t2, .slice A6 n6 k6]) (RwEl.keeps 12) HM.out HB.out (bal DW.out) (Blk.new _ _ _) HEL.out rfl
            have O1 := Lib.hid o1
            have O2 := Lib.hid o2
            have O4 := Lib.hid o4
            have O5 := Lib.hid o5
            clear o1 o2 o4 o5
            go_wp2_with (at_builtin; refine wpList_append_any _ rfl (.tmp 57) (.tmp 68) 44 rfl v6.heap.size 51 i0 _ 6 96 Tryz.underlying44 hi hz0 hz1 hz2 rfl (by decide) _ _ ps rfl O1.out _ (some ⟨u1.heap.size, 0, none⟩) 1 1 _ rfl O2.out H1C.out (by unfold maxLen; omega) (by omega) O4.out ?_; intro v' w7 p1 p2 p3)
            obtain ⟨m1, m2'⟩ := O5.out v' w7 p1 p2 p3
            have M7 := Lib.hid m1
            have B7 := Lib.hid m2'
            clear p1 p2 p3 m1 m2' O1 O2 O4 O5 z0 z1 y0 y1
            go_wp2_with fail
            go_roundw
            case rel => exact ⟨j + 1, b1, false, v', rfl, rfl, rfl, by omega, rfl, ⟨by show _ = _; rw [all_next hx, hh1, ← Bool.and_assoc, ← HE.out.1]; rfl, by show _ = _; rw [all_next hx, ← Bool.and_assoc, ← HE.out.2]; rfl⟩, (by show Mk _ _ _ _ _ _ _ _; rw [List.take_add_one, hrev]; exact M7.out), B7⟩
            case measure => simp [intOf]; omega
          · skip
            have DW := Lib.hid RO.out.bl
            obtain ⟨z0, z1⟩ := sy_cells (RO.out.ks.below DD.out RO.out.ks.lt)
            obtain ⟨y0, y1⟩ := sy_cells (Ks.out.below HBW.out Ks.out.lt)
            obtain ⟨p0, p1, p2, p3, p4, p5⟩ := HP.out _ HBW.out
            go_wp2_with fail
            refine (Holds_is (k := 12) (c := 1) (cx := cx) N (R1.out.past (RwEl.keeps _) DD.out) (Xx.out.past (FrEl.keeps _) HBW.out) (HT.out.on HBW.out) (by decide) (by decide) (by omega) hh1).mono ?_
            rintro e u1 ⟨rfl, hb⟩
            replace DD := Lib.hid (DD.out.trans (hb.mono DD.out.size))
            replace HBW := Lib.hid (HBW.out.trans (hb.mono HBW.out.size))
            replace DW := Lib.hid (DW.out.trans (hb.mono DW.out.size))
            clear z0 z1 y0 y1 p0 p1 p2 p3 p4 p5 hb
            obtain ⟨z0, z1⟩ := sy_cells (RO.out.ks.below DD.out RO.out.ks.lt)
            obtain ⟨y0, y1⟩ := sy_cells (Ks.out.below HBW.out Ks.out.lt)
            obtain ⟨p0, p1, p2, p3, p4, p5⟩ := HP.out _ HBW.out
            go_wp2_with fail
            refine (Right_is (k := 12) (c := 1) N (R1.out.past (RwEl.keeps _) DD.out) (HT.out.on HBW.out) (by decide) (by decide) hr1).mono ?_
            rintro e u2 ⟨rfl, hb⟩
            replace DD := Lib.hid (DD.out.trans (hb.mono DD.out.size))
            replace HBW := Lib.hid (HBW.out.trans (hb.mono HBW.out.size))
            replace DW := Lib.hid (DW.out.trans (hb.mono DW.out.size))
            clear z0 z1 y0 y1 p0 p1 p2 p3 p4 p5 hb
            obtain ⟨z0, z1⟩ := sy_cells (RO.out.ks.below DD.out RO.out.ks.lt)
            obtain ⟨y0, y1⟩ := sy_cells (Ks.out.below HBW.out Ks.out.lt)
            obtain ⟨p0, p1, p2, p3, p4, p5⟩ := HP.out _ HBW.out
            obtain ⟨ps, o1, o2, o4, o5⟩ := app_old (W := u2.alloc (.cells #[.slice A4 m4 mc4, .int .i64 pk, .int .i64 t1, .slice A5 n5 k5, .int .i64 t2, .slice A6 n6 k6] 51)) (g := u2.heap.size) (x := ⟨pt, pk, pv⟩) (cs := #[.slice A4 m4 mc4, .int .i64 pk, .int .i64 t1, .slice A5 n5 k5, .int .i64 t2, .slice A6 n6 k6]) (RwEl.keeps 12) HM.out HB.out (bal DW.out) (Blk.new _ _ _) HEL.out rfl
            have O1 := Lib.hid o1
            have O2 := Lib.hid o2
            have O4 := Lib.hid o4
            have O5 := Lib.hid o5
            clear o1 o2 o4 o5
            go_wp2_with (at_builtin; refine wpList_append_any _ rfl (.tmp 57) (.tmp 68) 44 rfl v6.heap.size 51 i0 _ 6 96 Tryz.underlying44 hi hz0 hz1 hz2 rfl (by decide) _ _ ps rfl O1.out _ (some ⟨u2.heap.size, 0, none⟩) 1 1 _ rfl O2.out H1C.out (by unfold maxLen; omega) (by omega) O4.out ?_; intro v' w7 p1 p2 p3)
            obtain ⟨m1, m2'⟩ := O5.out v' w7 p1 p2 p3
            have M7 := Lib.hid m1
            have B7 := Lib.hid m2'
            clear p1 p2 p3 m1 m2' O1 O2 O4 O5 z0 z1 y0 y1
            go_wp2_with fail
            go_roundw
            case rel => exact ⟨j + 1, b1, b2, v', rfl, rfl, rfl, by omega, rfl, ⟨by show _ = _; rw [all_next hx, hh1, ← Bool.and_assoc, ← HE.out.1]; rfl, by show _ = _; rw [all_next hx, hr1, ← Bool.and_assoc, ← HE.out.2]; rfl⟩, (by show Mk _ _ _ _ _ _ _ _; rw [List.take_add_one, hrev]; exact M7.out), B7⟩
            case measure => simp [intOf]; omega
    · obtain rfl : j = n := by omega
      have hle : rows.length ≤ 6000 := by omega
      have e1 : al = sysH N rows xs := by rw [HE.out.1, List.take_of_length_le (by omega), sysH_split hle, hh0]
      have e2 : ri = sysR N rows := by rw [HE.out.2, List.take_of_length_le (by omega), sysR_split hle, hr0]
      have e3 : sysH N rows.reverse xs = al := by rw [sysH_rev, e1]
      obtain ⟨A9, c9, rfl, hc9, -⟩ := HM.out.form
      have HR := Lib.hid HM.out.els
      have hRv : rows.reverse.take j = rows.reverse := List.take_of_length_le (by rw [List.length_reverse]; omega)
      rw [hRv] at HR
      have BW := Lib.hid (BB.out.trans (HB.out.mono BB.out.size))
      have hcase : ri = false → al = false := fun h => by
        cases hal : al with
        | false => rfl
        | true => have := sysH_R (e1.symm.trans hal); rw [← e2, h] at this; cases this
      have e1' := e1.symm
      have e2' := e2.symm
      clear e1 e2 hRv HM HE Ks2 y0 y1
      rcases ri with _ | _
      · obtain rfl := hcase rfl
        clear hcase
        obtain ⟨y0, y1⟩ := sy_cells (Ks.out.below HB.out Ks.out.lt)
        go_wp2_with fail
        refine (Right_is (k := 12) (c := c) N (Rr.out.past (RwEl.keeps _) HB.out) (HT.out.on HB.out) (by decide) (by omega) e2').mono ?_
        rintro e x0 ⟨rfl, hb⟩
        replace HR := Lib.hid (HR.out.past (RwEl.keeps _) hb)
        replace BW := Lib.hid (BW.out.trans (hb.mono BW.out.size))
        replace HB := Lib.hid (HB.out.trans (hb.mono HB.out.size))
        clear hb y0 y1
        obtain ⟨y0, y1⟩ := sy_cells (Ks.out.below HB.out Ks.out.lt)
        go_wp2_with fail
        refine (Holds_is (k := 12) (c := c) (cx := cx) N (Rr.out.past (RwEl.keeps _) HB.out) (Xx.out.past (FrEl.keeps _) HB.out) (HT.out.on HB.out) (by decide) (by omega) (by omega) e1').mono ?_
        rintro e x1 ⟨rfl, hb⟩
        replace HR := Lib.hid (HR.out.past (RwEl.keeps _) hb)
        replace BW := Lib.hid (BW.out.trans (hb.mono BW.out.size))
        replace HB := Lib.hid (HB.out.trans (hb.mono HB.out.size))
        clear hb y0 y1
        obtain ⟨y0, y1⟩ := sy_cells (Ks.out.below HB.out Ks.out.lt)
        go_wp2_with fail
        refine (Holds_is (k := 12) (c := c9) (cx := cx) N HR.out (Xx.out.past (FrEl.keeps _) HB.out) (HT.out.on HB.out) (by decide) (by omega) (by omega) e3).mono ?_
        rintro e x2 ⟨rfl, hb⟩
        replace HR := Lib.hid (HR.out.past (RwEl.keeps _) hb)
        replace BW := Lib.hid (BW.out.trans (hb.mono BW.out.size))
        replace HB := Lib.hid (HB.out.trans (hb.mono HB.out.size))
        clear hb y0 y1
        obtain ⟨y0, y1⟩ := sy_cells (Ks.out.below HB.out Ks.out.lt)
        go_wp2_with fail
        go_ret
        exact ⟨rfl, BW.out⟩
      · clear hcase
        rcases al with _ | _
        · skip
          obtain ⟨y0, y1⟩ := sy_cells (Ks.out.below HB.out Ks.out.lt)
          go_wp2_with fail
          refine (Right_is (k := 12) (c := c) N (Rr.out.past (RwEl.keeps _) HB.out) (HT.out.on HB.out) (by decide) (by omega) e2').mono ?_
          rintro e x0 ⟨rfl, hb⟩
          replace HR := Lib.hid (HR.out.past (RwEl.keeps _) hb)
          replace BW := Lib.hid (BW.out.trans (hb.mono BW.out.size))
          replace HB := Lib.hid (HB.out.trans (hb.mono HB.out.size))
          clear hb y0 y1
          obtain ⟨y0, y1⟩ := sy_cells (Ks.out.below HB.out Ks.out.lt)
          go_wp2_with fail
          refine (Holds_is (k := 12) (c := c) (cx := cx) N (Rr.out.past (RwEl.keeps _) HB.out) (Xx.out.past (FrEl.keeps _) HB.out) (HT.out.on HB.out) (by decide) (by omega) (by omega) e1').mono ?_
          rintro e x1 ⟨rfl, hb⟩
          replace HR := Lib.hid (HR.out.past (RwEl.keeps _) hb)
          replace BW := Lib.hid (BW.out.trans (hb.mono BW.out.size))
          replace HB := Lib.hid (HB.out.trans (hb.mono HB.out.size))
          clear hb y0 y1
          obtain ⟨y0, y1⟩ := sy_cells (Ks.out.below HB.out Ks.out.lt)
          go_wp2_with fail
          refine (Holds_is (k := 12) (c := c9) (cx := cx) N HR.out (Xx.out.past (FrEl.keeps _) HB.out) (HT.out.on HB.out) (by decide) (by omega) (by omega) e3).mono ?_
          rintro e x2 ⟨rfl, hb⟩
          replace HR := Lib.hid (HR.out.past (RwEl.keeps _) hb)
          replace BW := Lib.hid (BW.out.trans (hb.mono BW.out.size))
          replace HB := Lib.hid (HB.out.trans (hb.mono HB.out.size))
          clear hb y0 y1
          obtain ⟨y0, y1⟩ := sy_cells (Ks.out.below HB.out Ks.out.lt)
          go_wp2_with fail
          go_ret
          exact ⟨rfl, BW.out⟩
        · skip
          obtain ⟨y0, y1⟩ := sy_cells (Ks.out.below HB.out Ks.out.lt)
          go_wp2_with fail
          refine (Right_is (k := 12) (c := c) N (Rr.out.past (RwEl.keeps _) HB.out) (HT.out.on HB.out) (by decide) (by omega) e2').mono ?_
          rintro e x0 ⟨rfl, hb⟩
          replace HR := Lib.hid (HR.out.past (RwEl.keeps _) hb)
          replace BW := Lib.hid (BW.out.trans (hb.mono BW.out.size))
          replace HB := Lib.hid (HB.out.trans (hb.mono HB.out.size))
          clear hb y0 y1
          obtain ⟨y0, y1⟩ := sy_cells (Ks.out.below HB.out Ks.out.lt)
          go_wp2_with fail
          refine (Holds_is (k := 12) (c := c) (cx := cx) N (Rr.out.past (RwEl.keeps _) HB.out) (Xx.out.past (FrEl.keeps _) HB.out) (HT.out.on HB.out) (by decide) (by omega) (by omega) e1').mono ?_
          rintro e x1 ⟨rfl, hb⟩
          replace HR := Lib.hid (HR.out.past (RwEl.keeps _) hb)
          replace BW := Lib.hid (BW.out.trans (hb.mono BW.out.size))
          replace HB := Lib.hid (HB.out.trans (hb.mono HB.out.size))
          clear hb y0 y1
          obtain ⟨y0, y1⟩ := sy_cells (Ks.out.below HB.out Ks.out.lt)
          go_wp2_with fail
          refine (Holds_is (k := 12) (c := c9) (cx := cx) N HR.out (Xx.out.past (FrEl.keeps _) HB.out) (HT.out.on HB.out) (by decide) (by omega) (by omega) e3).mono ?_
          rintro e x2 ⟨rfl, hb⟩
          replace HR := Lib.hid (HR.out.past (RwEl.keeps _) hb)
          replace BW := Lib.hid (BW.out.trans (hb.mono BW.out.size))
          replace HB := Lib.hid (HB.out.trans (hb.mono HB.out.size))
          clear hb y0 y1
          obtain ⟨y0, y1⟩ := sy_cells (Ks.out.below HB.out Ks.out.lt)
          go_wp2_with fail
          go_ret
          exact ⟨rfl, BW.out⟩
end Go.Proofs.YtehofikfbcallaaGreatDoor
