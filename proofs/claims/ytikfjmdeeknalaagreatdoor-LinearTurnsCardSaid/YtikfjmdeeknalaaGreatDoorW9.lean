/- The walk of linear's Plus at right lists of terms. Conditions: sizes; the table of math/bits as its text lays it. -/
import Derived.Test.YtikfjmdeeknalaaGreatDoorW6
namespace Go.Proofs.YtikfjmdeeknalaaGreatDoor
set_option maxRecDepth 20000
open Go.RowKit

/-- An append to a list of terms that is built, of a new term. -/
theorem app_new {w wr w1 : World} {K q : Nat} {v : Value} {L : List (Int × Option Rat)} {u : Int} {x : Rat} {r : FrR} (hM : Mk (TmEl K) 5 142 w wr v q L) (hB : Below w.heap.size w wr) (hb : Below wr.heap.size wr w1)
    (hf : Fg w1 K x r) (f1 : Fresh wr r.A1 r.n1) (f2 : Fresh wr r.A2 r.n2) (c1 : r.n1 ≤ r.c1) (c2 : r.n2 ≤ r.c2) :
    ∃ xs, (w1.alloc (.cells #[.int .i64 u, .int .i64 r.s1, .slice r.A1 r.n1 r.c1, .int .i64 r.s2, .slice r.A2 r.n2 r.c2] 142)).ownsRow w.heap.size 142 5 v q xs ∧
      Reads (w1.alloc (.cells #[.int .i64 u, .int .i64 r.s1, .slice r.A1 r.n1 r.c1, .int .i64 r.s2, .slice r.A2 r.n2 r.c2] 142)) (w1.heap.size + 1) 5 (some ⟨w1.heap.size, 0, none⟩) 1 (.int .i64 u :: frL r) ∧
      (∀ y ∈ (.int .i64 u :: frL r), y.oneCell' = true) ∧ w.heap.size ≤ (w1.alloc (.cells #[.int .i64 u, .int .i64 r.s1, .slice r.A1 r.n1 r.c1, .int .i64 r.s2, .slice r.A2 r.n2 r.c2] 142)).heap.size ∧
      ∀ v' w2, w2.ownsRow w.heap.size 142 5 v' (q + 1) (xs ++ (.int .i64 u :: frL r)) → (w1.alloc (.cells #[.int .i64 u, .int .i64 r.s1, .slice r.A1 r.n1 r.c1, .int .i64 r.s2, .slice r.A2 r.n2 r.c2] 142)).grownBy w2 v.ownBlock →
        (v'.ownBlock = v.ownBlock ∨ v'.ownBlock = some (w1.alloc (.cells #[.int .i64 u, .int .i64 r.s1, .slice r.A1 r.n1 r.c1, .int .i64 r.s2, .slice r.A2 r.n2 r.c2] 142)).heap.size) →
        Mk (TmEl K) 5 142 w w2 v' (q + 1) (L ++ [(u, some x)]) ∧ Below w.heap.size w w2 := by
  obtain ⟨W, hW⟩ : ∃ W, W = w1.alloc (.cells #[.int .i64 u, .int .i64 r.s1, .slice r.A1 r.n1 r.c1, .int .i64 r.s2, .slice r.A2 r.n2 r.c2] 142) := ⟨_, rfl⟩
  have hb2 : Below wr.heap.size wr W := by rw [hW]; exact bal hb
  have hfW : Fg W K x r := by rw [hW]; exact hf.al
  have hk : Blk W w1.heap.size 142 #[.int .i64 u, .int .i64 r.s1, .slice r.A1 r.n1 r.c1, .int .i64 r.s2, .slice r.A2 r.n2 r.c2] := by rw [hW]; exact Blk.new _ _ _
  have hsz : W.heap.size = w1.heap.size + 1 := by rw [hW]; simp
  rw [← hW]
  obtain ⟨ps, h1, h2, h3, h4⟩ := hM
  have hB2 := hB.trans (hb2.mono hB.size)
  refine ⟨ps.flatten, own_on h1 hb2, ⟨rfl, fun _ => ⟨_, rfl, by simp, fun j y hj => ?_⟩⟩, fun y hy => ?_, hB2.size, fun v' w2 p1 p2 p3 => ⟨?_, hB2.grown p2 hB2.size (fun g e => (h1.lt g e).1)⟩⟩
  · rw [show (Addr.mk w1.heap.size 0 none).add j = ⟨w1.heap.size, j, none⟩ from by simp [Addr.add]; omega, hk.cell j]
    simpa [frL] using hj
  · rcases List.mem_cons.1 hy with rfl | hy
    · rfl
    · exact frL_one r y hy
  · refine Mk.step (TmEl.keeps K) (ps := ps) (cs := .int .i64 u :: frL r) h2 h3 (fun i a hi => ?_) rfl ⟨r, rfl, c1, c2, hfW⟩ (fun g hg => TmEl.ap hfW c1 c2 (off_old f1 f2 (h1.lt g hg).2)) p1 p2 p3
    obtain ⟨cs, d1, d2, d3, d4⟩ := h4 i a hi
    exact ⟨cs, d1, d2, TmEl.keeps K _ _ _ _ d3 hb2, fun g hg => (d4 g hg).past hb2⟩
def slLen : Value → Nat | .slice _ n _ => n | _ => 0
theorem Mk.lt {α : Type} {El : World → α → List Value → Prop} {sz : Nat} {T : TypeId} {w0 w : World} {v : Value} {n : Nat} {l : List α} (h : Mk El sz T w0 w v n l) : ∀ g, v.ownBlock = some g → w0.heap.size ≤ g ∧ g < w.heap.size := by
  obtain ⟨ps, h1, -⟩ := h
  exact fun g e => h1.lt g e
/-- A row of one's own, by what its elements are. -/
theorem els_own {α : Type} {El : World → α → List Value → Prop} {sz : Nat} {T : TypeId} {b : Nat} {w : World} {A : Option Addr} {n c : Nat} {l : List α} {ps : List (List Value)} (h1 : w.ownsRow b T sz (.slice A n c) n ps.flatten) (h2 : ps.length = n) (h3 : l.length = n)
    (h4 : ∀ (i : Nat) (a : α), l[i]? = some a → ∃ cs, ps[i]? = some cs ∧ cs.length = sz ∧ El w a cs) : Els El sz w A n l := by
  have hR := Reads.of_own h1
  have hl := Mk.all_len (fun i a hi => by obtain ⟨cs, c1, c2, -⟩ := h4 i a hi; exact ⟨cs, c1, c2⟩) h2 h3
  refine ⟨h3, fun hn => ?_⟩
  obtain ⟨ad, e, hb, hc⟩ := hR.2 hn
  refine ⟨ad, e, hb, fun i a hi => ?_⟩
  obtain ⟨cs, c1, c2, c3⟩ := h4 i a hi
  exact ⟨cs, c2, c3, fun j u hj => hc _ _ (flat_at ps i j cs u hl c1 hj)⟩
theorem up_cons (t : Int × Rat) (l : List (Int × Rat)) : up (t :: l) = (t.1, some t.2) :: up l := rfl
theorem up_app (a b : List (Int × Rat)) : up (a ++ b) = up a ++ up b := List.map_append
theorem up_nil {l : List (Int × Rat)} (h : (up l).length = 0) : l = [] := List.eq_nil_of_length_eq_zero (by rw [← up_len]; exact h)
/-- The first term of a list. -/
theorem head_at {k n : Nat} {A : Option Addr} {a : List (Int × Rat)} {w w' : World} (h : Ts k w A n (up a)) (hn : 0 < n) (hb : Below w.heap.size w w') :
    ∃ ad t b r, A = some ad ∧ a = t :: b ∧ r.n1 ≤ r.c1 ∧ r.n2 ≤ r.c2 ∧ Fg w' k t.2 r ∧ ad.block < w.heap.size ∧ w'.cell? ad = some (.int .i64 t.1) ∧ w'.cell? ⟨ad.block, ad.off + 1, none⟩ = some (.int .i64 r.s1) ∧ w'.cell? ⟨ad.block, ad.off + 2, none⟩ = some (.slice r.A1 r.n1 r.c1) ∧
      w'.cell? ⟨ad.block, ad.off + 3, none⟩ = some (.int .i64 r.s2) ∧ w'.cell? ⟨ad.block, ad.off + 4, none⟩ = some (.slice r.A2 r.n2 r.c2) := by
  obtain ⟨ad, t, r, e, hab, hl, c1, c2, hf, q0, q1, q2, q3, q4⟩ := tm_at (i := 0) h hn
  rw [show (0 * 5 : Nat) = 0 from rfl, add_zero] at q0 q1 q2 q3 q4
  cases a with
  | nil => simp [up] at hl
  | cons u b =>
    rw [up_cons] at hl
    simp only [List.getElem?_cons_zero, Option.some.injEq] at hl
    subst hl
    exact ⟨ad, u, b, r, e, rfl, c1, c2, Fg.past hf hb, hab, cell_on hb q0, cell_on hb q1, cell_on hb q2, cell_on hb q3, cell_on hb q4⟩
/-- The rest of a list. -/
theorem tail_at {k n c : Nat} {ad : Addr} {t : Int × Rat} {b : List (Int × Rat)} {w : World} (h : Ts k w (some ad) n (up (t :: b))) (hc : n ≤ c) : Ts k w (if c = 1 then some ad else some ⟨ad.block, ad.off + 5, none⟩) (n - 1) (up b) := by
  have h1 : 1 ≤ n := by have := h.len; rw [up_len] at this; simp at this; omega
  have := h.cut h1 hc
  have e : (some ad : Option Addr).map (·.add (1 * 5)) = some ⟨ad.block, ad.off + 5, none⟩ := rfl
  rw [e] at this
  simpa [up_cons] using this
section
variable {k n m : Nat} {A B : Option Addr} {la lb : List (Int × Rat)} {w : World}
set_option maxHeartbeats 16000000 in
theorem Plus_T (ca cb : Nat) (hl : Ts k w A n (up la)) (hm : Ts k w B m (up lb)) (hT : TabZ w) (ra : rightT (-1) 1500 la = true) (rb : rightT (-1) 1500 lb = true) (hk : k ≤ 1000) (hnc : n ≤ ca) (hmc : m ≤ cb) (hn : n ≤ 1000) (hm2 : m ≤ 1000) :
    Calls Tryz.prog 91 #[.slice A n ca, .slice B m cb] w fun e w' => ∃ A' p c', e = .returned (.slice A' p c') ∧ p ≤ c' ∧ Ts (k + k + 1) w' A' p (up (plusT la lb)) ∧ Below w.heap.size w w' := by
  obtain ⟨i0, hi, hz0, hz1, hz2⟩ := info_parts infoTm
  have C1 := Lib.hid (RT_any ca 1500 w (Lib.hid hl) (Lib.hid hT) (by omega) (by omega) ((goT_up (by omega)).trans ra))
  have C2 := Lib.hid (fun W (hb : Below w.heap.size w W) => RT_any cb 1500 W (Lib.hid (hm.past (TmEl.keeps k) hb)) (Lib.hid (hT.on hb)) (by omega) (by omega) ((goT_up (by omega)).trans rb))
  have hw1 : IntKind.i64.wrap ((n : Int) + (m : Int)) = (n : Int) + (m : Int) := IntWalk.i64_in _ (by omega)
  have hmk : ∀ wx : World, (Instr.makeSlice 59 (.int .i64 0) (.int .i64 ((n : Int) + (m : Int)))).run Tryz.prog wx = .ok (.slice (some ⟨wx.heap.size, 0, none⟩) 0 (n + m)) (wx.alloc (.cells (madeCells (Value.cells (.agg #[.int .i64 0, .int .i64 0, .slice none 0 0, .int .i64 0, .slice none 0 0])) ((n + m) * 5)) 142)) := fun wx => by
    have hr := run_make (P := Tryz.prog) wx 59 142 i0 _ Tryz.underlying59 hi hz0 .i64 .i64 0 ((n + m : Nat) : Int) (by omega) (by omega) (by rw [hz2]; omega) (by omega)
    rw [hz1, Int.toNat_natCast] at hr
    rw [show ((n : Int) + (m : Int)) = ((n + m : Nat) : Int) by omega]
    exact hr
  obtain ⟨Z, hZ⟩ : ∃ Z, madeCells (Value.cells (.agg #[.int .i64 0, .int .i64 0, .slice none 0 0, .int .i64 0, .slice none 0 0])) ((n + m) * 5) = Z := ⟨_, rfl⟩
  have hZs : Z.size = (n + m) * 5 := by rw [← hZ, size_madeCells]
  rw [hZ] at hmk
  clear hZ
  have HT := Lib.hid hT
  have HL := Lib.hid hl
  have HMl := Lib.hid hm
  clear hl hm hT ra rb
  go_enter Tryz.func91, Tryz.ntmps91
  go_wp2_with fail
  refine C1.out.mono ?_
  rintro e w1 ⟨rfl, hb⟩
  have B1 := Lib.hid hb
  clear hb C1
  go_wp2_with fail
  refine (C2.out w1 B1.out).mono ?_
  rintro e w2 ⟨rfl, hb⟩
  have B2 := Lib.hid (B1.out.trans (hb.mono B1.out.size))
  clear hb C2
  go_wp2_with fail
  obtain ⟨w3, hw3⟩ : ∃ w3, w3 = w2.alloc (.cells Z 142) := ⟨_, rfl⟩
  have HM0 : Hid (Mk (TmEl (k + k + 1)) 5 142 w w3 (.slice (some ⟨w2.heap.size, 0, none⟩) 0 (n + m)) 0 (up [])) := by
    refine ⟨[], ?_, rfl, rfl, fun i a h => by simp [up] at h⟩
    rw [hw3]
    exact own_room (w0 := w) (heap_alloc_new w2 _) B2.out.size hZs (by unfold maxLen; omega)
  have B3 : Hid (Below w.heap.size w w3) := by show Below _ _ _; rw [hw3]; exact bal B2.out
  rw [← hw3]
  clear hw3 B2 hmk hZs
  go_loopw [0, 1, 5] (fun s0 s1 s5 wr => ∃ (a b L : List (Int × Rat)) (A1 A2 : Option Addr) (n1 c1 n2 c2 q : Nat) (v : Value), v = s5 ∧ s0 = .slice A1 n1 c1 ∧ s1 = .slice A2 n2 c2 ∧ n1 ≤ c1 ∧ n2 ≤ c2 ∧ q + n1 + n2 ≤ 2000 ∧ Hid (Ts k w A1 n1 (up a)) ∧ Hid (Ts k w A2 n2 (up b)) ∧ Hid (plusT la lb = L ++ plusT a b) ∧ Hid (Mk (TmEl (k + k + 1)) 5 142 w wr v q (up L)) ∧ Hid (Below w.heap.size w wr)) (fun s0 s1 _ _ => slLen s0 + slLen s1)
  case atStart => exact ⟨la, lb, [], A, B, n, ca, m, cb, 0, _, rfl, rfl, rfl, hnc, hmc, by omega, HL, HMl, rfl, HM0, B3⟩
  case round =>
    clear HM0 B3 HL HMl
    obtain ⟨a, b, L, A1, A2, n1, c1, n2, c2, q, v, rfl, rfl, rfl, h1c, h2c, hq, HA, HBl, HP, HM, HB⟩ := hrel
    rcases Nat.eq_zero_or_pos n1 with h1 | h1
    · have ha : a = [] := up_nil (HA.out.len.trans h1)
      have hi0 : (n1 : Int) ≤ 0 := by omega
      have HPE : Hid (plusT la lb = L ++ (a ++ b)) := by show _ = _; rw [HP.out, ha, nil_plusT, List.nil_append]
      clear ha h1
      obtain ⟨w4, hw4⟩ : ∃ w4, w4 = wr.alloc (.cells #[.slice A1 n1 c1, .slice A2 n2 c2] 59) := ⟨_, rfl⟩
      have B4 : Hid (Below w.heap.size w w4) := by show Below _ _ _; rw [hw4]; exact HB.out.alloc HB.out.size _
      have M4 : Hid (Mk (TmEl (k + k + 1)) 5 142 w w4 v q (up L)) := by show Mk _ _ _ _ _ _ _ _; rw [hw4]; exact HM.out.past (TmEl.keeps _) (bal (Below.refl _ _))
      have KC : Blk w4 wr.heap.size 59 #[.slice A1 n1 c1, .slice A2 n2 c2] := by rw [hw4]; exact Blk.new _ _ _
      obtain ⟨qs1, l1, r1, u1, e1⟩ := HA.out.flat TmEl.one
      obtain ⟨qs2, l2, r2, u2, e2⟩ := HBl.out.flat TmEl.one
      have CC := Lib.hid (Concat_R (g := wr.heap.size) c1 c2 w4 ((r1.below B4.out).more B4.out.size) ((r2.below B4.out).more B4.out.size) u1 u2 (KC.cell 0) (KC.cell 1) (by omega))
      rw [← List.flatten_append] at CC
      have QE : Hid (∀ (i : Nat) (t : Int × Option Rat), (up (a ++ b))[i]? = some t → ∃ cs, (qs1 ++ qs2)[i]? = some cs ∧ cs.length = 5 ∧ TmEl k w t cs) := by
        intro i t hi
        rw [up_app, List.getElem?_append] at hi
        have hla := HA.out.len
        split at hi
        · obtain ⟨cs, d1, d2⟩ := e1 i t hi
          exact ⟨cs, by rw [List.getElem?_append_left (by omega)]; exact d1, d2⟩
        · obtain ⟨cs, d1, d2⟩ := e2 _ t hi
          exact ⟨cs, by rw [List.getElem?_append_right (by omega), l1, ← hla]; exact d1, d2⟩
      have QL : Hid ((qs1 ++ qs2).length = n1 + n2 ∧ (a ++ b).length = n1 + n2) := by
        have h1 := HA.out.len
        have h2 := HBl.out.len
        rw [up_len] at h1 h2
        exact ⟨by rw [List.length_append, l1, l2], by rw [List.length_append, h1, h2]⟩
      obtain ⟨Q, hQ⟩ : ∃ Q, Q = qs1 ++ qs2 := ⟨_, rfl⟩
      rw [← hQ] at CC QE QL
      clear l1 r1 u1 e1 l2 r2 u2 e2 hQ HP HA HBl HM HB KC
      go_wp2_with fail
      rw [← hw4]
      clear hw4
      refine CC.out.mono ?_
      rintro e w5 ⟨A5, cc5, rfl, ho5, hb⟩
      have HO5 := Lib.hid ho5
      have B5 := Lib.hid (B4.out.trans (hb.mono B4.out.size))
      have M5 := Lib.hid (M4.out.past (TmEl.keeps _) hb)
      have HNE : Hid (∀ g, v.ownBlock = some g → (Value.slice A5 (n1 + n2) cc5).ownBlock ≠ some g) := fun g e1 e2 => by
        have h1 := (M4.out.lt g e1).2
        have h2 := (ho5.lt g e2).1
        omega
      obtain ⟨N, hN⟩ : ∃ N, n1 + n2 = N := ⟨_, rfl⟩
      have hqN : q + N ≤ 2000 := by omega
      rw [hN] at HO5 QL HNE ⊢
      clear ho5 hb CC B4 M4 hN
      go_wp2_with fail
      go_loopw [5, 98] (fun s5 i wr => ∃ (j : Nat) (v : Value), v = s5 ∧ j ≤ N ∧ i = .int .i64 j ∧ Hid (Mk (TmEl (k + k + 1)) 5 142 w wr v (q + j) (up (L ++ (a ++ b).take j))) ∧ Hid (Below w.heap.size w wr) ∧ Hid (wr.ownsRow w4.heap.size 142 5 (.slice A5 N cc5) N Q.flatten) ∧ Hid (∀ g, v.ownBlock = some g → (Value.slice A5 N cc5).ownBlock ≠ some g)) (fun _ i _ => N - (RowKit.intOf i).toNat)
      case atStart => exact ⟨0, _, rfl, Nat.zero_le _, rfl, (by show Mk _ _ _ _ _ _ _ _; rw [List.take_zero, List.append_nil]; exact M5.out), B5.out, HO5, HNE⟩
      case round =>
        clear M5 B5 HO5 HNE
        obtain ⟨j, v, rfl, hj, rfl, HM, HB, HO, HNE⟩ := hrel
        by_cases hlt : j < N
        · have hjc : (j : Int) < (N : Int) := by omega
          obtain ⟨ad, t, r, rfl, hab, hlj, hr1, hr2, hf, q0, q1, q2, q3, q4⟩ := tm_at (k := k) (l := up (a ++ b)) (els_own HO.out QL.out.1 (by rw [up_len]; exact QL.out.2) (fun i t hi => by obtain ⟨cs, d1, d2, d3⟩ := QE.out i t hi; exact ⟨cs, d1, d2, TmEl.keeps k _ _ _ _ d3 HB.out⟩)) hlt
          obtain ⟨u, hu, rfl⟩ : ∃ u, (a ++ b)[j]? = some u ∧ t = (u.1, some u.2) := by
            unfold up at hlj
            rw [List.getElem?_map, Option.map_eq_some_iff] at hlj
            obtain ⟨u, h1, h2⟩ := hlj
            exact ⟨u, h1, h2.symm⟩
          have HTK : Hid ((a ++ b).take (j + 1) = (a ++ b).take j ++ [u]) := by show _ = _; rw [List.take_add_one, hu]; rfl
          obtain ⟨s1, A1', n1', c1', s2, A2', n2', c2'⟩ := r
          obtain ⟨tv, tq⟩ := u
          dsimp only at q0 q1 q2 q3 q4 hf
          have BW : Hid (Below wr.heap.size wr (wr.alloc (.cells #[.int .i64 tv, .int .i64 s1, .slice A1' n1' c1', .int .i64 s2, .slice A2' n2' c2'] 142))) := bal (Below.refl _ _)
          have C := Lib.hid (copyOf_T (v := tv) ⟨s1, A1', n1', c1', s2, A2', n2', c2'⟩ (Fg.past hf BW.out) (by omega))
          dsimp only at C
          clear hf hlj hu hr1 hr2 hab
          go_wp2_with fail
          refine C.out.mono ?_
          rintro e w6 ⟨⟨s5, A6, n5, c5, s6, A7, n6, c6⟩, rfl, hc1, hc2, hf, f1, f2, hb⟩
          have B6 := Lib.hid (BW.out.trans (hb.mono BW.out.size))
          obtain ⟨xs, o1, o2, o3, o4, o5⟩ := app_new (u := tv) HM.out HB.out B6.out (hf.more (j := k + k + 1) (by omega)) (Fresh.old f1 BW.out.size) (Fresh.old f2 BW.out.size) hc1 hc2
          have O1 := Lib.hid o1
          have O2 := Lib.hid o2
          have O3 := Lib.hid o3
          have O4 := Lib.hid o4
          have O5 := Lib.hid o5
          clear hb hc1 hc2 hf f1 f2 o1 o2 o3 o4 o5 q0 q1 q2 q3 q4 C
          go_wp2_with (at_builtin; refine wpList_append_any _ rfl (.tmp 102) (.tmp 105) 59 rfl w.heap.size 142 i0 _ 5 72 Tryz.underlying59 hi hz0 hz1 hz2 rfl (by decide) _ _ xs rfl O1.out _ (some ⟨w6.heap.size, 0, none⟩) 1 1 _ rfl O2.out O3.out (by unfold maxLen; omega) (by omega) O4.out ?_; intro v' w7 p1 p2 p3)
          obtain ⟨m1, m2⟩ := O5.out v' w7 p1 p2 p3
          have HB7 := Lib.hid m2
          have HO7 : Hid (w7.ownsRow w4.heap.size 142 5 (.slice (some ad) N cc5) N Q.flatten) := own_grown (own_on (own_on HO.out B6.out) (bal (Below.refl _ _))) p2 (fun g e1 e2 => HNE.out g e2 e1)
          have HNE7 : Hid (∀ g, v'.ownBlock = some g → (Value.slice (some ad) N cc5).ownBlock ≠ some g) := fun g e1 e2 => by
            rcases p3 with p3 | p3
            · rw [p3] at e1
              exact HNE.out g e1 e2
            · rw [p3] at e1
              cases e1
              have h1 := (HO.out.lt _ e2).2
              have h2 := B6.out.size
              simp at h1
              omega
          have HM7 : Hid (Mk (TmEl (k + k + 1)) 5 142 w w7 v' (q + (j + 1)) (up (L ++ (a ++ b).take (j + 1)))) := by
            show Mk _ _ _ _ _ _ _ _
            rw [HTK.out, ← List.append_assoc, up_app]
            exact m1
          clear p1 p2 p3 m1 m2 O1 O2 O3 O4 O5
          go_wp2_with fail
          go_roundw
          case rel => exact ⟨j + 1, _, rfl, by omega, by go_num, HM7, HB7, HO7, HNE7⟩
          case measure => simp [RowKit.intOf]; omega
        · obtain rfl : j = N := by omega
          have HMf : Hid (Mk (TmEl (k + k + 1)) 5 142 w wr v (q + j) (up (plusT la lb))) := by
            show Mk _ _ _ _ _ _ _ _
            have := HM.out
            rw [List.take_of_length_le (by rw [QL.out.2]; exact Nat.le_refl _), ← HPE.out] at this
            exact this
          obtain ⟨A9, c9, rfl, h91, h92⟩ := HMf.out.form
          have HE := Lib.hid HMf.out.els
          go_wp2_with fail
          go_ret
          exact ⟨A9, _, c9, rfl, h91, HE.out, HB.out⟩
    · rcases Nat.eq_zero_or_pos n2 with h2 | h2
      · have hb0 : b = [] := up_nil (HBl.out.len.trans h2)
        have hi0 : (n2 : Int) ≤ 0 := by omega
        have hi1 : (0 : Int) < (n1 : Int) := by omega
        have HPE : Hid (plusT la lb = L ++ (a ++ b)) := by show _ = _; rw [HP.out, hb0, plusT_nil, List.append_nil]
        clear hb0 h2 h1
        obtain ⟨w4, hw4⟩ : ∃ w4, w4 = wr.alloc (.cells #[.slice A1 n1 c1, .slice A2 n2 c2] 59) := ⟨_, rfl⟩
        have B4 : Hid (Below w.heap.size w w4) := by show Below _ _ _; rw [hw4]; exact HB.out.alloc HB.out.size _
        have M4 : Hid (Mk (TmEl (k + k + 1)) 5 142 w w4 v q (up L)) := by show Mk _ _ _ _ _ _ _ _; rw [hw4]; exact HM.out.past (TmEl.keeps _) (bal (Below.refl _ _))
        have KC : Blk w4 wr.heap.size 59 #[.slice A1 n1 c1, .slice A2 n2 c2] := by rw [hw4]; exact Blk.new _ _ _
        obtain ⟨qs1, l1, r1, u1, e1⟩ := HA.out.flat TmEl.one
        obtain ⟨qs2, l2, r2, u2, e2⟩ := HBl.out.flat TmEl.one
        have CC := Lib.hid (Concat_R (g := wr.heap.size) c1 c2 w4 ((r1.below B4.out).more B4.out.size) ((r2.below B4.out).more B4.out.size) u1 u2 (KC.cell 0) (KC.cell 1) (by omega))
        rw [← List.flatten_append] at CC
        have QE : Hid (∀ (i : Nat) (t : Int × Option Rat), (up (a ++ b))[i]? = some t → ∃ cs, (qs1 ++ qs2)[i]? = some cs ∧ cs.length = 5 ∧ TmEl k w t cs) := by
          intro i t hi
          rw [up_app, List.getElem?_append] at hi
          have hla := HA.out.len
          split at hi
          · obtain ⟨cs, d1, d2⟩ := e1 i t hi
            exact ⟨cs, by rw [List.getElem?_append_left (by omega)]; exact d1, d2⟩
          · obtain ⟨cs, d1, d2⟩ := e2 _ t hi
            exact ⟨cs, by rw [List.getElem?_append_right (by omega), l1, ← hla]; exact d1, d2⟩
        have QL : Hid ((qs1 ++ qs2).length = n1 + n2 ∧ (a ++ b).length = n1 + n2) := by
          have h1 := HA.out.len
          have h2 := HBl.out.len
          rw [up_len] at h1 h2
          exact ⟨by rw [List.length_append, l1, l2], by rw [List.length_append, h1, h2]⟩
        obtain ⟨Q, hQ⟩ : ∃ Q, Q = qs1 ++ qs2 := ⟨_, rfl⟩
        rw [← hQ] at CC QE QL
        clear l1 r1 u1 e1 l2 r2 u2 e2 hQ HP HA HBl HM HB KC
        go_wp2_with fail
        rw [← hw4]
        clear hw4
        refine CC.out.mono ?_
        rintro e w5 ⟨A5, cc5, rfl, ho5, hb⟩
        have HO5 := Lib.hid ho5
        have B5 := Lib.hid (B4.out.trans (hb.mono B4.out.size))
        have M5 := Lib.hid (M4.out.past (TmEl.keeps _) hb)
        have HNE : Hid (∀ g, v.ownBlock = some g → (Value.slice A5 (n1 + n2) cc5).ownBlock ≠ some g) := fun g e1 e2 => by
          have h1 := (M4.out.lt g e1).2
          have h2 := (ho5.lt g e2).1
          omega
        obtain ⟨N, hN⟩ : ∃ N, n1 + n2 = N := ⟨_, rfl⟩
        have hqN : q + N ≤ 2000 := by omega
        rw [hN] at HO5 QL HNE ⊢
        clear ho5 hb CC B4 M4 hN
        go_wp2_with fail
        go_loopw [5, 98] (fun s5 i wr => ∃ (j : Nat) (v : Value), v = s5 ∧ j ≤ N ∧ i = .int .i64 j ∧ Hid (Mk (TmEl (k + k + 1)) 5 142 w wr v (q + j) (up (L ++ (a ++ b).take j))) ∧ Hid (Below w.heap.size w wr) ∧ Hid (wr.ownsRow w4.heap.size 142 5 (.slice A5 N cc5) N Q.flatten) ∧ Hid (∀ g, v.ownBlock = some g → (Value.slice A5 N cc5).ownBlock ≠ some g)) (fun _ i _ => N - (RowKit.intOf i).toNat)
        case atStart => exact ⟨0, _, rfl, Nat.zero_le _, rfl, (by show Mk _ _ _ _ _ _ _ _; rw [List.take_zero, List.append_nil]; exact M5.out), B5.out, HO5, HNE⟩
        case round =>
          clear M5 B5 HO5 HNE
          obtain ⟨j, v, rfl, hj, rfl, HM, HB, HO, HNE⟩ := hrel
          by_cases hlt : j < N
          · have hjc : (j : Int) < (N : Int) := by omega
            obtain ⟨ad, t, r, rfl, hab, hlj, hr1, hr2, hf, q0, q1, q2, q3, q4⟩ := tm_at (k := k) (l := up (a ++ b)) (els_own HO.out QL.out.1 (by rw [up_len]; exact QL.out.2) (fun i t hi => by obtain ⟨cs, d1, d2, d3⟩ := QE.out i t hi; exact ⟨cs, d1, d2, TmEl.keeps k _ _ _ _ d3 HB.out⟩)) hlt
            obtain ⟨u, hu, rfl⟩ : ∃ u, (a ++ b)[j]? = some u ∧ t = (u.1, some u.2) := by
              unfold up at hlj
              rw [List.getElem?_map, Option.map_eq_some_iff] at hlj
              obtain ⟨u, h1, h2⟩ := hlj
              exact ⟨u, h1, h2.symm⟩
            have HTK : Hid ((a ++ b).take (j + 1) = (a ++ b).take j ++ [u]) := by show _ = _; rw [List.take_add_one, hu]; rfl
            obtain ⟨s1, A1', n1', c1', s2, A2', n2', c2'⟩ := r
            obtain ⟨tv, tq⟩ := u
            dsimp only at q0 q1 q2 q3 q4 hf
            have BW : Hid (Below wr.heap.size wr (wr.alloc (.cells #[.int .i64 tv, .int .i64 s1, .slice A1' n1' c1', .int .i64 s2, .slice A2' n2' c2'] 142))) := bal (Below.refl _ _)
            have C := Lib.hid (copyOf_T (v := tv) ⟨s1, A1', n1', c1', s2, A2', n2', c2'⟩ (Fg.past hf BW.out) (by omega))
            dsimp only at C
            clear hf hlj hu hr1 hr2 hab
            go_wp2_with fail
            refine C.out.mono ?_
            rintro e w6 ⟨⟨s5, A6, n5, c5, s6, A7, n6, c6⟩, rfl, hc1, hc2, hf, f1, f2, hb⟩
            have B6 := Lib.hid (BW.out.trans (hb.mono BW.out.size))
            obtain ⟨xs, o1, o2, o3, o4, o5⟩ := app_new (u := tv) HM.out HB.out B6.out (hf.more (j := k + k + 1) (by omega)) (Fresh.old f1 BW.out.size) (Fresh.old f2 BW.out.size) hc1 hc2
            have O1 := Lib.hid o1
            have O2 := Lib.hid o2
            have O3 := Lib.hid o3
            have O4 := Lib.hid o4
            have O5 := Lib.hid o5
            clear hb hc1 hc2 hf f1 f2 o1 o2 o3 o4 o5 q0 q1 q2 q3 q4 C
            go_wp2_with (at_builtin; refine wpList_append_any _ rfl (.tmp 102) (.tmp 105) 59 rfl w.heap.size 142 i0 _ 5 72 Tryz.underlying59 hi hz0 hz1 hz2 rfl (by decide) _ _ xs rfl O1.out _ (some ⟨w6.heap.size, 0, none⟩) 1 1 _ rfl O2.out O3.out (by unfold maxLen; omega) (by omega) O4.out ?_; intro v' w7 p1 p2 p3)
            obtain ⟨m1, m2⟩ := O5.out v' w7 p1 p2 p3
            have HB7 := Lib.hid m2
            have HO7 : Hid (w7.ownsRow w4.heap.size 142 5 (.slice (some ad) N cc5) N Q.flatten) := own_grown (own_on (own_on HO.out B6.out) (bal (Below.refl _ _))) p2 (fun g e1 e2 => HNE.out g e2 e1)
            have HNE7 : Hid (∀ g, v'.ownBlock = some g → (Value.slice (some ad) N cc5).ownBlock ≠ some g) := fun g e1 e2 => by
              rcases p3 with p3 | p3
              · rw [p3] at e1
                exact HNE.out g e1 e2
              · rw [p3] at e1
                cases e1
                have h1 := (HO.out.lt _ e2).2
                have h2 := B6.out.size
                simp at h1
                omega
            have HM7 : Hid (Mk (TmEl (k + k + 1)) 5 142 w w7 v' (q + (j + 1)) (up (L ++ (a ++ b).take (j + 1)))) := by
              show Mk _ _ _ _ _ _ _ _
              rw [HTK.out, ← List.append_assoc, up_app]
              exact m1
            clear p1 p2 p3 m1 m2 O1 O2 O3 O4 O5
            go_wp2_with fail
            go_roundw
            case rel => exact ⟨j + 1, _, rfl, by omega, by go_num, HM7, HB7, HO7, HNE7⟩
            case measure => simp [RowKit.intOf]; omega
          · obtain rfl : j = N := by omega
            have HMf : Hid (Mk (TmEl (k + k + 1)) 5 142 w wr v (q + j) (up (plusT la lb))) := by
              show Mk _ _ _ _ _ _ _ _
              have := HM.out
              rw [List.take_of_length_le (by rw [QL.out.2]; exact Nat.le_refl _), ← HPE.out] at this
              exact this
            obtain ⟨A9, c9, rfl, h91, h92⟩ := HMf.out.form
            have HE := Lib.hid HMf.out.els
            go_wp2_with fail
            go_ret
            exact ⟨A9, _, c9, rfl, h91, HE.out, HB.out⟩
      · have hi1 : (0 : Int) < (n1 : Int) := by omega
        have hi2 : (0 : Int) < (n2 : Int) := by omega
        obtain ⟨ad1, t, a', r1, rfl, rfl, hr1, hr2, hf1, hab1, q0, q1, q2, q3, q4⟩ := head_at HA.out h1 HB.out
        obtain ⟨ad2, u, b', r2, rfl, rfl, hr3, hr4, hf2, hab2, p0, p1, p2, p3, p4⟩ := head_at HBl.out h2 HB.out
        have TA := tail_at HA.out h1c
        have TB := tail_at HBl.out h2c
        obtain ⟨X1, hX1⟩ : ∃ X, (if c1 = 1 then some ad1 else some (⟨ad1.block, ad1.off + 5, none⟩ : Addr)) = X := ⟨_, rfl⟩
        obtain ⟨X2, hX2⟩ : ∃ X, (if c2 = 1 then some ad2 else some (⟨ad2.block, ad2.off + 5, none⟩ : Addr)) = X := ⟨_, rfl⟩
        rw [hX1] at TA
        rw [hX2] at TB
        have HA2 := Lib.hid TA
        have HBl2 := Lib.hid TB
        have hj1 : (1 : Int) ≤ (n1 : Int) := by omega
        have hj2 : (1 : Int) ≤ (n2 : Int) := by omega
        have hj3 : (n1 : Int) ≤ (c1 : Int) := by omega
        have hj4 : (n2 : Int) ≤ (c2 : Int) := by omega
        clear TA TB
        obtain ⟨s11, A11, n11, c11, s12, A12, n12, c12⟩ := r1
        obtain ⟨s13, A13, n13, c13, s14, A14, n14, c14⟩ := r2
        obtain ⟨tv, tq⟩ := t
        obtain ⟨uv, uq⟩ := u
        dsimp only at q0 q1 q2 q3 q4 p0 p1 p2 p3 p4 hf1 hf2
        have HF1 := Lib.hid hf1
        have HF2 := Lib.hid hf2
        clear hf1 hf2 hr1 hr2 hr3 hr4
        go_wp2_with fail
        go_quiet (fail)
        obtain ⟨wq, hwq⟩ : ∃ wq, wq = wr.drewN nq := ⟨_, rfl⟩
        have BQ : Hid (Below wr.heap.size wr wq) := by show Below _ _ _; rw [hwq]; exact below_drewN (Below.refl _ _) _
        rw [← hwq]
        clear hwq
        replace q0 := cell_on BQ.out q0
        replace q1 := cell_on BQ.out q1
        replace q2 := cell_on BQ.out q2
        replace q3 := cell_on BQ.out q3
        replace q4 := cell_on BQ.out q4
        replace p0 := cell_on BQ.out p0
        replace p1 := cell_on BQ.out p1
        replace p2 := cell_on BQ.out p2
        replace p3 := cell_on BQ.out p3
        replace p4 := cell_on BQ.out p4
        replace HF1 := Lib.hid (Fg.past HF1.out BQ.out)
        replace HF2 := Lib.hid (Fg.past HF2.out BQ.out)
        replace HM := Lib.hid (HM.out.past (TmEl.keeps _) BQ.out)
        replace HB := Lib.hid (HB.out.trans (BQ.out.mono HB.out.size))
        replace HA := Lib.hid HA.out
        clear BQ
        rcases Int.lt_trichotomy tv uv with hlt | heq | hgt
        · have HP2 : Hid (plusT la lb = (L ++ [(tv, tq)]) ++ plusT a' ((uv, uq) :: b')) := by show _ = _; rw [HP.out, plusT_lt (t := (tv, tq)) (u := (uv, uq)) hlt, List.append_assoc]; rfl
          go_wp2_with fail
          have C := Lib.hid (copyOf_T (w := wq.drew) (v := tv) ⟨s11, A11, n11, c11, s12, A12, n12, c12⟩ (Fg.past HF1.out (bdr wq)) (by omega))
          dsimp only at C
          have HS : Hid (∀ w', Below wq.heap.size wq w' → w'.cell? ad1 = some (.int .i64 tv) ∧ w'.cell? ⟨ad1.block, ad1.off + 1, none⟩ = some (.int .i64 s11) ∧ w'.cell? ⟨ad1.block, ad1.off + 2, none⟩ = some (.slice A11 n11 c11) ∧ w'.cell? ⟨ad1.block, ad1.off + 3, none⟩ = some (.int .i64 s12) ∧ w'.cell? ⟨ad1.block, ad1.off + 4, none⟩ = some (.slice A12 n12 c12)) := fun w' hb => ⟨cell_on hb q0, cell_on hb q1, cell_on hb q2, cell_on hb q3, cell_on hb q4⟩
          have HK : Hid (∀ w', Below w.heap.size w w' → w'.cell? ad1 = some (.int .i64 tv) ∧ w'.cell? ⟨ad1.block, ad1.off + 1, none⟩ = some (.int .i64 s11) ∧ w'.cell? ⟨ad1.block, ad1.off + 2, none⟩ = some (.slice A11 n11 c11) ∧ w'.cell? ⟨ad1.block, ad1.off + 3, none⟩ = some (.int .i64 s12) ∧ w'.cell? ⟨ad1.block, ad1.off + 4, none⟩ = some (.slice A12 n12 c12)) := fun w' hb => ⟨(hb.cell hab1).trans ((HB.out.cell hab1).symm.trans q0), (hb.cell (p := ⟨ad1.block, ad1.off + 1, none⟩) hab1).trans ((HB.out.cell (p := ⟨ad1.block, ad1.off + 1, none⟩) hab1).symm.trans q1), (hb.cell (p := ⟨ad1.block, ad1.off + 2, none⟩) hab1).trans ((HB.out.cell (p := ⟨ad1.block, ad1.off + 2, none⟩) hab1).symm.trans q2), (hb.cell (p := ⟨ad1.block, ad1.off + 3, none⟩) hab1).trans ((HB.out.cell (p := ⟨ad1.block, ad1.off + 3, none⟩) hab1).symm.trans q3), (hb.cell (p := ⟨ad1.block, ad1.off + 4, none⟩) hab1).trans ((HB.out.cell (p := ⟨ad1.block, ad1.off + 4, none⟩) hab1).symm.trans q4)⟩
          go_region_held3 (fun w' => w'.cell? ad1 = some (.int .i64 tv) ∧ w'.cell? ⟨ad1.block, ad1.off + 1, none⟩ = some (.int .i64 s11) ∧ w'.cell? ⟨ad1.block, ad1.off + 2, none⟩ = some (.slice A11 n11 c11) ∧ w'.cell? ⟨ad1.block, ad1.off + 3, none⟩ = some (.int .i64 s12) ∧ w'.cell? ⟨ad1.block, ad1.off + 4, none⟩ = some (.slice A12 n12 c12))
          (first | exact HS.out _ (bdr wq) | with_reducible exact HS.out _ B1.out | with_reducible exact HS.out _ (bal B1.out) | exact HS9.out)
          (first | (go_at_call 177; refine C.out.mono ?_; rintro e w1 ⟨⟨s5, A5, n5, c5, s6, A6, n6, c6⟩, rfl, hc1, hc2, hf, f1, f2, hb⟩; have B1 := Lib.hid ((bdr wq).trans hb); obtain ⟨xs, o1, o2, o3, o4, o5⟩ := app_new (u := tv) HM.out HB.out B1.out (hf.more (j := k + k + 1) (by omega)) f1 f2 hc1 hc2; have O1 := Lib.hid o1; have O2 := Lib.hid o2; have O3 := Lib.hid o3; have O4 := Lib.hid o4; have O5 := Lib.hid o5; clear hb hc1 hc2 hf f1 f2 o1 o2 o3 o4 o5; dsimp only) | (refine step_append_any _ rfl (.tmp 71) (.tmp 76) 59 rfl w.heap.size 142 i0 _ 5 72 Tryz.underlying59 hi hz0 hz1 hz2 rfl (by decide) _ _ xs rfl O1.out _ (some ⟨w1.heap.size, 0, none⟩) 1 1 _ rfl O2.out O3.out (by unfold maxLen; omega) (by omega) O4.out ?_; intro v' w2 p1 p2 p3; obtain ⟨m1, m2⟩ := O5.out v' w2 p1 p2 p3; have HM2 := Lib.hid m1; have HB2 := Lib.hid m2; have HS9 : Hid (w2.cell? ad1 = some (.int .i64 tv) ∧ w2.cell? ⟨ad1.block, ad1.off + 1, none⟩ = some (.int .i64 s11) ∧ w2.cell? ⟨ad1.block, ad1.off + 2, none⟩ = some (.slice A11 n11 c11) ∧ w2.cell? ⟨ad1.block, ad1.off + 3, none⟩ = some (.int .i64 s12) ∧ w2.cell? ⟨ad1.block, ad1.off + 4, none⟩ = some (.slice A12 n12 c12)) := HK.out w2 m2; clear p1 p2 p3 m1 m2))
          go_wp2_with fail
          go_roundw
          case rel => exact ⟨a', (uv, uq) :: b', L ++ [(tv, tq)], _, _, n1 - 1, c1 - 1, n2, c2, q + 1, _, rfl, rfl, rfl, by omega, h2c, by omega, HA2, HBl, HP2, (by show Mk _ _ _ _ _ _ _ _; rw [up_app]; exact HM2.out), HB2.out⟩
          case measure => simp [slLen]; omega
        · subst heq
          have C := Lib.hid (fun W (hb : Below wq.heap.size wq W) => add_R (w := W) ⟨s11, A11, n11, c11, s12, A12, n12, c12⟩ ⟨s13, A13, n13, c13, s14, A14, n14, c14⟩ (Fg.past HF1.out hb) (Fg.past HF2.out hb) (HT.out.on (HB.out.trans (hb.mono HB.out.size))) (by omega))
          dsimp only [frV] at C
          have HS : Hid (∀ w', Below wq.heap.size wq w' → (w'.cell? ⟨ad1.block, ad1.off + 1, none⟩ = some (.int .i64 s11) ∧ w'.cell? ⟨ad1.block, ad1.off + 1 + 1, none⟩ = some (.slice A11 n11 c11) ∧ w'.cell? ⟨ad1.block, ad1.off + 1 + 2, none⟩ = some (.int .i64 s12) ∧ w'.cell? ⟨ad1.block, ad1.off + 1 + 3, none⟩ = some (.slice A12 n12 c12)) ∧ w'.cell? ⟨ad2.block, ad2.off + 1, none⟩ = some (.int .i64 s13) ∧ w'.cell? ⟨ad2.block, ad2.off + 1 + 1, none⟩ = some (.slice A13 n13 c13) ∧ w'.cell? ⟨ad2.block, ad2.off + 1 + 2, none⟩ = some (.int .i64 s14) ∧ w'.cell? ⟨ad2.block, ad2.off + 1 + 3, none⟩ = some (.slice A14 n14 c14)) := fun w' hb => ⟨⟨cell_on hb q1, cell_on hb q2, cell_on hb q3, cell_on hb q4⟩, cell_on hb p1, cell_on hb p2, cell_on hb p3, cell_on hb p4⟩
          have hn1' : (tv == tv) = true := by simp
          go_wp2_with fail
          go_region_held3 (fun w' => (w'.cell? ⟨ad1.block, ad1.off + 1, none⟩ = some (.int .i64 s11) ∧ w'.cell? ⟨ad1.block, ad1.off + 1 + 1, none⟩ = some (.slice A11 n11 c11) ∧ w'.cell? ⟨ad1.block, ad1.off + 1 + 2, none⟩ = some (.int .i64 s12) ∧ w'.cell? ⟨ad1.block, ad1.off + 1 + 3, none⟩ = some (.slice A12 n12 c12)) ∧ w'.cell? ⟨ad2.block, ad2.off + 1, none⟩ = some (.int .i64 s13) ∧ w'.cell? ⟨ad2.block, ad2.off + 1 + 1, none⟩ = some (.slice A13 n13 c13) ∧ w'.cell? ⟨ad2.block, ad2.off + 1 + 2, none⟩ = some (.int .i64 s14) ∧ w'.cell? ⟨ad2.block, ad2.off + 1 + 3, none⟩ = some (.slice A14 n14 c14))
            (first | exact HS.out _ (bdr wq) | with_reducible exact HS.out _ HBX.out | with_reducible exact HS.out _ (bal HBX.out) | with_reducible exact HS.out _ (bal (Below.refl _ _)).drew | with_reducible exact HS.out _ (bal (Below.refl _ _)) | exact HS.out _ (below_4 HBX.out (Nat.le_refl _)))
            (first | (go_at_call 43; (with_reducible refine (C.out wq.drew (bdr wq)).mono ?_); rintro e w3' ⟨⟨s5, A5, n5, c5, s6, A6, n6, c6⟩, rfl, hc1, hc2, hf, f1, f2, hb⟩; have BX := Lib.hid (bx_late hb hf f1 f2 hc1 hc2); have HBX := Lib.hid ((bdr wq).trans hb); clear hb hc1 hc2 hf f1 f2; dsimp only [frV]) | (go_at_call 43; (with_reducible refine (C.out _ (bal (Below.refl _ _)).drew).mono ?_); rintro e w3' ⟨⟨s5, A5, n5, c5, s6, A6, n6, c6⟩, rfl, hc1, hc2, hf, f1, f2, hb⟩; have BX := Lib.hid (bx_early hb hf f1 f2 hc1 hc2); obtain ⟨e0, e1, e2, e3, e4, e5, e6, e7⟩ := fr_cells (bx_box hb); have HBX : Hid (Below wq.heap.size wq w3') := ((bal (Below.refl _ _)).drew).trans (hb.mono (by simp)); clear hb hc1 hc2 hf f1 f2; dsimp only [frV]))
          all_goals
            dsimp only [frC] at BX
            first
              | (obtain ⟨W4, hW4⟩ : ∃ W4, W4 = w3'.alloc (.cells #[.int .i64 s5, .slice A5 n5 c5, .int .i64 s6, .slice A6 n6 c6] 43) := ⟨_, rfl⟩
                 rw [← hW4] at BX ⊢
                 obtain ⟨g, hg⟩ : ∃ g, g = w3'.heap.size := ⟨_, rfl⟩
                 rw [← hg] at BX ⊢)
              | (obtain ⟨W4, hW4⟩ : ∃ W4, W4 = (((w3'.setCell ⟨wq.heap.size, 0, none⟩ (.int .i64 s5)).setCell ⟨wq.heap.size, 1, none⟩ (.slice A5 n5 c5)).setCell ⟨wq.heap.size, 2, none⟩ (.int .i64 s6)).setCell ⟨wq.heap.size, 3, none⟩ (.slice A6 n6 c6) := ⟨_, rfl⟩
                 rw [← hW4] at BX ⊢
                 obtain ⟨g, hg⟩ : ∃ g, g = wq.heap.size := ⟨_, rfl⟩
                 rw [← hg] at BX ⊢)
            clear hW4 hg HBX HS C q0 q1 q2 q3 q4 p0 p1 p2 p3 p4 HF1 HF2
            obtain ⟨z0, z1, z2, z3, -, -, -, -⟩ := fr_cells BX.out.bk
            dsimp only at z0 z1 z2 z3
            obtain ⟨o, ho⟩ : ∃ o, sgnR (tq + uq) = o := ⟨_, rfl⟩
            have CS := Lib.hid (sign_R ⟨s5, A5, n5, c5, s6, A6, n6, c6⟩ BX.out.fg (HT.out.on (HB.out.trans (BX.out.bl.mono HB.out.size))) (by omega) ho)
            dsimp only [frV] at CS
            go_wp2_with fail
            refine CS.out.mono ?_
            rintro e w6 ⟨rfl, hb⟩
            have B6 := Lib.hid (BX.out.bl.trans (hb.mono BX.out.bl.size))
            have F6 := Lib.hid (Fg.past BX.out.fg hb)
            have K6 := Lib.hid (BX.out.bk.below hb BX.out.bk.lt)
            clear hb CS z0 z1 z2 z3
            by_cases h0 : tq + uq = 0
            · have HP2 : Hid (plusT la lb = L ++ plusT a' b') := by show _ = _; rw [HP.out, plusT_zero (t := (tv, tq)) (u := (tv, uq)) rfl h0]
              obtain rfl : o = 0 := by rw [← ho]; exact sgnR_zero.2 h0
              clear ho h0
              go_wp2_with fail
              go_quiet (fail)
              obtain ⟨wz, hwz⟩ : ∃ wz, wz = w6.drewN nq := ⟨_, rfl⟩
              have B7 : Hid (Below wq.heap.size wq wz) := by show Below _ _ _; rw [hwz]; exact below_drewN B6.out _
              rw [← hwz]
              clear hwz
              go_wp2_with fail
              go_roundw
              case rel => exact ⟨a', b', L, _, _, n1 - 1, c1 - 1, n2 - 1, c2 - 1, q, v, rfl, rfl, rfl, by omega, by omega, by omega, HA2, HBl2, HP2, HM.out.past (TmEl.keeps _) B7.out, HB.out.trans (B7.out.mono HB.out.size)⟩
              case measure => simp [slLen]; omega
            · have HP2 : Hid (plusT la lb = (L ++ [(tv, tq + uq)]) ++ plusT a' b') := by show _ = _; rw [HP.out, plusT_eq (t := (tv, tq)) (u := (tv, uq)) rfl h0, List.append_assoc]; rfl
              have ho0 : (o != 0) = true := by
                have : o ≠ 0 := fun e => h0 (sgnR_zero.1 (ho.trans e))
                simpa using this
              obtain ⟨xs, o1, o2, o3, o4, o5⟩ := app_new (u := tv) HM.out HB.out B6.out F6.out BX.out.f1 BX.out.f2 BX.out.c1 BX.out.c2
              have O1 := Lib.hid o1
              have O2 := Lib.hid o2
              have O3 := Lib.hid o3
              have O4 := Lib.hid o4
              have O5 := Lib.hid o5
              obtain ⟨z0, z1, z2, z3, -, -, -, -⟩ := fr_cells K6.out
              clear o1 o2 o3 o4 o5 ho h0
              go_wp2_with (at_builtin; refine wpList_append_any _ rfl (.tmp 57) (.tmp 61) 59 rfl w.heap.size 142 i0 _ 5 72 Tryz.underlying59 hi hz0 hz1 hz2 rfl (by decide) _ _ xs rfl O1.out _ (some ⟨w6.heap.size, 0, none⟩) 1 1 _ rfl O2.out O3.out (by unfold maxLen; omega) (by omega) O4.out ?_; intro v' w7 p1 p2 p3)
              obtain ⟨m1, m2⟩ := O5.out v' w7 p1 p2 p3
              have M7 := Lib.hid m1
              have B7 := Lib.hid m2
              clear p1 p2 p3 m1 m2 O1 O2 O3 O4 O5 z0 z1 z2 z3
              go_wp2_with fail
              go_quiet (fail)
              obtain ⟨wz, hwz⟩ : ∃ wz, wz = w7.drewN nq := ⟨_, rfl⟩
              have M8 : Hid (Mk (TmEl (k + k + 1)) 5 142 w wz v' (q + 1) (up (L ++ [(tv, tq + uq)]))) := by
                show Mk _ _ _ _ _ _ _ _
                rw [hwz, up_app]
                exact M7.out.past (TmEl.keeps _) (below_drewN (Below.refl _ _) _)
              have B8 : Hid (Below w.heap.size w wz) := by show Below _ _ _; rw [hwz]; exact below_drewN B7.out _
              rw [← hwz]
              clear hwz M7 B7
              go_wp2_with fail
              go_roundw
              case rel => exact ⟨a', b', L ++ [(tv, tq + uq)], _, _, n1 - 1, c1 - 1, n2 - 1, c2 - 1, q + 1, v', rfl, rfl, rfl, by omega, by omega, by omega, HA2, HBl2, HP2, M8, B8⟩
              case measure => simp [slLen]; omega
        · have HP2 : Hid (plusT la lb = (L ++ [(uv, uq)]) ++ plusT ((tv, tq) :: a') b') := by show _ = _; rw [HP.out, plusT_gt (t := (tv, tq)) (u := (uv, uq)) hgt, List.append_assoc]; rfl
          go_wp2_with fail
          have C := Lib.hid (copyOf_T (w := wq.drew) (v := uv) ⟨s13, A13, n13, c13, s14, A14, n14, c14⟩ (Fg.past HF2.out (bdr wq)) (by omega))
          dsimp only at C
          have HS : Hid (∀ w', Below wq.heap.size wq w' → w'.cell? ad2 = some (.int .i64 uv) ∧ w'.cell? ⟨ad2.block, ad2.off + 1, none⟩ = some (.int .i64 s13) ∧ w'.cell? ⟨ad2.block, ad2.off + 2, none⟩ = some (.slice A13 n13 c13) ∧ w'.cell? ⟨ad2.block, ad2.off + 3, none⟩ = some (.int .i64 s14) ∧ w'.cell? ⟨ad2.block, ad2.off + 4, none⟩ = some (.slice A14 n14 c14)) := fun w' hb => ⟨cell_on hb p0, cell_on hb p1, cell_on hb p2, cell_on hb p3, cell_on hb p4⟩
          have HK : Hid (∀ w', Below w.heap.size w w' → w'.cell? ad2 = some (.int .i64 uv) ∧ w'.cell? ⟨ad2.block, ad2.off + 1, none⟩ = some (.int .i64 s13) ∧ w'.cell? ⟨ad2.block, ad2.off + 2, none⟩ = some (.slice A13 n13 c13) ∧ w'.cell? ⟨ad2.block, ad2.off + 3, none⟩ = some (.int .i64 s14) ∧ w'.cell? ⟨ad2.block, ad2.off + 4, none⟩ = some (.slice A14 n14 c14)) := fun w' hb => ⟨(hb.cell hab2).trans ((HB.out.cell hab2).symm.trans p0), (hb.cell (p := ⟨ad2.block, ad2.off + 1, none⟩) hab2).trans ((HB.out.cell (p := ⟨ad2.block, ad2.off + 1, none⟩) hab2).symm.trans p1), (hb.cell (p := ⟨ad2.block, ad2.off + 2, none⟩) hab2).trans ((HB.out.cell (p := ⟨ad2.block, ad2.off + 2, none⟩) hab2).symm.trans p2), (hb.cell (p := ⟨ad2.block, ad2.off + 3, none⟩) hab2).trans ((HB.out.cell (p := ⟨ad2.block, ad2.off + 3, none⟩) hab2).symm.trans p3), (hb.cell (p := ⟨ad2.block, ad2.off + 4, none⟩) hab2).trans ((HB.out.cell (p := ⟨ad2.block, ad2.off + 4, none⟩) hab2).symm.trans p4)⟩
          go_region_held3 (fun w' => w'.cell? ad2 = some (.int .i64 uv) ∧ w'.cell? ⟨ad2.block, ad2.off + 1, none⟩ = some (.int .i64 s13) ∧ w'.cell? ⟨ad2.block, ad2.off + 2, none⟩ = some (.slice A13 n13 c13) ∧ w'.cell? ⟨ad2.block, ad2.off + 3, none⟩ = some (.int .i64 s14) ∧ w'.cell? ⟨ad2.block, ad2.off + 4, none⟩ = some (.slice A14 n14 c14))
          (first | exact HS.out _ (bdr wq) | with_reducible exact HS.out _ B1.out | with_reducible exact HS.out _ (bal B1.out) | exact HS9.out)
          (first | (go_at_call 177; refine C.out.mono ?_; rintro e w1 ⟨⟨s5, A5, n5, c5, s6, A6, n6, c6⟩, rfl, hc1, hc2, hf, f1, f2, hb⟩; have B1 := Lib.hid ((bdr wq).trans hb); obtain ⟨xs, o1, o2, o3, o4, o5⟩ := app_new (u := uv) HM.out HB.out B1.out (hf.more (j := k + k + 1) (by omega)) f1 f2 hc1 hc2; have O1 := Lib.hid o1; have O2 := Lib.hid o2; have O3 := Lib.hid o3; have O4 := Lib.hid o4; have O5 := Lib.hid o5; clear hb hc1 hc2 hf f1 f2 o1 o2 o3 o4 o5; dsimp only) | (refine step_append_any _ rfl (.tmp 84) (.tmp 89) 59 rfl w.heap.size 142 i0 _ 5 72 Tryz.underlying59 hi hz0 hz1 hz2 rfl (by decide) _ _ xs rfl O1.out _ (some ⟨w1.heap.size, 0, none⟩) 1 1 _ rfl O2.out O3.out (by unfold maxLen; omega) (by omega) O4.out ?_; intro v' w2 p1 p2 p3; obtain ⟨m1, m2⟩ := O5.out v' w2 p1 p2 p3; have HM2 := Lib.hid m1; have HB2 := Lib.hid m2; have HS9 : Hid (w2.cell? ad2 = some (.int .i64 uv) ∧ w2.cell? ⟨ad2.block, ad2.off + 1, none⟩ = some (.int .i64 s13) ∧ w2.cell? ⟨ad2.block, ad2.off + 2, none⟩ = some (.slice A13 n13 c13) ∧ w2.cell? ⟨ad2.block, ad2.off + 3, none⟩ = some (.int .i64 s14) ∧ w2.cell? ⟨ad2.block, ad2.off + 4, none⟩ = some (.slice A14 n14 c14)) := HK.out w2 m2; clear p1 p2 p3 m1 m2))
          go_wp2_with fail
          go_roundw
          case rel => exact ⟨(tv, tq) :: a', b', L ++ [(uv, uq)], _, _, n1, c1, n2 - 1, c2 - 1, q + 1, _, rfl, rfl, rfl, h1c, by omega, by omega, HA, HBl2, HP2, (by show Mk _ _ _ _ _ _ _ _; rw [up_app]; exact HM2.out), HB2.out⟩
          case measure => simp [slLen]; omega
end
end Go.Proofs.YtikfjmdeeknalaaGreatDoor

/- The walks of linear's Times and Same at right lists. Conditions: sizes; the table of math/bits as its text lays it. -/
namespace Go.Proofs.YtikfjmdeeknalaaGreatDoor
set_option maxRecDepth 20000
open Go.RowKit

/-- How a function that returns a list of terms ends. -/
def ListEnd (w : World) (K : Nat) (l : List (Int × Rat)) (e : Ending) (w' : World) : Prop := ∃ A p c, e = .returned (.slice A p c) ∧ p ≤ c ∧ Ts K w' A p (up l) ∧ Below w.heap.size w w'
section
variable {k n : Nat} {A : Option Addr} {la : List (Int × Rat)} {w : World} {x : Rat}
set_option maxHeartbeats 4000000 in
theorem Times_0 (c : Nat) (rf : FrR) (hf : Fg w k 0 rf) (hT : TabZ w) (hk : k ≤ 1000) (la : List (Int × Rat)) :
    Calls Tryz.prog 93 #[.slice A n c, frV rf] w (ListEnd w (k + k) (timesT 0 la)) := by
  obtain ⟨W0, hW0⟩ : ∃ W0, W0 = w.alloc (.cells (frC rf) 43) := ⟨_, rfl⟩
  have HB0 : Hid (Below w.heap.size w W0) := by show Below _ _ _; rw [hW0]; exact bal (Below.refl _ _)
  have KF : Hid (Blk W0 w.heap.size 43 (frC rf)) := by show Blk _ _ _ _; rw [hW0]; exact Blk.new _ _ _
  have C1 := Lib.hid (sign_R rf (Fg.past hf HB0.out) (hT.on HB0.out) (by omega) (sgnR_zero.2 rfl))
  clear hf hT
  obtain ⟨s1, A1, n1, c1, s2, A2, n2, c2⟩ := rf
  dsimp only [frV, frC] at *
  obtain ⟨z0, z1, z2, z3, -, -, -, -⟩ := fr_cells KF.out
  go_enter Tryz.func93, Tryz.ntmps93
  go_upto_region 1 with (fail)
  rw [← hW0]
  clear hW0
  go_wp2_with fail
  refine C1.out.mono ?_
  rintro e w1 ⟨rfl, hb⟩
  have B1 := Lib.hid (HB0.out.trans (hb.mono HB0.out.size))
  clear hb C1
  go_wp2_with fail
  go_ret
  exact ⟨none, 0, 0, rfl, Nat.le_refl _, by rw [times_zero]; exact Els.nil, B1.out⟩
set_option maxHeartbeats 16000000 in
theorem Times_1 (c : Nat) (rf : FrR) (hl : Ts k w A n (up la)) (hf : Fg w k x rf) (hx : x ≠ 0) (hT : TabZ w) (ra : rightT (-1) 1500 la = true) (hk : k ≤ 1000) (hn : n ≤ 1000) :
    Calls Tryz.prog 93 #[.slice A n c, frV rf] w (ListEnd w (k + k) (timesT x la)) := by
  obtain ⟨i0, hi, hz0, hz1, hz2⟩ := info_parts infoTm
  obtain ⟨W0, hW0⟩ : ∃ W0, W0 = w.alloc (.cells (frC rf) 43) := ⟨_, rfl⟩
  have HB0 : Hid (Below w.heap.size w W0) := by show Below _ _ _; rw [hW0]; exact bal (Below.refl _ _)
  have KF : Hid (Blk W0 w.heap.size 43 (frC rf)) := by show Blk _ _ _ _; rw [hW0]; exact Blk.new _ _ _
  obtain ⟨o, ho⟩ : ∃ o, sgnR x = o := ⟨_, rfl⟩
  have ho0 : (o == 0) = false := by
    have : o ≠ 0 := fun e => hx (sgnR_zero.1 (ho.trans e))
    simpa using this
  have C1 := Lib.hid (sign_R rf (Fg.past hf HB0.out) (hT.on HB0.out) (by omega) ho)
  have C2 := Lib.hid (fun W (hb : Below W0.heap.size W0 W) => RT_any c 1500 W (Lib.hid (hl.past (TmEl.keeps k) (HB0.out.trans (hb.mono HB0.out.size)))) (Lib.hid (hT.on (HB0.out.trans (hb.mono HB0.out.size)))) (by omega) (by omega) ((goT_up (by omega)).trans ra))
  have HL : Hid (Ts k W0 A n (up la)) := hl.past (TmEl.keeps k) HB0.out
  have HF : Hid (Fg W0 k x rf) := Fg.past hf HB0.out
  have HT : Hid (TabZ W0) := hT.on HB0.out
  have HLl : Hid (la.length = n) := by show _ = _; have := hl.len; rw [up_len] at this; exact this
  have HX : Hid (timesT x la = la.map fun t => (t.1, t.2 * x)) := by show _ = _; unfold timesT; rw [if_neg hx]
  have hmk : ∀ wx : World, (Instr.makeSlice 59 (.int .i64 0) (.int .i64 (n : Int))).run Tryz.prog wx = .ok (.slice (some ⟨wx.heap.size, 0, none⟩) 0 n) (wx.alloc (.cells (madeCells (Value.cells (.agg #[.int .i64 0, .int .i64 0, .slice none 0 0, .int .i64 0, .slice none 0 0])) (n * 5)) 142)) := fun wx => by
    have hr := run_make (P := Tryz.prog) wx 59 142 i0 _ Tryz.underlying59 hi hz0 .i64 .i64 0 (n : Int) (by omega) (by omega) (by rw [hz2]; omega) (by omega)
    rw [hz1, Int.toNat_natCast] at hr
    exact hr
  obtain ⟨Z, hZ⟩ : ∃ Z, madeCells (Value.cells (.agg #[.int .i64 0, .int .i64 0, .slice none 0 0, .int .i64 0, .slice none 0 0])) (n * 5) = Z := ⟨_, rfl⟩
  have hZs : Z.size = n * 5 := by rw [← hZ, size_madeCells]
  rw [hZ] at hmk
  clear hZ hl hf hT ra hx ho
  obtain ⟨s11, A11, n11, c11, s12, A12, n12, c12⟩ := rf
  dsimp only [frV, frC] at *
  obtain ⟨f0, f1, f2, f3, -, -, -, -⟩ := fr_cells KF.out
  go_enter Tryz.func93, Tryz.ntmps93
  go_upto_region 1 with (fail)
  rw [← hW0]
  clear hW0
  go_wp2_with fail
  refine C1.out.mono ?_
  rintro e w1 ⟨rfl, hb⟩
  have B1 := Lib.hid hb
  clear hb C1
  go_wp2_with fail
  refine (C2.out w1 B1.out).mono ?_
  rintro e w2 ⟨rfl, hb⟩
  have B2 := Lib.hid (B1.out.trans (hb.mono B1.out.size))
  clear hb C2 B1
  go_wp2_with fail
  obtain ⟨w3, hw3⟩ : ∃ w3, w3 = w2.alloc (.cells Z 142) := ⟨_, rfl⟩
  have HM0 : Hid (Mk (TmEl (k + k)) 5 142 W0 w3 (.slice (some ⟨w2.heap.size, 0, none⟩) 0 n) 0 (up [])) := by
    refine ⟨[], ?_, rfl, rfl, fun i a h => by simp [up] at h⟩
    rw [hw3]
    exact own_room (w0 := W0) (heap_alloc_new w2 _) B2.out.size hZs (by unfold maxLen; omega)
  have B3 : Hid (Below W0.heap.size W0 w3) := by show Below _ _ _; rw [hw3]; exact B2.out.alloc B2.out.size _
  rw [← hw3]
  clear hw3 B2 hmk hZs
  go_loopw [5, 23] (fun s5 i wr => ∃ (j : Nat) (v : Value), v = s5 ∧ j ≤ n ∧ i = .int .i64 j ∧ Hid (Mk (TmEl (k + k)) 5 142 W0 wr v j (up ((la.map fun t => (t.1, t.2 * x)).take j))) ∧ Hid (Below W0.heap.size W0 wr)) (fun _ i _ => n - (RowKit.intOf i).toNat)
  case atStart => exact ⟨0, _, rfl, Nat.zero_le _, rfl, HM0, B3⟩
  case round =>
    clear HM0 B3 f0 f1 f2 f3
    obtain ⟨j, v, rfl, hj, rfl, HM, HB⟩ := hrel
    by_cases hlt : j < n
    · have hjc : (j : Int) < (n : Int) := by omega
      obtain ⟨ad, t, r, rfl, hab, hlj, hr1, hr2, hf, q0, q1, q2, q3, q4⟩ := tm_at (Els.past (TmEl.keeps k) HL.out HB.out) hlt
      obtain ⟨u, hu, rfl⟩ : ∃ u, la[j]? = some u ∧ t = (u.1, some u.2) := by
        unfold up at hlj
        rw [List.getElem?_map, Option.map_eq_some_iff] at hlj
        obtain ⟨u, h1, h2⟩ := hlj
        exact ⟨u, h1, h2.symm⟩
      have HTK : Hid ((la.map fun t => (t.1, t.2 * x)).take (j + 1) = (la.map fun t => (t.1, t.2 * x)).take j ++ [(u.1, u.2 * x)]) := by show _ = _; rw [List.take_add_one, List.getElem?_map, hu]; rfl
      obtain ⟨s1, A1, n1, c1, s2, A2, n2, c2⟩ := r
      obtain ⟨tv, tq⟩ := u
      dsimp only at q0 q1 q2 q3 q4 hf HTK
      obtain ⟨W, hW⟩ : ∃ W, W = wr.alloc (.cells #[.int .i64 tv, .int .i64 s1, .slice A1 n1 c1, .int .i64 s2, .slice A2 n2 c2] 142) := ⟨_, rfl⟩
      have BW : Hid (Below wr.heap.size wr W) := by show Below _ _ _; rw [hW]; exact bal (Below.refl _ _)
      have KT : Hid (Blk W wr.heap.size 142 #[.int .i64 tv, .int .i64 s1, .slice A1 n1 c1, .int .i64 s2, .slice A2 n2 c2]) := by show Blk _ _ _ _; rw [hW]; exact Blk.new _ _ _
      have BW2 := Lib.hid (HB.out.trans (BW.out.mono HB.out.size))
      have KF2 := Lib.hid (KF.out.below BW2.out KF.out.lt)
      have C := Lib.hid (mul_R ⟨s1, A1, n1, c1, s2, A2, n2, c2⟩ ⟨s11, A11, n11, c11, s12, A12, n12, c12⟩ (Fg.past hf BW.out) (Fg.past HF.out BW2.out) (HT.out.on BW2.out) (by omega))
      dsimp only [frV] at C
      obtain ⟨y0, y1, y2, y3, y4⟩ := tm_cells KT.out
      obtain ⟨f0, f1, f2, f3, -, -, -, -⟩ := fr_cells KF2.out
      clear hf hlj hu hr1 hr2 hab
      go_upto_region 7 with (fail)
      rw [← hW]
      clear hW q0 q1 q2 q3 q4
      go_wp2_with fail
      refine C.out.mono ?_
      rintro e w6 ⟨⟨s5, A5, n5, c5, s6, A6, n6, c6⟩, rfl, hc1, hc2, hf, g1, g2, hb⟩
      have KT6 := Lib.hid (KT.out.below hb KT.out.lt)
      have HC1 := Lib.hid hc1
      have HC2 := Lib.hid hc2
      have G1 := Lib.hid (Fresh.old g1 BW.out.size)
      have G2 := Lib.hid (Fresh.old g2 BW.out.size)
      obtain ⟨W6, hW6⟩ : ∃ W6, W6 = w6.alloc (.cells #[.int .i64 s5, .slice A5 n5 c5, .int .i64 s6, .slice A6 n6 c6] 43) := ⟨_, rfl⟩
      have BW6 : Hid (Below wr.heap.size wr W6) := by show Below _ _ _; rw [hW6]; exact bal (BW.out.trans (hb.mono BW.out.size))
      have F6 : Hid (Fg W6 (k + k) (tq * x) ⟨s5, A5, n5, c5, s6, A6, n6, c6⟩) := by show Fg _ _ _ _; rw [hW6]; exact hf.al
      obtain ⟨g, hg⟩ : ∃ g, g = w6.heap.size := ⟨_, rfl⟩
      have K6 : Hid (Blk W6 g 43 #[.int .i64 s5, .slice A5 n5 c5, .int .i64 s6, .slice A6 n6 c6]) := by show Blk _ _ _ _; rw [hW6, hg]; exact Blk.new _ _ _
      have KT7 : Hid (Blk W6 wr.heap.size 142 #[.int .i64 tv, .int .i64 s1, .slice A1 n1 c1, .int .i64 s2, .slice A2 n2 c2]) := by show Blk _ _ _ _; rw [hW6]; exact KT6.out.alloc _
      obtain ⟨xs, o1, o2, o3, o4, o5⟩ := app_new (u := tv) HM.out HB.out BW6.out F6.out G1.out G2.out HC1.out HC2.out
      have O1 := Lib.hid o1
      have O2 := Lib.hid o2
      have O3 := Lib.hid o3
      have O4 := Lib.hid o4
      have O5 := Lib.hid o5
      clear hb hc1 hc2 hf g1 g2 o1 o2 o3 o4 o5 C f0 f1 f2 f3 y0 y1 y2 y3 y4
      obtain ⟨y0, y1, y2, y3, y4⟩ := tm_cells KT7.out
      obtain ⟨z0, z1, z2, z3, -, -, -, -⟩ := fr_cells K6.out
      dsimp only [frV]
      go_upto_region 8 with (fail)
      rw [← hW6, ← hg]
      clear hW6 hg
      go_wp2_with (at_builtin; refine wpList_append_any _ rfl (.tmp 34) (.tmp 39) 59 rfl W0.heap.size 142 i0 _ 5 72 Tryz.underlying59 hi hz0 hz1 hz2 rfl (by decide) _ _ xs rfl O1.out _ (some ⟨W6.heap.size, 0, none⟩) 1 1 _ rfl O2.out O3.out (by unfold maxLen; omega) (by omega) O4.out ?_; intro v' w7 p1 p2 p3)
      obtain ⟨m1, m2⟩ := O5.out v' w7 p1 p2 p3
      have HB7 := Lib.hid m2
      have HM7 : Hid (Mk (TmEl (k + k)) 5 142 W0 w7 v' (j + 1) (up ((la.map fun t => (t.1, t.2 * x)).take (j + 1)))) := by
        show Mk _ _ _ _ _ _ _ _
        rw [HTK.out, up_app]
        exact m1
      clear p1 p2 p3 m1 m2 O1 O2 O3 O4 O5
      go_wp2_with fail
      go_roundw
      case rel => exact ⟨j + 1, _, rfl, by omega, by go_num, HM7, HB7⟩
      case measure => simp [RowKit.intOf]; omega
    · obtain rfl : j = n := by omega
      have HMf : Hid (Mk (TmEl (k + k)) 5 142 W0 wr v j (up (timesT x la))) := by
        show Mk _ _ _ _ _ _ _ _
        have := HM.out
        rw [List.take_of_length_le (by rw [List.length_map, HLl.out]; exact Nat.le_refl _), ← HX.out] at this
        exact this
      obtain ⟨A9, c9, rfl, h91, h92⟩ := HMf.out.form
      have HE := Lib.hid HMf.out.els
      go_wp2_with fail
      go_ret
      exact ⟨A9, _, c9, rfl, h91, HE.out, HB0.out.trans (HB.out.mono HB0.out.size)⟩
theorem Times_T (c : Nat) (rf : FrR) (hl : Ts k w A n (up la)) (hf : Fg w k x rf) (hT : TabZ w) (ra : rightT (-1) 1500 la = true) (hk : k ≤ 1000) (hn : n ≤ 1000) :
    Calls Tryz.prog 93 #[.slice A n c, frV rf] w (ListEnd w (k + k) (timesT x la)) := by
  by_cases hx : x = 0
  · subst hx
    exact Times_0 c rf hf hT hk la
  · exact Times_1 c rf hl hf hx hT ra hk hn
end
end Go.Proofs.YtikfjmdeeknalaaGreatDoor

/- The walk of linear's Same at lists of terms with right coefficients. Conditions: sizes. -/
namespace Go.Proofs.YtikfjmdeeknalaaGreatDoor
set_option maxRecDepth 20000
open Go.RowKit

section
variable {k n m : Nat} {A B : Option Addr} {la lb : List (Int × Rat)} {w : World}
set_option maxHeartbeats 4000000 in
theorem clSame (t u : Int × Rat) (r r2 : FrR) (h1 : Fg w k t.2 r) (h2 : Fg w k u.2 r2) (hk : k ≤ 100000) {b : Bool} (hb : decide (t = u) = b) :
    Calls Tryz.prog 180 #[.agg #[.int .i64 t.1, .int .i64 r.s1, .slice r.A1 r.n1 r.c1, .int .i64 r.s2, .slice r.A2 r.n2 r.c2], .agg #[.int .i64 u.1, .int .i64 r2.s1, .slice r2.A1 r2.n1 r2.c1, .int .i64 r2.s2, .slice r2.A2 r2.n2 r2.c2]] w (BoolB b w) := by
  obtain ⟨tv, tq⟩ := t
  obtain ⟨uv, uq⟩ := u
  obtain ⟨s1, A1, n1, c1, s2, A2, n2, c2⟩ := r
  obtain ⟨s3, A3, n3, c3, s4, A4, n4, c4⟩ := r2
  obtain ⟨W0, hW0⟩ : ∃ W0, W0 = (w.alloc (.cells #[.int .i64 tv, .int .i64 s1, .slice A1 n1 c1, .int .i64 s2, .slice A2 n2 c2] 142)).alloc (.cells #[.int .i64 uv, .int .i64 s3, .slice A3 n3 c3, .int .i64 s4, .slice A4 n4 c4] 142) := ⟨_, rfl⟩
  have HB0 : Hid (Below w.heap.size w W0) := by show Below _ _ _; rw [hW0]; exact bal (bal (Below.refl _ _))
  have KA : Hid (Blk W0 w.heap.size 142 #[.int .i64 tv, .int .i64 s1, .slice A1 n1 c1, .int .i64 s2, .slice A2 n2 c2]) := by show Blk _ _ _ _; rw [hW0]; exact (Blk.new _ _ _).alloc _
  have KB : Hid (Blk W0 (w.heap.size + 1) 142 #[.int .i64 uv, .int .i64 s3, .slice A3 n3 c3, .int .i64 s4, .slice A4 n4 c4]) := by show Blk _ _ _ _; rw [hW0]; exact Blk.new_ (by simp)
  obtain ⟨o, ho⟩ : ∃ o, decide (tq = uq) = o := ⟨_, rfl⟩
  have C := Lib.hid (same_R (w := W0) ⟨s1, A1, n1, c1, s2, A2, n2, c2⟩ ⟨s3, A3, n3, c3, s4, A4, n4, c4⟩ (Fg.past h1 HB0.out) (Fg.past h2 HB0.out) (by omega) ho)
  dsimp only [frV] at C
  have HBb : Hid (b = (decide (tv = uv) && o)) := by
    show _ = _
    rw [← hb, ← ho]
    by_cases e1 : tv = uv <;> by_cases e2 : tq = uq <;> simp [e1, e2]
  obtain ⟨y0, y1, y2, y3, y4⟩ := tm_cells KA.out
  obtain ⟨z0, z1, z2, z3, z4⟩ := tm_cells KB.out
  clear h1 h2 hb ho
  dsimp only
  by_cases e1 : tv = uv
  · subst e1
    have HB2 : Hid (b = o) := by show _ = _; rw [HBb.out]; simp
    go_enter Tryz.func180, Tryz.ntmps180
    go_upto_region 1 with (fail)
    rw [← hW0]
    clear hW0
    go_wp2_with fail
    refine C.out.mono ?_
    rintro e w1 ⟨rfl, hb⟩
    have B1 := Lib.hid (HB0.out.trans (hb.mono HB0.out.size))
    clear hb C y0 y1 y2 y3 y4 z0 z1 z2 z3 z4
    go_wp2_with fail
    go_ret
    exact ⟨by rw [HB2.out]; rfl, B1.out⟩
  · have HB2 : Hid (b = false) := by show _ = _; rw [HBb.out, decide_eq_false e1]; rfl
    have e2 : (tv == uv) = false := by simpa using e1
    clear C e1
    go_enter Tryz.func180, Tryz.ntmps180
    go_upto_region 1 with (fail)
    rw [← hW0]
    clear hW0
    go_wp2_with fail
    go_ret
    exact ⟨by rw [HB2.out]; rfl, HB0.out⟩
theorem up_get {l : List (Int × Rat)} {j : Nat} {t : Int × Option Rat} (h : (up l)[j]? = some t) : ∃ u, l[j]? = some u ∧ t = (u.1, some u.2) := by
  unfold up at h
  rw [List.getElem?_map, Option.map_eq_some_iff] at h
  obtain ⟨u, h1, h2⟩ := h
  exact ⟨u, h1, h2.symm⟩
set_option maxHeartbeats 8000000 in
theorem eqFunc_T (ca cb : Nat) (hl : Ts k w A n (up la)) (hm : Ts k w B m (up lb)) (hk : k ≤ 100000) (hn : n ≤ 1000000) :
    Calls Tryz.prog 179 #[.slice A n ca, .slice B m cb, .func (.func 180) #[] #[]] w (BoolB (decide (la = lb)) w) := by
  have hla : la.length = n := by have := hl.len; rw [up_len] at this; exact this
  have hlb : lb.length = m := by have := hm.len; rw [up_len] at this; exact this
  by_cases hnm : n = m
  case neg =>
    have e1 : ((n : Int) != (m : Int)) = true := by simp; omega
    have HR : Hid (decide (la = lb) = false) := decide_eq_false fun e => hnm (by rw [← hla, ← hlb, e])
    have HB0 : Hid (Below w.heap.size w w) := Below.refl _ _
    clear hl hm hla hlb hnm
    go_enter Tryz.func179, Tryz.ntmps179
    go_wp2_with fail
    go_ret
    exact ⟨by rw [HR.out]; rfl, HB0.out⟩
  subst hnm
  have HA := Lib.hid hl
  have HC := Lib.hid hm
  have HLa := Lib.hid hla
  have HLb := Lib.hid hlb
  have HB0 : Hid (Below w.heap.size w w) := Below.refl _ _
  clear hl hm hla hlb
  go_enter Tryz.func179, Tryz.ntmps179
  go_wp2_with fail
  go_loopw [17] (fun i wr => ∃ (j : Nat), j ≤ n ∧ i = .int .i64 j ∧ Hid (la.take j = lb.take j) ∧ Hid (Below w.heap.size w wr)) (fun i _ => n - (RowKit.intOf i).toNat)
  case atStart => exact ⟨0, Nat.zero_le _, rfl, by show _ = _; rw [List.take_zero, List.take_zero], HB0.out⟩
  case round =>
    clear HB0
    obtain ⟨j, hj, rfl, HE, HB⟩ := hrel
    by_cases hlt : j < n
    · have hjc : (j : Int) < (n : Int) := by omega
      obtain ⟨ad, t, r, rfl, -, hl1, -, -, hf1, q0, q1, q2, q3, q4⟩ := tm_at (Els.past (TmEl.keeps k) HA.out HB.out) hlt
      obtain ⟨ad2, u, r2, rfl, hab2, hl2, -, -, hf2, p0, p1, p2, p3, p4⟩ := tm_at (Els.past (TmEl.keeps k) HC.out HB.out) hlt
      obtain ⟨t, ht, rfl⟩ := up_get hl1
      obtain ⟨u, hu, rfl⟩ := up_get hl2
      obtain ⟨s1, A1, n1, c1, s2, A2, n2, c2⟩ := r
      obtain ⟨s3, A3, n3, c3, s4, A4, n4, c4⟩ := r2
      dsimp only at q0 q1 q2 q3 q4 p0 p1 p2 p3 p4 hf1 hf2
      have z0 := cell_on (bal (Below.refl _ wr) (o := .cells #[.int .i64 t.1, .int .i64 s1, .slice A1 n1 c1, .int .i64 s2, .slice A2 n2 c2] 142)) p0
      obtain ⟨b, hb⟩ : ∃ b, decide (t = u) = b := ⟨_, rfl⟩
      have BW : Hid (Below wr.heap.size wr ((wr.alloc (.cells #[.int .i64 t.1, .int .i64 s1, .slice A1 n1 c1, .int .i64 s2, .slice A2 n2 c2] 142)).alloc (.cells #[.int .i64 u.1, .int .i64 s3, .slice A3 n3 c3, .int .i64 s4, .slice A4 n4 c4] 142))) := bal (bal (Below.refl _ _))
      have C := Lib.hid (clSame t u ⟨s1, A1, n1, c1, s2, A2, n2, c2⟩ ⟨s3, A3, n3, c3, s4, A4, n4, c4⟩ (Fg.past hf1 BW.out) (Fg.past hf2 BW.out) hk hb)
      dsimp only at C
      have HBlt : ad2.block < wr.heap.size := hab2
      have HBlt2 : (ad2.add (j * 5)).block < wr.heap.size := by rw [block_of_add]; exact hab2
      cases b with
      | true =>
        obtain rfl : t = u := of_decide_eq_true hb
        have HE2 : Hid (la.take (j + 1) = lb.take (j + 1)) := by show _ = _; rw [List.take_add_one, List.take_add_one, HE.out, ht, hu]
        clear hf1 hf2 hl1 hl2 ht hu hb
        go_wp2_with fail
        refine C.out.mono ?_
        rintro e w2 ⟨rfl, hb2⟩
        have B2 : Hid (Below w.heap.size w w2) := (HB.out.trans (BW.out.mono HB.out.size)).trans (hb2.mono (HB.out.trans (BW.out.mono HB.out.size)).size)
        clear hb2 C q0 q1 q2 q3 q4 p0 p1 p2 p3 p4 z0
        go_wp2_with fail
        go_roundw
        case rel => exact ⟨j + 1, by omega, by go_num, HE2, B2.out⟩
        case measure => simp [RowKit.intOf]; omega
      | false =>
        have HR : Hid (decide (la = lb) = false) := decide_eq_false fun e => by
          rw [e, hu] at ht
          exact of_decide_eq_false hb (Option.some.inj ht).symm
        clear hf1 hf2 hl1 hl2 ht hu hb
        go_wp2_with fail
        refine C.out.mono ?_
        rintro e w2 ⟨rfl, hb2⟩
        have B2 : Hid (Below w.heap.size w w2) := (HB.out.trans (BW.out.mono HB.out.size)).trans (hb2.mono (HB.out.trans (BW.out.mono HB.out.size)).size)
        clear hb2 C q0 q1 q2 q3 q4 p0 p1 p2 p3 p4 z0
        go_wp2_with fail
        go_ret
        exact ⟨by rw [HR.out]; rfl, B2.out⟩
    · obtain rfl : j = n := by omega
      have HR : Hid (decide (la = lb) = true) := decide_eq_true (by
        have := HE.out
        rwa [List.take_of_length_le (by rw [HLa.out]; exact Nat.le_refl _), List.take_of_length_le (by rw [HLb.out]; exact Nat.le_refl _)] at this)
      go_wp2_with fail
      go_ret
      exact ⟨by rw [HR.out]; rfl, HB.out⟩
set_option maxHeartbeats 2000000 in
theorem Same_T (ca cb : Nat) (hl : Ts k w A n (up la)) (hm : Ts k w B m (up lb)) (hk : k ≤ 100000) (hn : n ≤ 1000000) :
    Calls Tryz.prog 95 #[.slice A n ca, .slice B m cb] w (BoolB (decide (la = lb)) w) := by
  have C := Lib.hid (eqFunc_T ca cb hl hm hk hn)
  obtain ⟨b, hb⟩ : ∃ b, decide (la = lb) = b := ⟨_, rfl⟩
  rw [hb] at C ⊢
  clear hl hm hb
  go_enter Tryz.func95, Tryz.ntmps95
  go_wp2_with fail
  refine C.out.mono ?_
  rintro e w1 ⟨rfl, hb⟩
  have B1 := Lib.hid hb
  clear hb C
  go_wp2_with fail
  go_ret
  exact ⟨rfl, B1.out⟩
end
end Go.Proofs.YtikfjmdeeknalaaGreatDoor
