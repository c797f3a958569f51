/- The walks of the reference's FewTerms, FewPoint and Few at any lists. Conditions: lengths. -/
import Derived.Test.YtikfjmdeeknalaaGreatDoorW9
import Derived.Test.YtikfjmdeeknalaaGreatDoorV4
namespace Go.Proofs.YtikfjmdeeknalaaGreatDoor
set_option maxRecDepth 20000
open Go.RowKit

/-- How a function that asks for sizes ends. -/
def FewEnd (P : Prop) (w : World) (e : Ending) (w' : World) : Prop := ∃ b, e = .returned (.bool b) ∧ (b = true → P) ∧ Below w.heap.size w w'

set_option maxHeartbeats 4000000 in
theorem FewTerms_any {n : Nat} {A : Option Addr} {l : List (Int × FrR)} (c : Nat) (most d : Int) (w : World) (h : Hid (Els rTm 5 w A n l)) (hm0 : 0 ≤ most) (hm : most ≤ 1073741824) :
    Calls Tryz.prog 79 #[.slice A n c, .int .i64 most, .int .i64 d] w (FewEnd ((n : Int) ≤ most ∧ ∀ t ∈ l, (t.2.n1 : Int) ≤ d ∧ (t.2.n2 : Int) ≤ d) w) := by
  have HB0 : Hid (Below w.heap.size w w) := Below.refl _ _
  go_enter Tryz.func79, Tryz.ntmps79
  go_wp2_with fail
  go_loopw [7] (fun i wr => ∃ (j : Nat), j ≤ n ∧ (j : Int) ≤ most + 1 ∧ i = .int .i64 j ∧ Hid (∀ (i : Nat) (t : Int × FrR), i < j → l[i]? = some t → (t.2.n1 : Int) ≤ d ∧ (t.2.n2 : Int) ≤ d) ∧ Hid (Below w.heap.size w wr)) (fun i _ => n - (RowKit.intOf i).toNat)
  case atStart => exact ⟨0, Nat.zero_le _, by omega, rfl, fun i t h => by omega, HB0.out⟩
  case round =>
    clear HB0
    obtain ⟨j, hj, hjm, rfl, HD, HB⟩ := hrel
    have HL := Lib.hid h.out.len
    by_cases hlt : j < n
    case neg =>
      obtain rfl : j = n := by omega
      have HA : Hid (∀ t ∈ l, (t.2.n1 : Int) ≤ d ∧ (t.2.n2 : Int) ≤ d) := fun t ht => by
        obtain ⟨i, hi⟩ := List.mem_iff_getElem?.1 ht
        exact HD.out i t (by have := (List.getElem?_eq_some_iff.1 hi).1; have := HL.out; omega) hi
      by_cases hjm2 : (j : Int) ≤ most
      · go_wp2_with fail
        go_ret
        exact ⟨true, rfl, fun _ => ⟨hjm2, HA.out⟩, HB.out⟩
      · have hjm3 : most < (j : Int) := by omega
        clear hjm2
        go_wp2_with fail
        go_ret
        exact ⟨_, rfl, (fun h => absurd (of_decide_eq_true h) (by omega)), HB.out⟩
    have hjc : (j : Int) < (n : Int) := by omega
    by_cases hjm2 : (j : Int) ≤ most
    case neg =>
      have hjm3 : most < (j : Int) := by omega
      have hnm : most < (n : Int) := by omega
      clear hjm2
      go_wp2_with fail
      go_ret
      exact ⟨_, rfl, (fun h => absurd (of_decide_eq_true h) (by omega)), HB.out⟩
    · obtain ⟨ad, t, cs, rfl, hab, hl, -, hE, hc⟩ := Els.at_ (Els.past rTm.keeps h.out HB.out) hlt
      have HLt := Lib.hid hl
      obtain ⟨rfl, -, -, -, -⟩ := hE
      obtain ⟨tv, r⟩ := t
      have q1 := hc 1 _ rfl
      have q2 := hc 2 _ rfl
      have q3 := hc 3 _ rfl
      have q4 := hc 4 _ rfl
      rw [← add_cell _ _ _ (by omega)] at q1 q2 q3 q4
      dsimp only at q1 q2 q3 q4
      obtain ⟨s1, A1, n1, c1, s2, A2, n2, c2⟩ := r
      dsimp only at q1 q2 q3 q4
      by_cases hd : (n1 : Int) ≤ d ∧ (n2 : Int) ≤ d
      · have C := Lib.hid (few5_T ⟨s1, A1, n1, c1, s2, A2, n2, c2⟩ d wr hd.1 hd.2)
        dsimp only [frV] at C
        have HD2 : Hid (∀ (i : Nat) (t : Int × FrR), i < j + 1 → l[i]? = some t → (t.2.n1 : Int) ≤ d ∧ (t.2.n2 : Int) ≤ d) := fun i t hi ht => by
          by_cases e : i = j
          · subst e
            rw [HLt.out] at ht
            cases ht
            exact hd
          · exact HD.out i t (by omega) ht
        clear hc hl hab hd
        go_wp2_with fail
        refine C.out.mono ?_
        rintro e w2 ⟨rfl, hb2⟩
        have B2 : Hid (Below w.heap.size w w2) := HB.out.trans (hb2.mono HB.out.size)
        clear hb2 q1 q2 q3 q4 C
        go_wp2_with fail
        go_roundw
        case rel => exact ⟨j + 1, by omega, by omega, by go_num, HD2, B2.out⟩
        case measure => simp [RowKit.intOf]; omega
      · have C := Lib.hid (few5_F ⟨s1, A1, n1, c1, s2, A2, n2, c2⟩ d wr (by dsimp only; omega))
        dsimp only [frV] at C
        clear hc hl hab hd
        go_wp2_with fail
        refine C.out.mono ?_
        rintro e w2 ⟨rfl, hb2⟩
        have B2 : Hid (Below w.heap.size w w2) := HB.out.trans (hb2.mono HB.out.size)
        clear hb2 q1 q2 q3 q4 C
        go_wp2_with fail
        go_ret
        exact ⟨false, rfl, (fun h => by cases h), B2.out⟩

set_option maxHeartbeats 4000000 in
theorem FewPoint_any {n : Nat} {A : Option Addr} {l : List (FrR)} (c : Nat) (most d : Int) (w : World) (h : Hid (Els rFr 4 w A n l)) (hm0 : 0 ≤ most) (hm : most ≤ 1073741824) :
    Calls Tryz.prog 80 #[.slice A n c, .int .i64 most, .int .i64 d] w (FewEnd ((n : Int) ≤ most ∧ ∀ t ∈ l, (t.n1 : Int) ≤ d ∧ (t.n2 : Int) ≤ d) w) := by
  have HB0 : Hid (Below w.heap.size w w) := Below.refl _ _
  go_enter Tryz.func80, Tryz.ntmps80
  go_wp2_with fail
  go_loopw [7] (fun i wr => ∃ (j : Nat), j ≤ n ∧ (j : Int) ≤ most + 1 ∧ i = .int .i64 j ∧ Hid (∀ (i : Nat) (t : FrR), i < j → l[i]? = some t → (t.n1 : Int) ≤ d ∧ (t.n2 : Int) ≤ d) ∧ Hid (Below w.heap.size w wr)) (fun i _ => n - (RowKit.intOf i).toNat)
  case atStart => exact ⟨0, Nat.zero_le _, by omega, rfl, fun i t h => by omega, HB0.out⟩
  case round =>
    clear HB0
    obtain ⟨j, hj, hjm, rfl, HD, HB⟩ := hrel
    have HL := Lib.hid h.out.len
    by_cases hlt : j < n
    case neg =>
      obtain rfl : j = n := by omega
      have HA : Hid (∀ t ∈ l, (t.n1 : Int) ≤ d ∧ (t.n2 : Int) ≤ d) := fun t ht => by
        obtain ⟨i, hi⟩ := List.mem_iff_getElem?.1 ht
        exact HD.out i t (by have := (List.getElem?_eq_some_iff.1 hi).1; have := HL.out; omega) hi
      by_cases hjm2 : (j : Int) ≤ most
      · go_wp2_with fail
        go_ret
        exact ⟨true, rfl, fun _ => ⟨hjm2, HA.out⟩, HB.out⟩
      · have hjm3 : most < (j : Int) := by omega
        clear hjm2
        go_wp2_with fail
        go_ret
        exact ⟨_, rfl, (fun h => absurd (of_decide_eq_true h) (by omega)), HB.out⟩
    have hjc : (j : Int) < (n : Int) := by omega
    by_cases hjm2 : (j : Int) ≤ most
    case neg =>
      have hjm3 : most < (j : Int) := by omega
      have hnm : most < (n : Int) := by omega
      clear hjm2
      go_wp2_with fail
      go_ret
      exact ⟨_, rfl, (fun h => absurd (of_decide_eq_true h) (by omega)), HB.out⟩
    · obtain ⟨ad, t, cs, rfl, hab, hl, -, hE, hc⟩ := Els.at_ (Els.past rFr.keeps h.out HB.out) hlt
      have HLt := Lib.hid hl
      obtain ⟨rfl, -, -, -⟩ := hE
      have r := t
      have q1 := hc 0 _ rfl
      have q2 := hc 1 _ rfl
      have q3 := hc 2 _ rfl
      have q4 := hc 3 _ rfl
      rw [Nat.add_zero] at q1
      rw [← add_cell _ _ _ (by omega)] at q2 q3 q4
      obtain ⟨s1, A1, n1, c1, s2, A2, n2, c2⟩ := t
      dsimp only at q1 q2 q3 q4
      by_cases hd : (n1 : Int) ≤ d ∧ (n2 : Int) ≤ d
      · have C := Lib.hid (few5_T ⟨s1, A1, n1, c1, s2, A2, n2, c2⟩ d wr hd.1 hd.2)
        dsimp only [frV] at C
        have HD2 : Hid (∀ (i : Nat) (t : FrR), i < j + 1 → l[i]? = some t → (t.n1 : Int) ≤ d ∧ (t.n2 : Int) ≤ d) := fun i t hi ht => by
          by_cases e : i = j
          · subst e
            rw [HLt.out] at ht
            cases ht
            exact hd
          · exact HD.out i t (by omega) ht
        clear hc hl hab hd
        go_wp2_with fail
        refine C.out.mono ?_
        rintro e w2 ⟨rfl, hb2⟩
        have B2 : Hid (Below w.heap.size w w2) := HB.out.trans (hb2.mono HB.out.size)
        clear hb2 q1 q2 q3 q4 C
        go_wp2_with fail
        go_roundw
        case rel => exact ⟨j + 1, by omega, by omega, by go_num, HD2, B2.out⟩
        case measure => simp [RowKit.intOf]; omega
      · have C := Lib.hid (few5_F ⟨s1, A1, n1, c1, s2, A2, n2, c2⟩ d wr (by dsimp only; omega))
        dsimp only [frV] at C
        clear hc hl hab hd
        go_wp2_with fail
        refine C.out.mono ?_
        rintro e w2 ⟨rfl, hb2⟩
        have B2 : Hid (Below w.heap.size w w2) := HB.out.trans (hb2.mono HB.out.size)
        clear hb2 q1 q2 q3 q4 C
        go_wp2_with fail
        go_ret
        exact ⟨false, rfl, (fun h => by cases h), B2.out⟩

end Go.Proofs.YtikfjmdeeknalaaGreatDoor

/- Lists laid as literals; the walk of the law's term. Conditions: sizes; the table of math/bits as its text lays it. -/
namespace Go.Proofs.YtikfjmdeeknalaaGreatDoor
set_option maxRecDepth 20000
open Go.RowKit

/-- A block that holds the elements' cells one after the other. -/
theorem els_blk {α : Type} {El : World → α → List Value → Prop} {sz n : Nat} {W : World} {g : Nat} {T : TypeId} {l : List α} {ps : List (List Value)} {cs : Array Value} (h : Blk W g T cs) (hcs : cs.toList = ps.flatten) (h2 : ps.length = n) (h3 : l.length = n)
    (h4 : ∀ (i : Nat) (a : α), l[i]? = some a → ∃ cs, ps[i]? = some cs ∧ cs.length = sz ∧ El W a cs) : Els El sz W (some ⟨g, 0, none⟩) n l := by
  have hl := Mk.all_len (fun i a hi => by obtain ⟨cs, c1, c2, -⟩ := h4 i a hi; exact ⟨cs, c1, c2⟩) h2 h3
  refine ⟨h3, fun hn => ⟨_, rfl, h.lt, fun i a hi => ?_⟩⟩
  obtain ⟨ds, c1, c2, c3⟩ := h4 i a hi
  refine ⟨ds, c2, c3, fun j u hj => ?_⟩
  have := flat_at ps i j ds u hl c1 hj
  rw [← hcs] at this
  rw [show (Addr.mk g 0 none).add (i * sz + j) = ⟨g, i * sz + j, none⟩ from by simp [Addr.add]; omega, h.cell]
  simpa using this
theorem ts_one {W : World} {g k : Nat} {T : TypeId} {v1 : Int} {x1 : Rat} (r1 : FrR) (h : Blk W g T #[.int .i64 v1, .int .i64 r1.s1, .slice r1.A1 r1.n1 r1.c1, .int .i64 r1.s2, .slice r1.A2 r1.n2 r1.c2]) (f1 : Fg W k x1 r1) (c1 : r1.n1 ≤ r1.c1) (d1 : r1.n2 ≤ r1.c2) : Ts k W (some ⟨g, 0, none⟩) 1 (up [(v1, x1)]) :=
  els_blk (ps := [.int .i64 v1 :: frL r1]) h rfl rfl rfl fun i a hi => by
    match i, hi with
    | 0, hi => cases hi; exact ⟨_, rfl, rfl, r1, rfl, c1, d1, f1⟩
    | i + 1, hi => simp [up] at hi
theorem ts_two {W : World} {g k : Nat} {T : TypeId} {v1 v2 : Int} {x1 x2 : Rat} (r1 r2 : FrR) (h : Blk W g T #[.int .i64 v1, .int .i64 r1.s1, .slice r1.A1 r1.n1 r1.c1, .int .i64 r1.s2, .slice r1.A2 r1.n2 r1.c2, .int .i64 v2, .int .i64 r2.s1, .slice r2.A1 r2.n1 r2.c1, .int .i64 r2.s2, .slice r2.A2 r2.n2 r2.c2]) (f1 : Fg W k x1 r1) (c1 : r1.n1 ≤ r1.c1) (d1 : r1.n2 ≤ r1.c2) (f2 : Fg W k x2 r2) (c2 : r2.n1 ≤ r2.c1) (d2 : r2.n2 ≤ r2.c2) : Ts k W (some ⟨g, 0, none⟩) 2 (up [(v1, x1), (v2, x2)]) :=
  els_blk (ps := [.int .i64 v1 :: frL r1, .int .i64 v2 :: frL r2]) h rfl rfl rfl fun i a hi => by
    match i, hi with
    | 0, hi => cases hi; exact ⟨_, rfl, rfl, r1, rfl, c1, d1, f1⟩
    | 1, hi => cases hi; exact ⟨_, rfl, rfl, r2, rfl, c2, d2, f2⟩
    | i + 2, hi => simp [up] at hi
theorem xs_two {W : World} {g k : Nat} {T : TypeId} {x1 x2 : Rat} (r1 r2 : FrR) (h : Blk W g T #[.int .i64 r1.s1, .slice r1.A1 r1.n1 r1.c1, .int .i64 r1.s2, .slice r1.A2 r1.n2 r1.c2, .int .i64 r2.s1, .slice r2.A1 r2.n1 r2.c1, .int .i64 r2.s2, .slice r2.A2 r2.n2 r2.c2]) (f1 : Fg W k x1 r1) (c1 : r1.n1 ≤ r1.c1) (d1 : r1.n2 ≤ r1.c2) (f2 : Fg W k x2 r2) (c2 : r2.n1 ≤ r2.c1) (d2 : r2.n2 ≤ r2.c2) : Xs k W (some ⟨g, 0, none⟩) 2 [some x1, some x2] :=
  els_blk (ps := [frL r1, frL r2]) h rfl rfl rfl fun i a hi => by
    match i, hi with
    | 0, hi => cases hi; exact ⟨_, rfl, rfl, r1, rfl, c1, d1, f1⟩
    | 1, hi => cases hi; exact ⟨_, rfl, rfl, r2, rfl, c2, d2, f2⟩
    | i + 2, hi => simp at hi
theorem xs_three {W : World} {g k : Nat} {T : TypeId} {x1 x2 x3 : Rat} (r1 r2 r3 : FrR) (h : Blk W g T #[.int .i64 r1.s1, .slice r1.A1 r1.n1 r1.c1, .int .i64 r1.s2, .slice r1.A2 r1.n2 r1.c2, .int .i64 r2.s1, .slice r2.A1 r2.n1 r2.c1, .int .i64 r2.s2, .slice r2.A2 r2.n2 r2.c2, .int .i64 r3.s1, .slice r3.A1 r3.n1 r3.c1, .int .i64 r3.s2, .slice r3.A2 r3.n2 r3.c2]) (f1 : Fg W k x1 r1) (c1 : r1.n1 ≤ r1.c1) (d1 : r1.n2 ≤ r1.c2) (f2 : Fg W k x2 r2) (c2 : r2.n1 ≤ r2.c1) (d2 : r2.n2 ≤ r2.c2) (f3 : Fg W k x3 r3) (c3 : r3.n1 ≤ r3.c1) (d3 : r3.n2 ≤ r3.c2) : Xs k W (some ⟨g, 0, none⟩) 3 [some x1, some x2, some x3] :=
  els_blk (ps := [frL r1, frL r2, frL r3]) h rfl rfl rfl fun i a hi => by
    match i, hi with
    | 0, hi => cases hi; exact ⟨_, rfl, rfl, r1, rfl, c1, d1, f1⟩
    | 1, hi => cases hi; exact ⟨_, rfl, rfl, r2, rfl, c2, d2, f2⟩
    | 2, hi => cases hi; exact ⟨_, rfl, rfl, r3, rfl, c3, d3, f3⟩
    | i + 3, hi => simp at hi
theorem rs_one {W : World} {g k : Nat} {T : TypeId} {B1 : Option Addr} {m1 q1 : Nat} {k1 : Int} {l1 : List (Int × Option Rat)} {x1 : Option Rat} (r1 : FrR) (h : Blk W g T #[.slice B1 m1 q1, .int .i64 k1, .int .i64 r1.s1, .slice r1.A1 r1.n1 r1.c1, .int .i64 r1.s2, .slice r1.A2 r1.n2 r1.c2]) (t1 : Ts k W B1 m1 l1) (e1 : m1 ≤ q1 ∧ m1 ≤ 64) (f1 : Fo W k x1 r1) (c1 : r1.n1 ≤ r1.c1) (d1 : r1.n2 ≤ r1.c2) : Rs k W (some ⟨g, 0, none⟩) 1 [⟨l1, k1, x1⟩] :=
  els_blk (ps := [.slice B1 m1 q1 :: .int .i64 k1 :: frL r1]) h rfl rfl rfl fun i a hi => by
    match i, hi with
    | 0, hi => cases hi; exact ⟨_, rfl, rfl, B1, m1, q1, r1, rfl, e1, c1, d1, t1, f1⟩
    | i + 1, hi => simp at hi
theorem rs_two {W : World} {g k : Nat} {T : TypeId} {B1 B2 : Option Addr} {m1 q1 m2 q2 : Nat} {k1 k2 : Int} {l1 l2 : List (Int × Option Rat)} {x1 x2 : Option Rat} (r1 r2 : FrR) (h : Blk W g T #[.slice B1 m1 q1, .int .i64 k1, .int .i64 r1.s1, .slice r1.A1 r1.n1 r1.c1, .int .i64 r1.s2, .slice r1.A2 r1.n2 r1.c2, .slice B2 m2 q2, .int .i64 k2, .int .i64 r2.s1, .slice r2.A1 r2.n1 r2.c1, .int .i64 r2.s2, .slice r2.A2 r2.n2 r2.c2]) (t1 : Ts k W B1 m1 l1) (e1 : m1 ≤ q1 ∧ m1 ≤ 64) (f1 : Fo W k x1 r1) (c1 : r1.n1 ≤ r1.c1) (d1 : r1.n2 ≤ r1.c2) (t2 : Ts k W B2 m2 l2) (e2 : m2 ≤ q2 ∧ m2 ≤ 64) (f2 : Fo W k x2 r2) (c2 : r2.n1 ≤ r2.c1) (d2 : r2.n2 ≤ r2.c2) : Rs k W (some ⟨g, 0, none⟩) 2 [⟨l1, k1, x1⟩, ⟨l2, k2, x2⟩] :=
  els_blk (ps := [.slice B1 m1 q1 :: .int .i64 k1 :: frL r1, .slice B2 m2 q2 :: .int .i64 k2 :: frL r2]) h rfl rfl rfl fun i a hi => by
    match i, hi with
    | 0, hi => cases hi; exact ⟨_, rfl, rfl, B1, m1, q1, r1, rfl, e1, c1, d1, t1, f1⟩
    | 1, hi => cases hi; exact ⟨_, rfl, rfl, B2, m2, q2, r2, rfl, e2, c2, d2, t2, f2⟩
    | i + 2, hi => simp at hi
set_option maxHeartbeats 2000000 in
theorem term_T (v n : Int) (x : Rat) (hx : ratio n 1 = x) (w : World) (n0 : -9223372036854775808 ≤ n) (n1 : n ≤ 9223372036854775807) (hT : TabZ w) :
    Calls Tryz.prog 164 #[.int .i64 v, .int .i64 n] w (TmEnd w 4 v x) := by
  obtain ⟨W0, hW0⟩ : ∃ W0, W0 = w.alloc (.cells #[.int .i64 0, .int .i64 0, .slice none 0 0, .int .i64 0, .slice none 0 0] 142) := ⟨_, rfl⟩
  have HB0 : Hid (Below w.heap.size w W0) := by show Below _ _ _; rw [hW0]; exact bal (Below.refl _ _)
  have KB : Hid (Blk W0 w.heap.size 142 #[.int .i64 0, .int .i64 0, .slice none 0 0, .int .i64 0, .slice none 0 0]) := by show Blk _ _ _ _; rw [hW0]; exact Blk.new _ _ _
  have C := lof8 n 1 W0 n0 n1 (by decide) (by decide) (by decide) (hT.on HB0.out)
  rw [hx] at C
  have HC := Lib.hid C
  clear C hT hx
  go_enter Tryz.func164, Tryz.ntmps164
  go_upto_region 1 with (fail)
  rw [← hW0]
  clear hW0
  go_wp2_with fail
  refine HC.out.mono ?_
  rintro e w3 ⟨⟨s5, A5, n5, c5, s6, A6, n6, c6⟩, rfl, hc1, hc2, hf, f1, f2, hb⟩
  have K3 := Lib.hid (KB.out.below hb KB.out.lt)
  obtain ⟨y0, y1, y2, y3, y4⟩ := tm_cells K3.out
  have y5 := K3.out.frozen 0
  have y6 := K3.out.frozen 1
  have y7 := K3.out.frozen 2
  have y8 := K3.out.frozen 3
  have y9 := K3.out.frozen 4
  obtain ⟨wf, hwf, ⟨r0, r1, r2, r3, r4⟩, kE⟩ := tm_end (v := v) K3.out (Nat.le_refl _) KB.out.lt (HB0.out.trans (hb.mono HB0.out.size)) hf f1 f2 hc1 hc2
  have HE := Lib.hid kE
  clear kE hc1 hc2 hf f1 f2 hb HC KB
  dsimp only at r0 r1 r2 r3 r4 hwf HE
  dsimp only [frV]
  go_wp2_with fail
  rw [← hwf]
  clear hwf
  exact bodyPost_ret (v := .agg #[.int .i64 v, .int .i64 s5, .slice A5 n5 c5, .int .i64 s6, .slice A6 n6 c6]) (by simp [results, Tryz.results164, go_sem, r0, r1, r2, r3, r4]) rfl HE.out
end Go.Proofs.YtikfjmdeeknalaaGreatDoor
