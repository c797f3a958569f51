/- The walks of All, Len, Get and Sync of a journal, and of SameTexts. Conditions: the disk and the journal are made since a world, and apart; sizes. -/
import Derived.Test.YtjlndgkahmcfdaaDoorJa
import Derived.Lib.BufferMore
import Derived.Shelf.SlMaps.Clone
namespace Go.Proofs.YtjlndgkahmcfdaaDoor
set_option maxRecDepth 8000
open Go.RowKit Go.ChangeMaps

set_option maxHeartbeats 400000 in
theorem cloneT_any (A : Option Addr) (n c : Nat) (xs : List Value) (w : World) (hr : Reads w w.heap.size 1 A n xs) (h1 : ∀ u ∈ xs, u.oneCell' = true) (hn : n ≤ 1073741824) :
    Calls Tryd.prog 60 #[.slice A n c] w (Cloned w 9 1 n xs) := by
  obtain ⟨i0, hi, hz0, hz1, hz2⟩ := info_parts infoStr
  cases A with
  | none =>
    have hn0 : n = 0 := by
      rcases Nat.eq_zero_or_pos n with h0 | h0
      · exact h0
      · obtain ⟨ad, h, _⟩ := hr.2 h0
        cases h
    subst hn0
    have hx : xs = [] := List.eq_nil_of_length_eq_zero (by simpa using hr.1)
    subst hx
    clear hr h1 hn
    have HE := Lib.hid (show Cloned w 9 1 0 [] (.returned (.slice none 0 0)) w from ⟨_, rfl, World.ownsRow_nil _ _ _ _, Below.refl _ _, fun g e => by cases e⟩)
    have q := fun w => Lib.run_eql_slice_nil_nil (P := Tryd.prog) w (t := 32) 0 c Tryd.underlying32
    go_enter Tryd.func60, Tryd.ntmps60
    go_wp2
    go_ret
    exact HE.out
  | some ad =>
    obtain ⟨v', w1, hrun, h2, h3, h4⟩ := run_clone (P := Tryd.prog) (w := w.alloc (.cells #[] 9)) 32 32 9 i0 _ 1 16 Tryd.underlying32 hi hz0 hz1 hz2 rfl (by decide) w.heap.size (some ad) n c xs (hr.alloc (Nat.le_refl _) _) h1 w.heap.size (heap_alloc_new w _) (by unfold maxLen; omega) (by omega)
    have HE := Lib.hid (show Cloned w 9 1 n xs (.returned v') w1 from ⟨_, rfl, h2, grown_below h3 ((Below.refl _ _).alloc (Nat.le_refl _) _) (Nat.le_refl _), fun g e => by
      rcases h4 with h4 | h4
      · rw [h4] at e; cases e; exact Nat.le_refl _
      · rw [h4] at e; cases e; simp⟩)
    have HR := Lib.hid hrun
    clear hr h1 h2 h3 h4 hrun
    have q := fun w => Lib.run_eql_slice_some_nil (P := Tryd.prog) w (t := 32) ad n c Tryd.underlying32
    go_enter Tryd.func60, Tryd.ntmps60
    go_wp2_with (at_builtin; refine Lib.wpList_append_run _ rfl _ _ _ _ rfl _ _ rfl rfl v' w1 HR.out ?_)
    go_ret
    exact HE.out


set_option maxHeartbeats 400000 in
theorem x_all {W w : World} {oj : Nat → Option Nat} {bd b : Nat} {f : Int} {j : Js} (hj : Jx W w oj b bd f j) (hl : j.list.length ≤ 1073741824) :
    Calls Tryd.prog 19 #[.pointer (some ⟨b, 0, none⟩)] w (Cloned w 9 1 j.list.length (j.list.map strV)) := by
  obtain ⟨lv, hjn⟩ := hj.jn
  obtain ⟨A, c, rfl, hr⟩ := hjn.row.reads
  have c2 : w.cell? ⟨b, 2, none⟩ = some (.slice A j.list.length c) := hjn.blk.cell 2
  have HC := Lib.hid (cloneT_any A j.list.length c _ w hr (strV_one _) hl)
  clear hr hjn hj
  go_enter Tryd.func19, Tryd.ntmps19
  go_wp2_with fail
  refine HC.out.mono ?_
  rintro e w' ⟨v', rfl, h1, h2, h3⟩
  have HE : Hid (Cloned w 9 1 j.list.length (j.list.map strV) (.returned v') w') := ⟨v', rfl, h1, h2, h3⟩
  clear h1 h2 h3 HC
  go_wp2_with fail
  go_ret
  exact HE.out
set_option maxHeartbeats 400000 in
theorem x_len {W w : World} {oj : Nat → Option Nat} {bd b : Nat} {f : Int} {j : Js} (hj : Jx W w oj b bd f j) :
    Calls Tryd.prog 38 #[.pointer (some ⟨b, 0, none⟩)] w fun e w' => e = .returned (.int .i64 (j.list.length : Nat)) ∧ w = w' := by
  obtain ⟨lv, hjn⟩ := hj.jn
  obtain ⟨A, c, rfl, hr⟩ := hjn.row.reads
  have c2 : w.cell? ⟨b, 2, none⟩ = some (.slice A j.list.length c) := hjn.blk.cell 2
  clear hr hjn hj
  go_enter Tryd.func38, Tryd.ntmps38
  go_wp2_with fail
  go_ret
  exact ⟨rfl, rfl⟩
def getP (l : List (List UInt8)) (i : Int) : List UInt8 := if i < 0 then [] else l[i.toNat]?.getD []
set_option maxHeartbeats 400000 in
theorem x_get {W w : World} {oj : Nat → Option Nat} {bd b : Nat} {f : Int} {j : Js} (hj : Jx W w oj b bd f j) (i : Int) {r : List UInt8} (hr : getP j.list i = r) :
    Calls Tryd.prog 39 #[.pointer (some ⟨b, 0, none⟩), .int .i64 i] w fun e w' => e = .returned (.string (bStr r)) ∧ w = w' := by
  subst hr
  obtain ⟨lv, hjn⟩ := hj.jn
  obtain ⟨A, c, rfl, hr⟩ := hjn.row.reads
  have c2 : w.cell? ⟨b, 2, none⟩ = some (.slice A j.list.length c) := hjn.blk.cell 2
  have HR := Lib.hid hr
  clear hr hjn hj
  unfold getP
  by_cases h0 : i < 0
  · rw [if_pos h0]
    go_enter Tryd.func39, Tryd.ntmps39
    go_wp2_with fail
    go_ret
    exact ⟨rfl, rfl⟩
  · rw [if_neg h0]
    obtain ⟨k, rfl⟩ := Int.eq_ofNat_of_zero_le (show 0 ≤ i by omega)
    rw [Int.toNat_natCast]
    generalize hn : j.list.length = n at *
    by_cases h1 : k < n
    · obtain ⟨x, hx⟩ : ∃ x, j.list[k]? = some x := ⟨_, List.getElem?_eq_getElem (by omega)⟩
      rw [hx]
      obtain ⟨ad, rfl, _, hc⟩ := HR.out.2 (by omega)
      have hc2 := hc k (strV x) (by rw [List.getElem?_map, hx]; rfl)
      have h1' : ¬ (n : Int) ≤ (k : Int) := by omega
      have h2' : (k : Int) < (n : Int) := by omega
      have hk0 : 0 ≤ (k : Int) := by omega
      unfold strV at hc2
      clear hc hx
      go_enter Tryd.func39, Tryd.ntmps39
      go_wp2_with fail
      go_ret
      exact ⟨rfl, rfl⟩
    · have hx : j.list[k]? = none := List.getElem?_eq_none (by omega)
      rw [hx]
      have h1' : (n : Int) ≤ (k : Int) := by omega
      clear hx
      go_enter Tryd.func39, Tryd.ntmps39
      go_wp2_with fail
      go_ret
      exact ⟨rfl, rfl⟩

/-- Only the order of evaluation has been drawn. -/
def Drawn (w w' : World) : Prop := ∃ d, w' = w.drewN d
theorem Drawn.below {w w' : World} (h : Drawn w w') : Below w.heap.size w w' := by
  obtain ⟨d, rfl⟩ := h
  exact ⟨rfl, rfl, rfl, Nat.le_refl _, fun _ _ => rfl⟩
set_option maxHeartbeats 2000000 in
theorem same_any (A1 A2 : Option Addr) (n1 n2 c1 c2 B1 B2 : Nat) (xs ys : List (List UInt8)) (w : World) (h1 : Reads w B1 1 A1 n1 (xs.map strV)) (h2 : Reads w B2 1 A2 n2 (ys.map strV)) (hn : n1 ≤ 1073741824) (hn2 : n2 ≤ 1073741824) {r : Bool} (hr : decide (xs = ys) = r) :
    Calls Tryd.prog 22 #[.slice A1 n1 c1, .slice A2 n2 c2] w fun e w' => e = .returned (.bool r) ∧ Drawn w w' := by
  subst hr
  have hl1 : xs.length = n1 := by have := h1.1; rw [List.length_map] at this; omega
  have hl2 : ys.length = n2 := by have := h2.1; rw [List.length_map] at this; omega
  by_cases hnn : n1 = n2
  · subst hnn
    have HR1 := Lib.hid h1
    have HR2 := Lib.hid h2
    have HL1 := Lib.hid hl1
    have HL2 := Lib.hid hl2
    clear h1 h2 hl1 hl2
    go_enter Tryd.func22, Tryd.ntmps22
    go_wp2_with fail
    go_loopw [5] (fun i wr => ∃ k d : Nat, k ≤ n1 ∧ i = .int .i64 k ∧ wr = w.drewN d ∧ Hid (xs.take k = ys.take k)) (fun i _ => n1 - (RowKit.intOf i).toNat)
    case atStart => exact ⟨0, 0, Nat.zero_le _, rfl, rfl, rfl⟩
    case round =>
      obtain ⟨k, d, hk, rfl, rfl, HE⟩ := hrel
      by_cases hlt : k < n1
      · obtain ⟨x, hx⟩ : ∃ x, xs[k]? = some x := ⟨_, List.getElem?_eq_getElem (by rw [HL1.out]; exact hlt)⟩
        obtain ⟨y, hy⟩ : ∃ y, ys[k]? = some y := ⟨_, List.getElem?_eq_getElem (by rw [HL2.out]; exact hlt)⟩
        obtain ⟨ad1, rfl, _, hc1⟩ := HR1.out.2 (by omega)
        obtain ⟨ad2, rfl, _, hc2⟩ := HR2.out.2 (by omega)
        have g1w : w.cell? (ad1.add k) = some (.string (bStr x)) := hc1 k (strV x) (by rw [List.getElem?_map, hx]; rfl)
        have g2w : w.cell? (ad2.add k) = some (.string (bStr y)) := hc2 k (strV y) (by rw [List.getElem?_map, hy]; rfl)
        have g1 : (w.drewN d).cell? (ad1.add k) = some (.string (bStr x)) := hc1 k (strV x) (by rw [List.getElem?_map, hx]; rfl)
        have g2 : (w.drewN d).cell? (ad2.add k) = some (.string (bStr y)) := hc2 k (strV y) (by rw [List.getElem?_map, hy]; rfl)
        have hlt' : (k : Int) < (n1 : Int) := by omega
        have hk0 : 0 ≤ (k : Int) := by omega
        clear hc1 hc2
        by_cases hxy : x = y
        · subst hxy
          have HE2 : Hid (xs.take (k + 1) = ys.take (k + 1)) := by
            rw [take_snoc_ hx, take_snoc_ hy, HE.out]
            exact rfl
          clear hx hy
          go_wp2_with fail
          go_quiet (fail)
          go_wp2_with fail
          go_roundw
          case rel => exact ⟨k + 1, _, by omega, by go_num, rfl, HE2⟩
          case measure => simp [RowKit.intOf]; omega
        · have hbne : bStr x ≠ bStr y := fun e => hxy (by rw [← bStr_data x, ← bStr_data y, e])
          have hb3 : decide (bStr x = bStr y) = false := decide_eq_false hbne
          have hb4 : ((bStr x).toList == (bStr y).toList) = false := by rw [bStr_toList, bStr_toList]; exact beq_eq_false_iff_ne.2 hxy
          have hb5 : ((bStr x).toList != (bStr y).toList) = true := by rw [bStr_toList, bStr_toList]; exact bne_iff_ne.2 hxy
          have hb6 : ¬ (bStr x).toList = (bStr y).toList := by rw [bStr_toList, bStr_toList]; exact hxy
          have HNE : Hid (decide (xs = ys) = false) := decide_eq_false (fun e => by rw [e, hy] at hx; exact hxy (Option.some.inj hx).symm)
          clear hx hy
          go_wp2_with fail
          go_quiet (fail)
          go_wp2_with fail
          go_ret
          exact ⟨by rw [HNE.out]; rfl, _, World.drewN_drewN _ _ _⟩
      · obtain rfl : k = n1 := by omega
        have HEQ : Hid (decide (xs = ys) = true) := decide_eq_true (by
          have := HE.out
          rwa [List.take_of_length_le (by rw [HL1.out]; exact Nat.le_refl _), List.take_of_length_le (by rw [HL2.out]; exact Nat.le_refl _)] at this)
        go_wp2_with fail
        go_ret
        exact ⟨by rw [HEQ.out]; rfl, _, rfl⟩
  · have hr : decide (xs = ys) = false := decide_eq_false (fun e => hnn (by rw [← hl1, ← hl2, e]))
    rw [hr]
    have hb : ((n1 : Int) != (n2 : Int)) = true := by simpa using (show ¬ (n1 : Int) = (n2 : Int) by omega)
    clear h1 h2 hr hl1 hl2
    go_enter Tryd.func22, Tryd.ntmps22
    go_wp2_with fail
    go_ret
    exact ⟨rfl, 0, rfl⟩

end Go.Proofs.YtjlndgkahmcfdaaDoor
