/- slices.Backward at ints: its contract, after the guide's way for a range over a function; and the walk of big's Int. Conditions: lengths. -/
import Derived.Test.YtikfjmdeeknalaaGreatDoorC3
import Derived.RangeFuncBox
import Derived.RangeFuncLeaves
import Derived.RangeFuncNested
import Derived.RangeFuncBound
import Derived.RangeFuncCalls
import Derived.Shelf.Abstract
import Derived.Shelf.RegionOpen
import Derived.OwnWalkIn
import Derived.TacticsInMore
import Derived.LoopNIn
import Derived.LoopIn
namespace Go.Proofs.YtikfjmdeeknalaaGreatDoor
set_option maxRecDepth 8000
open Go.RowKit Go.Shelf
attribute [local go_sem] Oper.semAt_some

/-- What comes from the end: the index, the value. -/
def fromEnd (zs : List Int) (j : Nat) : Nat × Int := (zs.length - 1 - j, zs[zs.length - 1 - j]?.getD 0)
def ends (zs : List Int) (k : Nat) : List (Nat × Int) := (List.range k).map (fromEnd zs)
theorem ends_succ (zs : List Int) (k : Nat) : ends zs (k + 1) = ends zs k ++ [fromEnd zs k] := by simp [ends, List.range_succ]
theorem ends_len (zs : List Int) (k : Nat) : (ends zs k).length = k := by simp [ends]

/-- What a round keeps: what lay below n₀, and the box of the slice. -/
def BackK (n₀ Bs : Nat) (W W' : World) : Prop := Below n₀ W W' ∧ W'.heap[Bs]? = W.heap[Bs]?
theorem BackK.refl (n₀ Bs : Nat) (W : World) : BackK n₀ Bs W W := ⟨Below.refl _ _, rfl⟩
theorem BackK.trans {n₀ Bs : Nat} {A B C : World} (h : BackK n₀ Bs A B) (k : BackK n₀ Bs B C) : BackK n₀ Bs A C := ⟨h.1.trans k.1, k.2.trans h.2⟩
set_option maxRecDepth 100000 in
set_option maxHeartbeats 2000000 in
theorem back_in (n : Nat) (hn : 1 ≤ n) (l Bs n₀ len cap : Nat) (A : Option Addr) (zs : List Int) (hz : zs.length = len) (hreach : len ≤ 1073741824) (J Jx : List (Nat × Int) → World → Prop)
    (hY : ∀ pre x W, J pre W → pre.length < len → YieldAt Fence.wide (n - 1) Tryz.prog l #[.int .i64 (x.1 : Int), .int .i64 x.2] W fun e W' =>
      (e = .returned (.bool true) ∧ J (pre ++ [x]) W' ∧ BackK n₀ Bs W W') ∨ (e = .returned (.bool false) ∧ Jx (pre ++ [x]) W'))
    (W : World) (hBs : W.cell? ⟨Bs, 0, none⟩ = some (.slice A len cap)) (hc : Reads W n₀ 1 A len (iv zs)) (h0 : J [] W) :
    CallsIn Fence.wide n Tryz.prog 200 #[.func (.yield l) #[] #[], .pointer (some ⟨Bs, 0, none⟩)] W fun e W' => (∃ v, e = .returned v) ∧
      ((∃ ys, ys = ends zs len ∧ J ys W') ∨ (∃ pre, (∃ k, k ≤ len ∧ pre = ends zs k) ∧ Jx pre W')) := by
  have HC := Lib.hid hc
  have HZ := Lib.hid hz
  clear hc hz
  refine callsIn_of_wp Tryz.func200 rfl trivial ?_ rfl
  simp only [Tryz.ntmps200, List.size_toArray, List.length_cons, List.length_nil, Nat.reduceAdd, Nat.reduceSub, Array.replicate_succ, Array.replicate_zero, List.push_toArray, List.append_toArray, List.nil_append, List.cons_append]
  gi_wp2
  gi_loopw [3] (fun i wr => ∃ k : Nat, k ≤ len ∧ i = .int .i64 ((len : Int) - 1 - k) ∧ J (ends zs k) wr ∧ BackK n₀ Bs W wr)
    (fun i _ => (intOf i + 1).toNat)
  case atStart => exact ⟨0, Nat.zero_le _, by simp, h0, BackK.refl _ _ _⟩
  case round =>
    obtain ⟨k, hk, rfl, hJs, hnx⟩ := hrel
    have hbx : wr.cell? ⟨Bs, 0, none⟩ = some (.slice A len cap) := (World.cell?_of_block (a := ⟨Bs, 0, none⟩) hnx.2).trans hBs
    by_cases hlt : k < len
    · obtain ⟨ad, u, rfl, hu, g1⟩ := (HC.out.below hnx.1).atI (i := len - 1 - k) (by omega)
      have hfe : fromEnd zs k = (len - 1 - k, u) := by unfold fromEnd; rw [HZ.out, hu]; rfl
      obtain ⟨fn, tmps, assign, body, hy, hR⟩ := hY _ (fromEnd zs k) wr hJs (by rw [ends_len]; exact hlt)
      rw [hfe] at hy
      have hi : ((len - 1 - k : Nat) : Int) = (len : Int) - 1 - (k : Int) := by omega
      dsimp only at hy
      rw [hi] at hy
      have hi0 : (0 : Int) ≤ (len : Int) - 1 - (k : Int) := by omega
      have hi1 : (len : Int) - 1 - (k : Int) < (len : Int) := by omega
      have ht : ((len : Int) - 1 - (k : Int)).toNat = len - 1 - k := by omega
      have HFE := Lib.hid hfe
      clear hfe hu hi
      gi_wp2
      refine hR.mono ?_
      rintro e W3 (⟨rfl, hJ3, hk3⟩ | ⟨rfl, hJx3⟩)
      · gi_wp2
        go_roundw
        case rel => exact ⟨k + 1, by omega, by first | rfl | (congr 1; omega), by rw [ends_succ]; exact hJ3, hnx.trans hk3⟩
        case measure => simp [intOf]; omega
      · gi_wp2
        refine bodyPost_ret (results_none rfl _ _ _) rfl ?_
        exact ⟨⟨_, rfl⟩, .inr ⟨_, ⟨k + 1, by omega, (ends_succ _ _).symm⟩, hJx3⟩⟩
    · obtain rfl : k = len := by omega
      gi_wp2
      go_end0
      exact ⟨⟨_, rfl⟩, .inl ⟨_, rfl, hJs⟩⟩
set_option maxHeartbeats 1000000 in
theorem backward_any (a : Option Addr) (len cap : Nat) (w : World) :
    Calls Tryz.prog 132 #[.slice a len cap] w fun e w' => e = .returned (.func (.func 200) #[] #[.pointer (some ⟨w.heap.size, 0, none⟩)]) ∧ w' = w.alloc (.cells #[.slice a len cap] 22) := by
  go_enter Tryz.func132, Tryz.ntmps132
  go_wp2_with fail
  go_ret
  exact ⟨rfl, rfl⟩
/-- What slices.Backward hands back: all from the end; or the first k of them. -/
theorem back_stops (n : Nat) (hn : 1 ≤ n) (Bs n₀ : Nat) (A : Option Addr) (len cap : Nat) (zs : List Int) (hz : zs.length = len) (hreach : len ≤ 1073741824) (w : World) (hBs : Bs < w.heap.size) (hn₀ : n₀ ≤ w.heap.size)
    (hc : w.cell? ⟨Bs, 0, none⟩ = some (.slice A len cap)) (hI : Reads w n₀ 1 A len (iv zs)) :
    SeqStopsK Fence.wide n Tryz.prog 200 #[.pointer (some ⟨Bs, 0, none⟩)] (fun x : Nat × Int => #[Value.int .i64 (x.1 : Int), Value.int .i64 x.2]) (BackK n₀ Bs) (fun ys => ys = ends zs len)
      (fun pre => ∃ k, k ≤ len ∧ pre = ends zs k) len w := fun l J Jx W hW _ _ hY h0 =>
  back_in n hn l Bs n₀ len cap A zs hz hreach J Jx hY W ((hW.cell (p := ⟨Bs, 0, none⟩) hBs).trans hc) (hI.below (hW.mono hn₀)) h0
theorem backK_b {w : World} {n₀ Bs : Nat} (h : n₀ ≤ w.heap.size) (hB : Bs < w.heap.size) (W : World) (l : Nat) (o o' : Obj) (hl : w.heap.size ≤ l) (h1 : W.heap[l]? = some o) (h2 : o.isCells = false) (h3 : o.isWalk = false) : BackK n₀ Bs W (W.putObj l o') :=
  ⟨belowK_b h W l o o' hl h1 h2 h3, (belowK_b (w := w) (n₀ := w.heap.size) (Nat.le_refl _) W l o o' hl h1 h2 h3).block Bs hB⟩

/-- The value of digits that came from the end. -/
def endVal (pre : List (Nat × Int)) : Int := pre.foldl (fun m x => m * 1048576 + x.2) 0
theorem endVal_snoc (pre : List (Nat × Int)) (x : Nat × Int) : endVal (pre ++ [x]) = endVal pre * 1048576 + x.2 := by simp [endVal]
theorem endVal_ends (l : List Nat) : ∀ k, k ≤ l.length → endVal (ends (l.map fun d : Nat => (d : Int)) k) = (dval (l.drop (l.length - k)) : Nat)
  | 0, _ => by simp [ends, endVal, dval]
  | k + 1, h => by
    rw [ends_succ, endVal_snoc, endVal_ends l k (by omega)]
    have hd : l[l.length - (k + 1)]? = some l[l.length - (k + 1)] := List.getElem?_eq_getElem (by omega)
    have e := dval_drop_at hd
    rw [show l.length - (k + 1) + 1 = l.length - k by omega] at e
    rw [e]
    unfold fromEnd
    simp only [List.length_map, List.getElem?_map]
    rw [show l.length - 1 - k = l.length - (k + 1) by omega, hd]
    simp only [Option.map_some, Option.getD_some]
    omega
theorem endVal_pre (l : List Nat) {k : Nat} (hk : k < l.length) (h : 17592186044415 < endVal (ends (l.map fun d : Nat => (d : Int)) k)) : 18446744073709551616 ≤ dval l := by
  rw [endVal_ends l k (by omega)] at h
  have e := dval_split l (l.length - k) (by omega)
  have h2 : 1048576 ^ 1 ≤ 1048576 ^ (l.length - k) := Nat.pow_le_pow_right (by decide) (by omega)
  have h3 := Nat.mul_le_mul h2 (show 17592186044416 ≤ dval (l.drop (l.length - k)) by omega)
  have h4 : (1048576 : Nat) ^ 1 * 17592186044416 = 18446744073709551616 := by rfl
  omega
/-- A step of the loop, as the program reckons it. -/
def stepM (m v : Int) : Int := bits .or .u64 (IntKind.u64.wrap (m * 1048576)) (IntKind.u64.wrap v)
def foldM (pre : List (Nat × Int)) : Int := pre.foldl (fun m x => stepM m x.2) 0
theorem foldM_snoc (pre : List (Nat × Int)) (x : Nat × Int) : foldM (pre ++ [x]) = stepM (foldM pre) x.2 := by simp [foldM]
/-- No step but the last one has come so far. -/
def okPre (pre : List (Nat × Int)) : Prop := ∀ j, j < pre.length → foldM (pre.take j) ≤ 17592186044415
theorem okPre.snoc {pre : List (Nat × Int)} (h : okPre pre) (hm : foldM pre ≤ 17592186044415) (x : Nat × Int) : okPre (pre ++ [x]) := fun j hj => by
  rw [List.length_append] at hj
  rcases Nat.lt_or_ge j pre.length with h1 | h1
  · rw [List.take_append_of_le_length (by omega)]
    exact h j h1
  · have : j = pre.length := by simp at hj; omega
    subst this
    rw [List.take_left' rfl]
    exact hm
theorem take_ends (zs : List Int) {j k : Nat} (h : j ≤ k) : (ends zs k).take j = ends zs j := by
  unfold ends
  rw [← List.map_take, List.take_range, Nat.min_eq_left h]
theorem stepM_digit {m : Int} {d : Nat} (h0 : 0 ≤ m) (h1 : m ≤ 17592186044415) (hd : d < 1048576) : stepM m d = m * 1048576 + d := by
  unfold stepM
  rw [wraps_u64 _ (by omega) (by omega), wraps_u64 _ (by omega) (by omega)]
  exact or_digit_u h0 (by omega) (by omega) (by omega)
theorem foldM_ends {l : List Nat} (hs : Sml l) : ∀ k, k ≤ l.length → okPre (ends (l.map fun d : Nat => (d : Int)) k) → foldM (ends (l.map fun d : Nat => (d : Int)) k) = endVal (ends (l.map fun d : Nat => (d : Int)) k)
  | 0, _, _ => rfl
  | k + 1, hk, hok => by
    have hpre : okPre (ends (l.map fun d : Nat => (d : Int)) k) := fun j hj => by
      rw [ends_len] at hj
      have := hok j (by rw [ends_len]; omega)
      rw [take_ends _ (by omega)] at this ⊢
      exact this
    have hm : foldM (ends (l.map fun d : Nat => (d : Int)) k) ≤ 17592186044415 := by
      have := hok k (by rw [ends_len]; omega)
      rwa [take_ends _ (by omega)] at this
    have ih := foldM_ends hs k (by omega) hpre
    have h0 : 0 ≤ endVal (ends (l.map fun d : Nat => (d : Int)) k) := by rw [endVal_ends l k (by omega)]; omega
    obtain ⟨d, hd, hd2⟩ : ∃ d : Nat, (fromEnd (l.map fun d : Nat => (d : Int)) k).2 = d ∧ d < 1048576 := by
      have hd : l[l.length - 1 - k]? = some l[l.length - 1 - k] := List.getElem?_eq_getElem (by omega)
      refine ⟨l[l.length - 1 - k], ?_, hs.at_ hd⟩
      unfold fromEnd
      simp only [List.length_map, List.getElem?_map]
      rw [hd]
      rfl
    rw [ends_succ, foldM_snoc, endVal_snoc, hd, stepM_digit (by rw [ih]; exact h0) hm hd2, ih]
theorem endVal_lt {l : List Nat} (hs : Sml l) (hok : okPre (ends (l.map fun d : Nat => (d : Int)) l.length)) : foldM (ends (l.map fun d : Nat => (d : Int)) l.length) = (dval l : Nat) ∧ dval l < 18446744073709551616 := by
  have h1 := foldM_ends hs l.length (Nat.le_refl _) hok
  have h2 := endVal_ends l l.length (Nat.le_refl _)
  rw [Nat.sub_self, List.drop_zero] at h2
  refine ⟨h1.trans h2, ?_⟩
  rcases Nat.eq_zero_or_pos l.length with h0 | h0
  · rw [List.eq_nil_of_length_eq_zero h0]; decide
  · obtain ⟨k, hk⟩ : ∃ k, l.length = k + 1 := ⟨l.length - 1, by omega⟩
    rw [hk] at hok h2
    have hm := hok k (by rw [ends_len]; omega)
    rw [take_ends _ (by omega)] at hm
    have hpre : okPre (ends (l.map fun d : Nat => (d : Int)) k) := fun j hj => by
      rw [ends_len] at hj
      have := hok j (by rw [ends_len]; omega)
      rw [take_ends _ (by omega)] at this ⊢
      exact this
    rw [foldM_ends hs k (by omega) hpre] at hm
    have h3 := endVal_ends l k (by omega)
    rw [h3] at hm
    obtain ⟨d, hd⟩ : ∃ d, l[l.length - k - 1]? = some d := ⟨_, List.getElem?_eq_getElem (by omega)⟩
    have hd2 := hs.at_ hd
    have e := dval_drop_at hd
    rw [show l.length - k - 1 + 1 = l.length - k by omega, show l.length - k - 1 = 0 by omega, List.drop_zero] at e
    omega
theorem fold_stop {l : List Nat} (hs : Sml l) {k : Nat} (hk : k < l.length) (hok : okPre (ends (l.map fun d : Nat => (d : Int)) k)) (h : 17592186044415 < foldM (ends (l.map fun d : Nat => (d : Int)) k)) : 18446744073709551616 ≤ dval l := by
  rw [foldM_ends hs k (by omega) hok] at h
  exact endVal_pre l hk h
theorem blk_ne {g h : Nat} (e : g ≠ h) : (⟨g, 0, none⟩ : Addr) ≠ ⟨h, 0, none⟩ := fun k => e (by injection k)
/-- An int, if it is one. -/
def intP (x : Int) : Int × Bool := if -9223372036854775808 ≤ x ∧ x ≤ 9223372036854775807 then (x, true) else (0, false)
set_option maxRecDepth 100000 in
set_option maxHeartbeats 4000000 in
theorem Int_any (s : Int) (A : Option Addr) (n c B : Nat) (l : List Nat) (x : Int) (w : World) (h : Reads w B 1 A n (dv l)) (r : Rep s l x) (hn : n ≤ 1048576) :
    Calls Tryz.prog 24 #[.agg #[.int .i64 s, .slice A n c]] w fun e w' => e = .returned (.tuple #[.int .i64 (intP x).1, .bool (intP x).2]) ∧ Below w.heap.size w w' := by
  have R := Lib.hid r
  have L := Lib.hid h.lenD
  have HR := Lib.hid h.here
  clear h r
  refine CallsIn.calls (F := Fence.wide) (n := 9) ?_ room_wide
  refine callsIn_of_wp_marks Tryz.func24 rfl trivial ?_ rfl
  simp only [Tryz.ntmps24, List.size_toArray, List.length_cons, List.length_nil, Nat.reduceAdd, Nat.reduceSub, Array.replicate_succ, Array.replicate_zero, List.push_toArray, List.append_toArray, List.nil_append, List.cons_append]
  gi_wp2_with fail
  have hb0 : Below w.heap.size w (((w.alloc (.cells #[.int .i64 s, .slice A n c] 24)).alloc (.cells #[.int .i64 0] 3)).alloc (.cells #[.bool false] 4)) := (((Below.refl _ _).alloc (Nat.le_refl _) _).alloc (by simp) _).alloc (by simp; omega) _
  have k1 : Blk (((w.alloc (.cells #[.int .i64 s, .slice A n c] 24)).alloc (.cells #[.int .i64 0] 3)).alloc (.cells #[.bool false] 4)) w.heap.size 24 #[.int .i64 s, .slice A n c] := ((Blk.new w _ _).alloc _).alloc _
  have k2 : Blk (((w.alloc (.cells #[.int .i64 s, .slice A n c] 24)).alloc (.cells #[.int .i64 0] 3)).alloc (.cells #[.bool false] 4)) (w.heap.size + 1) 3 #[.int .i64 0] := by
    have := (Blk.new (w.alloc (.cells #[.int .i64 s, .slice A n c] 24)) 3 #[.int .i64 0]).alloc (.cells #[.bool false] 4)
    simpa using this
  have k3 : Blk (((w.alloc (.cells #[.int .i64 s, .slice A n c] 24)).alloc (.cells #[.int .i64 0] 3)).alloc (.cells #[.bool false] 4)) (w.heap.size + 1 + 1) 4 #[.bool false] := by
    have := Blk.new ((w.alloc (.cells #[.int .i64 s, .slice A n c] 24)).alloc (.cells #[.int .i64 0] 3)) 4 #[.bool false]
    simpa using this
  refine ⟨trivial, (callsIn_wide.2 (right_rep R.out A n c _ _ (HR.out.past hb0) (by omega))).mono ?_⟩
  rintro e w4 ⟨rfl, b4⟩
  have K1 := Lib.hid (k1.below b4 k1.lt)
  have K2 := Lib.hid (k2.below b4 k2.lt)
  have K3 := Lib.hid (k3.below b4 k3.lt)
  have B4 := Lib.hid (hb0.trans (b4.mono hb0.size))
  have H4 := Lib.hid (HR.out.past B4.out)
  have y0 : w4.cell? ⟨w.heap.size, 0, none⟩ = some (.int .i64 s) := (K1.out.cell 0).trans rfl
  have y1 : w4.cell? ⟨w.heap.size, 1, none⟩ = some (.slice A n c) := (K1.out.cell 1).trans rfl
  have hsz0 : w.heap.size < w4.heap.size := K1.out.lt
  have hsz : w.heap.size + 1 + 1 < w4.heap.size := K3.out.lt
  clear b4 hb0 k1 k2 k3 HR
  gi_wp2_with fail
  refine ⟨trivial, (callsIn_wide.2 (backward_any A n c _)).mono ?_⟩
  rintro e w' ⟨rfl, rfl⟩
  gi_wp2_with fail
  have hL : (l.map fun d : Nat => (d : Int)).length = n := by rw [List.length_map]; exact L.out
  have hm0 : w.heap.size ≤ w4.heap.size := by omega
  have hA : Below w4.heap.size w4 ((w4.alloc (.cells #[.int .u64 0] 105)).alloc (.cells #[.slice A n c] 22)) := ((Below.refl _ _).alloc (Nat.le_refl _) _).alloc (by simp) _
  have hW0 : Below w.heap.size w ((w4.alloc (.cells #[.int .u64 0] 105)).alloc (.cells #[.slice A n c] 22)) := B4.out.trans (hA.mono hm0)
  have km : Blk ((w4.alloc (.cells #[.int .u64 0] 105)).alloc (.cells #[.slice A n c] 22)) w4.heap.size 105 #[.int .u64 0] := (Blk.new w4 _ _).alloc _
  have kb : Blk ((w4.alloc (.cells #[.int .u64 0] 105)).alloc (.cells #[.slice A n c] 22)) (w4.heap.size + 1) 22 #[.slice A n c] := by
    have := Blk.new (w4.alloc (.cells #[.int .u64 0] 105)) 22 #[.slice A n c]
    simpa using this
  have j1 := K1.out.below hA K1.out.lt
  have j2 := K2.out.below hA K2.out.lt
  have j3 := K3.out.below hA K3.out.lt
  have hne1 : w.heap.size ≠ w4.heap.size := by omega
  refine wpIn_rangeFunc_ownG rfl (by omega) (gf := 200) (lb := #[.pointer (some ⟨w4.heap.size + 1, 0, none⟩)]) rfl trivial (enters_of Tryz.func200 (by kernel_rfl) rfl)
    (back_stops 8 (by omega) (w4.heap.size + 1) w4.heap.size A n c (l.map fun d : Nat => (d : Int)) hL (by omega) _ (by simp) (by simp; omega) ((kb.cell 0).trans rfl) ((dv_read (H4.out.past hA)).more (by omega))) BackK.trans (backK_b (by simp; omega) (by simp)) (Below.refl _ _) (fun _ => rfl)
    (fun pre W => ((W.cell? ⟨w4.heap.size, 0, none⟩ = some (.int .u64 (foldM pre)) ∧ W.frozen? ⟨w4.heap.size, 0, none⟩ = false ∧ W.cell? ⟨w.heap.size, 0, none⟩ = some (.int .i64 s) ∧ W.cell? ⟨w.heap.size + 1, 0, none⟩ = some (.int .i64 0) ∧ W.frozen? ⟨w.heap.size + 1, 0, none⟩ = false ∧ W.cell? ⟨w.heap.size + 1 + 1, 0, none⟩ = some (.bool false) ∧ W.frozen? ⟨w.heap.size + 1 + 1, 0, none⟩ = false) ∧ Hid (okPre pre)) ∧ Below w.heap.size w W)
    (fun e pre W => (e = .ret ∧ ∃ ini last, pre = ini ++ [last] ∧ 17592186044415 < foldM ini ∧ okPre ini ∧ W.cell? ⟨w.heap.size + 1, 0, none⟩ = some (.int .i64 0) ∧ W.cell? ⟨w.heap.size + 1 + 1, 0, none⟩ = some (.bool false)) ∧ Below w.heap.size w W)
    (OwnFrom.and (Own.from (fun s A B row hs hg hr => ⟨⟨cell_kept hs.1.1 hg hr, (frozen_kept hs.1.1 hg hr).trans hs.1.2.1, cell_kept hs.1.2.2.1 hg hr, cell_kept hs.1.2.2.2.1 hg hr, (frozen_kept hs.1.2.2.2.1 hg hr).trans hs.1.2.2.2.2.1, cell_kept hs.1.2.2.2.2.2.1 hg hr, (frozen_kept hs.1.2.2.2.2.2.1 hg hr).trans hs.1.2.2.2.2.2.2⟩, hs.2⟩) _) (ownFrom_below (Nat.le_refl _) (by simp; omega)))
    (fun e => OwnFrom.and (Own.from (fun s A B row hs hg hr => by obtain ⟨hc, ini, last, e1, e2, e3, e4, e5⟩ := hs; exact ⟨hc, ini, last, e1, e2, e3, cell_kept e4 hg hr, cell_kept e5 hg hr⟩) _) (ownFrom_below (Nat.le_refl _) (by simp; omega)))
    ⟨⟨⟨(km.cell 0).trans rfl, km.frozen 0, (j1.cell 0).trans rfl, (j2.cell 0).trans rfl, j2.frozen 0, (j3.cell 0).trans rfl, j3.frozen 0⟩, (fun j hj => absurd hj (by simp))⟩, hW0⟩
    (fun x => { tmps := #[.agg #[.int .i64 s, .slice A n c], .pointer (some ⟨w.heap.size, 0, none⟩), .pointer (some ⟨w.heap.size + 1, 0, none⟩), .pointer (some ⟨w.heap.size + 1 + 1, 0, none⟩), .pointer (some ⟨w4.heap.size, 0, none⟩), undef, .int .i64 x.2, .agg #[.int .i64 s, .slice A n c], .bool true, .bool false, .pointer (some ⟨w.heap.size, 1, none⟩), .slice A n c, .func (.func 200) #[] #[.pointer (some ⟨w4.heap.size + 1, 0, none⟩)], .int .i64 (x.1 : Int), .int .i64 x.2, undef, undef, undef, undef, undef, undef, undef, undef, undef, undef, undef, undef, undef, undef, undef, undef, undef, undef, undef, undef, undef, undef, undef], defers := [] }) ?assign ?body ?done ?stop
  case assign =>
    intro l x W K hK
    gi_wp2
    exact hK
  case body =>
    rintro l pre x W ⟨⟨⟨hc, hf, hcs, hc2, hf2, hc3, hf3⟩, hok⟩, hB⟩ _
    by_cases hm : 17592186044415 < foldM pre
    · gi_wp2
      exact ⟨((KeepsOthers.setCell _ _ _).trans (KeepsOthers.setCell _ _ _)).from _, ⟨rfl, pre, x, rfl, hm, hok.out, (World.cell?_setCell_other _ _ _ _ (by simp)).trans (World.cell?_setCell_same' _ _ _ (by rw [hc2]; rfl)), World.cell?_setCell_same' _ _ _ (by rw [World.cell?_setCell_other _ _ _ _ (by simp), hc3]; rfl)⟩, (hB.setCell (p := ⟨w.heap.size + 1, 0, none⟩) (by show _ ≤ w.heap.size + 1; omega) _).setCell (p := ⟨w.heap.size + 1 + 1, 0, none⟩) (by show _ ≤ w.heap.size + 1 + 1; omega) _⟩
    · have hm' : foldM pre ≤ 17592186044415 := by omega
      gi_wp2
      have hn1 : (⟨w4.heap.size, 0, none⟩ : Addr) ≠ ⟨w.heap.size, 0, none⟩ := blk_ne (by omega)
      have hn2 : (⟨w4.heap.size, 0, none⟩ : Addr) ≠ ⟨w.heap.size + 1, 0, none⟩ := blk_ne (by omega)
      have hn3 : (⟨w4.heap.size, 0, none⟩ : Addr) ≠ ⟨w.heap.size + 1 + 1, 0, none⟩ := blk_ne (by omega)
      exact ⟨(KeepsOthers.setCell _ _ _).from _, ⟨(Below.refl _ W).setCell (p := ⟨w4.heap.size, 0, none⟩) (Nat.le_refl _) _, Below.heap_setCell W ⟨w4.heap.size, 0, none⟩ _ (w4.heap.size + 1) (by show _ ≠ w4.heap.size; omega)⟩, ⟨⟨by rw [foldM_snoc]; exact World.cell?_setCell_same' _ _ _ (by rw [hc]; rfl), by rw [World.frozen?_setCell]; exact hf, (World.cell?_setCell_other _ _ _ _ (by assumption)).trans hcs, (World.cell?_setCell_other _ _ _ _ (by assumption)).trans hc2, by rw [World.frozen?_setCell]; exact hf2, (World.cell?_setCell_other _ _ _ _ (by assumption)).trans hc3, by rw [World.frozen?_setCell]; exact hf3⟩, hok.out.snoc hm' x⟩, hB.setCell (p := ⟨w4.heap.size, 0, none⟩) hm0 _⟩
  case done =>
    rintro D ys W hD rfl ⟨⟨⟨hc, hf, hcs, hc2, hf2, hc3, hf3⟩, hok⟩, hB⟩ hK
    obtain ⟨hv, hlt⟩ := endVal_lt R.out.norm.1 (by rw [L.out]; exact hok.out)
    rw [L.out] at hv
    rw [hv] at hc
    obtain ⟨V, hV⟩ : ∃ V : Int, ((dval l : Nat) : Int) = V := ⟨_, rfl⟩
    rw [hV] at hc
    have hx : x = s * V := by rw [← hV]; exact R.out.eq
    have hV0 : 0 ≤ V := by omega
    have hV2 : V ≤ 18446744073709551615 := by omega
    have hsg : -1 ≤ s ∧ s ≤ 1 := by rcases R.out.sign with ⟨e, -⟩ | ⟨e, -⟩ | ⟨e, -⟩ <;> omega
    have hD2 : w.heap.size ≤ D := by simp at hD; omega
    have HX := Lib.hid hx
    have HSG := Lib.hid hsg
    have HOK := Lib.hid hV
    clear hok hv hlt hx hV
    by_cases h1 : V ≤ 9223372036854775807
    · have hp : -9223372036854775808 ≤ s * V ∧ s * V ≤ 9223372036854775807 := by
        have hcs : s = -1 ∨ s = 0 ∨ s = 1 := by have := HSG.out; omega
        rcases hcs with e | e | e <;> rw [e] <;> omega
      obtain ⟨hp0, hp1⟩ := hp
      have HI : Hid (intP x = (s * V, true)) := by show _ = _; unfold intP; rw [HX.out, if_pos ⟨hp0, hp1⟩]
      clear hsg
      gi_wp2
      have hK2 := ((KeepsOthers.setCell W ⟨w.heap.size + 1, 0, none⟩ (.int .i64 (s * V))).trans (KeepsOthers.setCell _ ⟨w.heap.size + 1 + 1, 0, none⟩ (.bool true))).same D _ hK rfl
      have e1 : ((W.setCell ⟨w.heap.size + 1, 0, none⟩ (.int .i64 (s * V))).setCell ⟨w.heap.size + 1 + 1, 0, none⟩ (.bool true)).cell? ⟨w.heap.size + 1, 0, none⟩ = some (.int .i64 (s * V)) := (World.cell?_setCell_other _ _ _ _ (blk_ne (by omega))).trans (World.cell?_setCell_same' _ _ _ (by rw [hc2]; rfl))
      have e2 : ((W.setCell ⟨w.heap.size + 1, 0, none⟩ (.int .i64 (s * V))).setCell ⟨w.heap.size + 1 + 1, 0, none⟩ (.bool true)).cell? ⟨w.heap.size + 1 + 1, 0, none⟩ = some (.bool true) := World.cell?_setCell_same' _ _ _ (by rw [World.cell?_setCell_other _ _ _ _ (blk_ne (by omega)), hc3]; rfl)
      refine ⟨by simp, .inl ⟨_, _, rfl, run_takeDeferred hK2, ?_⟩⟩
      have g1 := cell_kept e1 (grownBy_putObj' _ D (.deferred none)) (fun r e => by cases e; exact ⟨_, hK2, rfl⟩)
      have g2 := cell_kept e2 (grownBy_putObj' _ D (.deferred none)) (fun r e => by cases e; exact ⟨_, hK2, rfl⟩)
      refine ⟨.tuple #[.int .i64 (s * V), .bool true], ?_, by rw [HI.out], ((hB.setCell (p := ⟨w.heap.size + 1, 0, none⟩) (by show _ ≤ w.heap.size + 1; omega) _).setCell (p := ⟨w.heap.size + 1 + 1, 0, none⟩) (by show _ ≤ w.heap.size + 1 + 1; omega) _).trans (belowK_b (w := w) (Nat.le_refl _) _ D _ _ hD2 hK2 rfl rfl)⟩
      simp [results, Tryz.f24, go_sem, g1, g2]
    · by_cases h2 : V = 9223372036854775808 ∧ s < 0
      · obtain ⟨h2, h3⟩ := h2
        subst h2
        have HI : Hid (intP x = (-9223372036854775808, true)) := by
          show _ = _
          have hs : s = -1 := by omega
          unfold intP
          rw [HX.out, hs, if_pos (by omega)]
          rfl
        clear hsg hV0 hV2 HOK h1
        gi_wp2
        have hK2 := ((KeepsOthers.setCell W ⟨w.heap.size + 1, 0, none⟩ (.int .i64 (-9223372036854775808))).trans (KeepsOthers.setCell _ ⟨w.heap.size + 1 + 1, 0, none⟩ (.bool true))).same D _ hK rfl
        have e1 : ((W.setCell ⟨w.heap.size + 1, 0, none⟩ (.int .i64 (-9223372036854775808))).setCell ⟨w.heap.size + 1 + 1, 0, none⟩ (.bool true)).cell? ⟨w.heap.size + 1, 0, none⟩ = some (.int .i64 (-9223372036854775808)) := (World.cell?_setCell_other _ _ _ _ (blk_ne (by omega))).trans (World.cell?_setCell_same' _ _ _ (by rw [hc2]; rfl))
        have e2 : ((W.setCell ⟨w.heap.size + 1, 0, none⟩ (.int .i64 (-9223372036854775808))).setCell ⟨w.heap.size + 1 + 1, 0, none⟩ (.bool true)).cell? ⟨w.heap.size + 1 + 1, 0, none⟩ = some (.bool true) := World.cell?_setCell_same' _ _ _ (by rw [World.cell?_setCell_other _ _ _ _ (blk_ne (by omega)), hc3]; rfl)
        refine ⟨by simp, .inl ⟨_, _, rfl, run_takeDeferred hK2, ?_⟩⟩
        have g1 := cell_kept e1 (grownBy_putObj' _ D (.deferred none)) (fun r e => by cases e; exact ⟨_, hK2, rfl⟩)
        have g2 := cell_kept e2 (grownBy_putObj' _ D (.deferred none)) (fun r e => by cases e; exact ⟨_, hK2, rfl⟩)
        refine ⟨.tuple #[.int .i64 (-9223372036854775808), .bool true], ?_, by rw [HI.out], ((hB.setCell (p := ⟨w.heap.size + 1, 0, none⟩) (by show _ ≤ w.heap.size + 1; omega) _).setCell (p := ⟨w.heap.size + 1 + 1, 0, none⟩) (by show _ ≤ w.heap.size + 1 + 1; omega) _).trans (belowK_b (w := w) (Nat.le_refl _) _ D _ _ hD2 hK2 rfl rfl)⟩
        simp [results, Tryz.f24, go_sem, g1, g2]
      · have HI : Hid (intP x = (0, false)) := by
          show _ = _
          have hcs : s = -1 ∨ s = 0 ∨ s = 1 := by have := HSG.out; omega
          unfold intP
          rw [HX.out, if_neg ?_]
          rcases hcs with e | e | e
          · rw [e] at h2 ⊢; omega
          · exact absurd HX.out (by
              rw [e, Int.zero_mul]
              intro hx0
              rcases R.out.cases with ⟨a, -, -⟩ | ⟨a, -, -⟩ | ⟨-, a, -⟩
              · omega
              · omega
              · rw [a] at HOK
                have := HOK.out
                simp [dval] at this
                omega)
          · rw [e]; omega
        clear hsg
        by_cases h3 : V = 9223372036854775808
        · have hs0 : ¬ s < 0 := fun h => h2 ⟨h3, h⟩
          subst h3
          clear h2 hV0 hV2 HOK h1
          gi_wp2
          have hK2 := ((KeepsOthers.setCell W ⟨w.heap.size + 1, 0, none⟩ (.int .i64 (0))).trans (KeepsOthers.setCell _ ⟨w.heap.size + 1 + 1, 0, none⟩ (.bool false))).same D _ hK rfl
          have e1 : ((W.setCell ⟨w.heap.size + 1, 0, none⟩ (.int .i64 (0))).setCell ⟨w.heap.size + 1 + 1, 0, none⟩ (.bool false)).cell? ⟨w.heap.size + 1, 0, none⟩ = some (.int .i64 (0)) := (World.cell?_setCell_other _ _ _ _ (blk_ne (by omega))).trans (World.cell?_setCell_same' _ _ _ (by rw [hc2]; rfl))
          have e2 : ((W.setCell ⟨w.heap.size + 1, 0, none⟩ (.int .i64 (0))).setCell ⟨w.heap.size + 1 + 1, 0, none⟩ (.bool false)).cell? ⟨w.heap.size + 1 + 1, 0, none⟩ = some (.bool false) := World.cell?_setCell_same' _ _ _ (by rw [World.cell?_setCell_other _ _ _ _ (blk_ne (by omega)), hc3]; rfl)
          refine ⟨by simp, .inl ⟨_, _, rfl, run_takeDeferred hK2, ?_⟩⟩
          have g1 := cell_kept e1 (grownBy_putObj' _ D (.deferred none)) (fun r e => by cases e; exact ⟨_, hK2, rfl⟩)
          have g2 := cell_kept e2 (grownBy_putObj' _ D (.deferred none)) (fun r e => by cases e; exact ⟨_, hK2, rfl⟩)
          refine ⟨.tuple #[.int .i64 (0), .bool false], ?_, by rw [HI.out], ((hB.setCell (p := ⟨w.heap.size + 1, 0, none⟩) (by show _ ≤ w.heap.size + 1; omega) _).setCell (p := ⟨w.heap.size + 1 + 1, 0, none⟩) (by show _ ≤ w.heap.size + 1 + 1; omega) _).trans (belowK_b (w := w) (Nat.le_refl _) _ D _ _ hD2 hK2 rfl rfl)⟩
          simp [results, Tryz.f24, go_sem, g1, g2]
        · have h3' : ¬ V = 9223372036854775808 := h3
          clear h2
          gi_wp2
          have hK2 := ((KeepsOthers.setCell W ⟨w.heap.size + 1, 0, none⟩ (.int .i64 (0))).trans (KeepsOthers.setCell _ ⟨w.heap.size + 1 + 1, 0, none⟩ (.bool false))).same D _ hK rfl
          have e1 : ((W.setCell ⟨w.heap.size + 1, 0, none⟩ (.int .i64 (0))).setCell ⟨w.heap.size + 1 + 1, 0, none⟩ (.bool false)).cell? ⟨w.heap.size + 1, 0, none⟩ = some (.int .i64 (0)) := (World.cell?_setCell_other _ _ _ _ (blk_ne (by omega))).trans (World.cell?_setCell_same' _ _ _ (by rw [hc2]; rfl))
          have e2 : ((W.setCell ⟨w.heap.size + 1, 0, none⟩ (.int .i64 (0))).setCell ⟨w.heap.size + 1 + 1, 0, none⟩ (.bool false)).cell? ⟨w.heap.size + 1 + 1, 0, none⟩ = some (.bool false) := World.cell?_setCell_same' _ _ _ (by rw [World.cell?_setCell_other _ _ _ _ (blk_ne (by omega)), hc3]; rfl)
          refine ⟨by simp, .inl ⟨_, _, rfl, run_takeDeferred hK2, ?_⟩⟩
          have g1 := cell_kept e1 (grownBy_putObj' _ D (.deferred none)) (fun r e => by cases e; exact ⟨_, hK2, rfl⟩)
          have g2 := cell_kept e2 (grownBy_putObj' _ D (.deferred none)) (fun r e => by cases e; exact ⟨_, hK2, rfl⟩)
          refine ⟨.tuple #[.int .i64 (0), .bool false], ?_, by rw [HI.out], ((hB.setCell (p := ⟨w.heap.size + 1, 0, none⟩) (by show _ ≤ w.heap.size + 1; omega) _).setCell (p := ⟨w.heap.size + 1 + 1, 0, none⟩) (by show _ ≤ w.heap.size + 1 + 1; omega) _).trans (belowK_b (w := w) (Nat.le_refl _) _ D _ _ hD2 hK2 rfl rfl)⟩
          simp [results, Tryz.f24, go_sem, g1, g2]
  case stop =>
    rintro D e pre W hD ⟨k, hk, rfl⟩ ⟨⟨rfl, ini, last, e1, e2, e3, hc2, hc3⟩, hB⟩ hK
    have hD2 : w.heap.size ≤ D := by simp at hD; omega
    obtain ⟨k', rfl⟩ : ∃ k', k = k' + 1 := by
      cases k with
      | zero => simp [ends] at e1
      | succ k' => exact ⟨k', rfl⟩
    rw [ends_succ] at e1
    obtain ⟨rfl, -⟩ := List.append_inj' e1 rfl
    have hbig := fold_stop R.out.norm.1 (k := k') (by rw [L.out]; omega) e3 e2
    have HI : Hid (intP x = (0, false)) := by
      show _ = _
      unfold intP
      rw [if_neg ?_]
      rcases R.out.cases with ⟨-, -, a, b⟩ | ⟨-, -, a, b⟩ | ⟨-, a, -⟩
      · omega
      · omega
      · rw [a] at hbig; simp [dval] at hbig
    clear hbig e1 e2 e3
    gi_wp2
    refine ⟨by simp, .inl ⟨_, _, rfl, run_takeDeferred hK, ?_⟩⟩
    have g1 := cell_kept hc2 (grownBy_putObj' _ D (.deferred none)) (fun r e => by cases e; exact ⟨_, hK, rfl⟩)
    have g2 := cell_kept hc3 (grownBy_putObj' _ D (.deferred none)) (fun r e => by cases e; exact ⟨_, hK, rfl⟩)
    refine ⟨.tuple #[.int .i64 0, .bool false], ?_, by rw [HI.out], hB.trans (belowK_b (w := w) (Nat.le_refl _) _ D _ _ hD2 hK rfl rfl)⟩
    simp [results, Tryz.f24, go_sem, g1, g2]
end Go.Proofs.YtikfjmdeeknalaaGreatDoor
