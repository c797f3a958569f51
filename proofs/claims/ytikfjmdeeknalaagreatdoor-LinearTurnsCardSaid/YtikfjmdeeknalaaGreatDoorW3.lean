/- The walks of linear's Value, rightRow and Right. Conditions: sizes; the table of math/bits as its text lays it. -/
import Derived.Test.YtikfjmdeeknalaaGreatDoorV9
namespace Go.Proofs.YtikfjmdeeknalaaGreatDoor
set_option maxRecDepth 20000
open Go.RowKit

theorem goT_mem {m n : Int} {l : List (Int × Option Rat)} (h : goT m n l = true) : ∀ t ∈ l, t.2.isSome = true ∧ m < t.1 ∧ t.1 < n := by
  induction l generalizing m with
  | nil => intro t ht; cases ht
  | cons u l ih =>
    rw [goT] at h
    split at h
    · cases h
    · rename_i hc
      have h1 : m < u.1 := by have : ¬ u.1 ≤ m := fun e => hc (.inl e); omega
      have h2 : u.1 < n := by have : ¬ n ≤ u.1 := fun e => hc (.inr (.inl e)); omega
      obtain ⟨y, hy, -⟩ := sgnO_ne (x := u.2) (fun e => hc (.inr (.inr e)))
      intro t ht
      rcases List.mem_cons.1 ht with rfl | ht
      · exact ⟨by rw [hy]; rfl, h1, h2⟩
      · obtain ⟨a, b, c⟩ := ih h t ht
        exact ⟨a, by omega, c⟩
/-- How Value ends. -/
def ValYes (w : World) (k : Nat) (x : Rat) (e : Ending) (w' : World) : Prop := ∃ r : FrR, e = .returned (.tuple #[frV r, .bool true]) ∧ r.n1 ≤ r.c1 ∧ r.n2 ≤ r.c2 ∧ Fg w' k x r ∧ Fresh w r.A1 r.n1 ∧ Fresh w r.A2 r.n2 ∧ Below w.heap.size w w'
def ValNo (w : World) (e : Ending) (w' : World) : Prop := e = .returned (.tuple #[.agg #[.int .i64 0, .slice none 0 0, .int .i64 0, .slice none 0 0], .bool false]) ∧ Below w.heap.size w w'
theorem FrEnd.yes {w w' : World} {k : Nat} {x : Rat} {v : Value} (h : FrEnd w k x (.returned v) w') : ValYes w k x (.returned (.tuple #[v, .bool true])) w' := by
  obtain ⟨r, e, h⟩ := h
  cases e
  exact ⟨r, rfl, h⟩
section
variable {k m n cx c : Nat} {X A : Option Addr} {xs : List (Option Rat)} {l : List (Int × Option Rat)} {w : World}
set_option maxHeartbeats 4000000 in
theorem Value_yes (d : Nat) (hd : d ≤ 6) (hk : k ≤ 500) (hl : Ts k w A n l) (hx : Xs k w X m xs) (hT : TabZ w) (hnc : n ≤ c) (hn : n ≤ 2 ^ d) (hm : m ≤ 1073741824) (h : canV xs l = true) :
    Calls Tryz.prog 82 #[.slice A n c, .slice X m cx] w (ValYes w (bnd k d) (valO xs l)) := by
  unfold canV at h
  rw [Bool.and_eq_true] at h
  obtain ⟨h1, h2⟩ := h
  rw [hx.len] at h1
  have hin : inV m l := fun t ht => by
    obtain ⟨a, b, c⟩ := goT_mem h1 t ht
    exact ⟨a, by omega, c⟩
  have h64 : 2 ^ d ≤ 2 ^ 6 := Nat.pow_le_pow_right (by decide) hd
  have e64 : (2 : Nat) ^ 6 = 64 := rfl
  obtain ⟨W0, hW0⟩ : ∃ W0, W0 = w.alloc (.cells #[.int .i64 0, .slice none 0 0, .int .i64 0, .slice none 0 0] 43) := ⟨_, rfl⟩
  have HB0 : Hid (Below w.heap.size w W0) := by show Below _ _ _; rw [hW0]; exact bal (Below.refl _ _)
  have KB : Hid (Blk W0 w.heap.size 43 #[.int .i64 0, .slice none 0 0, .int .i64 0, .slice none 0 0]) := by show Blk _ _ _ _; rw [hW0]; exact Blk.new _ _ _
  have C1 := Lib.hid (RT_any c (m : Int) W0 (Lib.hid (hl.past (TmEl.keeps k) HB0.out)) (Lib.hid (hT.on HB0.out)) (by omega) (by omega) h1)
  have C2 := Lib.hid (fun W (hb : Below w.heap.size w W) => allRight cx W (hx.past (FrEl.keeps k) hb) (hT.on hb) (by omega) hm)
  rw [h2] at C2
  have C3 := Lib.hid (fun W (hb : Below w.heap.size w W) => value_R (cx := cx) hk (fun x hx => List.all_eq_true.1 h2 x hx) d hd hn hnc (hl.past (TmEl.keeps k) hb) (hx.past (FrEl.keeps k) hb) (hT.on hb) hin)
  clear hl hx hT h1 h2 hin
  go_enter Tryz.func82, Tryz.ntmps82
  go_upto_region 1 with (fail)
  rw [← hW0]
  clear hW0
  go_wp2_with fail
  refine C1.out.mono ?_
  rintro e w1 ⟨rfl, hb⟩
  have B1 := Lib.hid (HB0.out.trans (hb.mono HB0.out.size))
  have K1 := Lib.hid (KB.out.below hb KB.out.lt)
  have hlt : w.heap.size < W0.heap.size := KB.out.lt
  clear hb C1
  go_wp2_with fail
  refine (C2.out w1 B1.out).mono ?_
  rintro e w2 ⟨rfl, hb⟩
  have B2 := Lib.hid (B1.out.trans (hb.mono B1.out.size))
  have K2 := Lib.hid (K1.out.below hb K1.out.lt)
  clear hb C2
  go_wp2_with fail
  refine (C3.out w2 B2.out).mono ?_
  rintro e w3 ⟨⟨s5, A5, n5, c5, s6, A6, n6, c6⟩, rfl, hc1, hc2, hf, f1, f2, hb⟩
  have K3 := Lib.hid (K2.out.below hb K2.out.lt)
  obtain ⟨kr0, kr1, kr2, kr3, q0, q1, q2, q3⟩ := fr_cells K3.out
  obtain ⟨wf, hwf, r0, r1, r2, r3, kE⟩ := fr_end K3.out (Nat.le_refl _) K2.out.lt (B2.out.trans (hb.mono B2.out.size)) hf.1 hf.2 f1 f2 hc1 hc2 (Low.self _)
  have HE := Lib.hid kE.yes
  clear kE hc1 hc2 hf f1 f2 hb C3
  dsimp only [frV]
  go_wp2_with fail
  rw [← hwf]
  clear hwf
  exact bodyPost_ret (v := .tuple #[.agg #[.int .i64 s5, .slice A5 n5 c5, .int .i64 s6, .slice A6 n6 c6], .bool true]) (by simp [results, Tryz.results82, go_sem, r0, r1, r2, r3]) rfl HE.out
theorem zero_end {w w1 : World} {g : Nat} {t : TypeId} {o1 o2 o3 o4 : Value} (h : Blk w1 g t #[o1, o2, o3, o4]) (hg : w.heap.size ≤ g) (hb : Below w.heap.size w w1) :
    ∃ wf, wf = (((w1.setCell ⟨g, 0, none⟩ (.int .i64 0)).setCell ⟨g, 1, none⟩ (.slice none 0 0)).setCell ⟨g, 2, none⟩ (.int .i64 0)).setCell ⟨g, 3, none⟩ (.slice none 0 0) ∧
      wf.cell? ⟨g, 0, none⟩ = some (.int .i64 0) ∧ wf.cell? ⟨g, 1, none⟩ = some (.slice none 0 0) ∧ wf.cell? ⟨g, 2, none⟩ = some (.int .i64 0) ∧ wf.cell? ⟨g, 3, none⟩ = some (.slice none 0 0) ∧ Below w.heap.size w wf := fr_put h hg hb _ _ _ _
set_option maxHeartbeats 4000000 in
theorem Value_no (hk : k ≤ 100000) (hl : Ts k w A n l) (hx : Xs k w X m xs) (hT : TabZ w) (hn : n ≤ 1073741824) (hm : m ≤ 1073741824) (h : canV xs l = false) :
    Calls Tryz.prog 82 #[.slice A n c, .slice X m cx] w (ValNo w) := by
  unfold canV at h
  rw [hx.len] at h
  obtain ⟨W0, hW0⟩ : ∃ W0, W0 = w.alloc (.cells #[.int .i64 0, .slice none 0 0, .int .i64 0, .slice none 0 0] 43) := ⟨_, rfl⟩
  have HB0 : Hid (Below w.heap.size w W0) := by show Below _ _ _; rw [hW0]; exact bal (Below.refl _ _)
  have KB : Hid (Blk W0 w.heap.size 43 #[.int .i64 0, .slice none 0 0, .int .i64 0, .slice none 0 0]) := by show Blk _ _ _ _; rw [hW0]; exact Blk.new _ _ _
  have C1 := Lib.hid (RT_any c (m : Int) W0 (Lib.hid (hl.past (TmEl.keeps k) HB0.out)) (Lib.hid (hT.on HB0.out)) hk hn rfl)
  have C2 := Lib.hid (fun W (hb : Below w.heap.size w W) => allRight cx W (hx.past (FrEl.keeps k) hb) (hT.on hb) hk hm)
  clear hl hx hT
  cases h1 : goT (-1) (m : Int) l
  · rw [h1] at C1
    clear h1 h C2
    go_enter Tryz.func82, Tryz.ntmps82
    go_upto_region 1 with (fail)
    rw [← hW0]
    clear hW0
    go_wp2_with fail
    refine C1.out.mono ?_
    rintro e w1 ⟨rfl, hb⟩
    have B1 := Lib.hid (HB0.out.trans (hb.mono HB0.out.size))
    have K1 := Lib.hid (KB.out.below hb KB.out.lt)
    clear hb C1
    obtain ⟨kr0, kr1, kr2, kr3, q0, q1, q2, q3⟩ := fr_cells K1.out
    obtain ⟨wf, hwf, r0, r1, r2, r3, kE⟩ := zero_end K1.out (Nat.le_refl _) B1.out
    have HE := Lib.hid kE
    clear kE
    go_wp2_with fail
    rw [← hwf]
    clear hwf
    exact bodyPost_ret (v := .tuple #[.agg #[.int .i64 0, .slice none 0 0, .int .i64 0, .slice none 0 0], .bool false]) (by simp [results, Tryz.results82, go_sem, r0, r1, r2, r3]) rfl ⟨rfl, HE.out⟩
  · rw [h1, Bool.true_and] at h
    rw [h1] at C1
    rw [h] at C2
    clear h1 h
    go_enter Tryz.func82, Tryz.ntmps82
    go_upto_region 1 with (fail)
    rw [← hW0]
    clear hW0
    go_wp2_with fail
    refine C1.out.mono ?_
    rintro e w1 ⟨rfl, hb⟩
    have B1 := Lib.hid (HB0.out.trans (hb.mono HB0.out.size))
    have K1 := Lib.hid (KB.out.below hb KB.out.lt)
    clear hb C1
    go_wp2_with fail
    refine (C2.out w1 B1.out).mono ?_
    rintro e w2 ⟨rfl, hb⟩
    have B2 := Lib.hid (B1.out.trans (hb.mono B1.out.size))
    have K2 := Lib.hid (K1.out.below hb K1.out.lt)
    clear hb C2
    obtain ⟨kr0, kr1, kr2, kr3, q0, q1, q2, q3⟩ := fr_cells K2.out
    obtain ⟨wf, hwf, r0, r1, r2, r3, kE⟩ := zero_end K2.out (Nat.le_refl _) B2.out
    have HE := Lib.hid kE
    clear kE
    go_wp2_with fail
    rw [← hwf]
    clear hwf
    exact bodyPost_ret (v := .tuple #[.agg #[.int .i64 0, .slice none 0 0, .int .i64 0, .slice none 0 0], .bool false]) (by simp [results, Tryz.results82, go_sem, r0, r1, r2, r3]) rfl ⟨rfl, HE.out⟩
end
end Go.Proofs.YtikfjmdeeknalaaGreatDoor

/- The walks of linear's rightRow and Right. Conditions: sizes; the table of math/bits as its text lays it. -/
namespace Go.Proofs.YtikfjmdeeknalaaGreatDoor
set_option maxRecDepth 20000
open Go.RowKit

section
variable {k m : Nat} {A : Option Addr} {w : World}
set_option maxHeartbeats 8000000 in
theorem rightRow_any (x : RowP) (mc : Nat) (r : FrR) (N : Int) (hl : Ts k w A m x.ts) (hv : Fo w k x.val r) (hT : TabZ w) (hk : k ≤ 100000) (hm : m ≤ 1073741824) :
    Calls Tryz.prog 171 #[rwV A m mc x.kind r, .int .i64 N] w (BoolB (rowR N x) w) := by
  obtain ⟨W0, hW0⟩ : ∃ W0, W0 = w.alloc (.cells (rwC A m mc x.kind r) 77) := ⟨_, rfl⟩
  have HB0 : Hid (Below w.heap.size w W0) := by show Below _ _ _; rw [hW0]; exact bal (Below.refl _ _)
  have KB : Hid (Blk W0 w.heap.size 77 (rwC A m mc x.kind r)) := by show Blk _ _ _ _; rw [hW0]; exact Blk.new _ _ _
  have C1 := Lib.hid (right_O r (hv.past HB0.out) (hT.on HB0.out) hk rfl)
  have C2 := Lib.hid (fun W (hb : Below w.heap.size w W) => RT_any mc N W (Lib.hid (hl.past (TmEl.keeps k) hb)) (Lib.hid (hT.on hb)) hk hm rfl)
  have HR : Hid (rowR N x = (decide (0 ≤ x.kind) && (decide (x.kind < 3) && (x.val.isSome && goT (-1) N x.ts)))) := rfl
  clear hl hv hT
  obtain ⟨ts, kind, val⟩ := x
  obtain ⟨s1, A1, n1, k1, s2, A2, n2, k2⟩ := r
  dsimp only [rwV, rwC, frV] at *
  obtain ⟨z0, z1, z2, z3, z4, z5⟩ := rw_cells KB.out
  by_cases h1 : 0 ≤ kind
  case neg =>
    have h1' : kind < 0 := by omega
    have HRes : Hid (rowR N ⟨ts, kind, val⟩ = false) := by show _ = _; rw [HR.out, decide_eq_false h1]; rfl
    clear HR C1 C2 h1
    go_enter Tryz.func171, Tryz.ntmps171
    go_upto_region 1 with (fail)
    rw [← hW0]
    clear hW0
    go_wp2_with fail
    go_ret
    exact ⟨by rw [HRes.out]; rfl, HB0.out⟩
  by_cases h2 : kind < 3
  case neg =>
    have h2' : 3 ≤ kind := by omega
    have HRes : Hid (rowR N ⟨ts, kind, val⟩ = false) := by show _ = _; rw [HR.out, decide_eq_false h2, Bool.false_and, Bool.and_false]
    clear HR C1 C2 h2
    go_enter Tryz.func171, Tryz.ntmps171
    go_upto_region 1 with (fail)
    rw [← hW0]
    clear hW0
    go_wp2_with fail
    go_ret
    exact ⟨by rw [HRes.out]; rfl, HB0.out⟩
  rw [decide_eq_true h1, decide_eq_true h2, Bool.true_and, Bool.true_and] at HR
  cases h3 : val.isSome
  · rw [h3] at HR C1
    clear h3 C2
    go_enter Tryz.func171, Tryz.ntmps171
    go_upto_region 1 with (fail)
    rw [← hW0]
    clear hW0
    go_wp2_with fail
    refine C1.out.mono ?_
    rintro e w1 ⟨rfl, hb⟩
    have B1 := Lib.hid (HB0.out.trans (hb.mono HB0.out.size))
    clear hb C1 z0 z1 z2 z3 z4 z5
    go_wp2_with fail
    go_ret
    exact ⟨by rw [HR.out]; rfl, B1.out⟩
  · rw [h3, Bool.true_and] at HR
    rw [h3] at C1
    clear h3
    obtain ⟨b, hb0⟩ : ∃ b, goT (-1) N ts = b := ⟨_, rfl⟩
    rw [hb0] at HR C2
    clear hb0
    go_enter Tryz.func171, Tryz.ntmps171
    go_upto_region 1 with (fail)
    rw [← hW0]
    clear hW0
    go_wp2_with fail
    refine C1.out.mono ?_
    rintro e w1 ⟨rfl, hb⟩
    have B1 := Lib.hid (HB0.out.trans (hb.mono HB0.out.size))
    have K1 := Lib.hid (KB.out.below hb KB.out.lt)
    clear hb C1 z0 z1 z2 z3 z4 z5
    obtain ⟨z0, z1, z2, z3, z4, z5⟩ := rw_cells K1.out
    go_wp2_with fail
    refine (C2.out w1 B1.out).mono ?_
    rintro e w2 ⟨rfl, hb⟩
    have B2 := Lib.hid (B1.out.trans (hb.mono B1.out.size))
    clear hb C2 z0 z1 z2 z3 z4 z5
    go_wp2_with fail
    go_ret
    exact ⟨by rw [HR.out]; rfl, B2.out⟩
set_option maxHeartbeats 2000000 in
theorem clRight (x : RowP) (mc : Nat) (r : FrR) (N : Int) (g : Nat) (hl : Ts k w A m x.ts) (hv : Fo w k x.val r) (hT : TabZ w) (hg : w.cell? ⟨g, 0, none⟩ = some (.int .i64 N)) (hk : k ≤ 100000) (hm : m ≤ 1073741824) :
    Calls Tryz.prog 170 #[rwV A m mc x.kind r, .pointer (some ⟨g, 0, none⟩)] w (BoolB (rowR N x) w) := by
  obtain ⟨W0, hW0⟩ : ∃ W0, W0 = w.alloc (.cells (rwC A m mc x.kind r) 77) := ⟨_, rfl⟩
  have HB0 : Hid (Below w.heap.size w W0) := by show Below _ _ _; rw [hW0]; exact bal (Below.refl _ _)
  have KB : Hid (Blk W0 w.heap.size 77 (rwC A m mc x.kind r)) := by show Blk _ _ _ _; rw [hW0]; exact Blk.new _ _ _
  have hg1 := cell_on HB0.out hg
  have C1 := Lib.hid (rightRow_any x mc r N (hl.past (TmEl.keeps k) HB0.out) (hv.past HB0.out) (hT.on HB0.out) hk hm)
  obtain ⟨b, hb0⟩ : ∃ b, rowR N x = b := ⟨_, rfl⟩
  rw [hb0] at C1 ⊢
  clear hl hv hT hg hb0
  obtain ⟨s1, A1, n1, k1, s2, A2, n2, k2⟩ := r
  dsimp only [rwV, rwC] at *
  obtain ⟨z0, z1, z2, z3, z4, z5⟩ := rw_cells KB.out
  go_enter Tryz.func170, Tryz.ntmps170
  go_upto_region 1 with (fail)
  rw [← hW0]
  clear hW0
  go_wp2_with fail
  refine C1.out.mono ?_
  rintro e w1 ⟨rfl, hb⟩
  have B1 := Lib.hid (HB0.out.trans (hb.mono HB0.out.size))
  clear hb C1 z0 z1 z2 z3 z4 z5
  go_wp2_with fail
  go_ret
  exact ⟨rfl, B1.out⟩
end
section
variable {k n c : Nat} {A : Option Addr} {l : List RowP} {w : World}
theorem sy_cells {w : World} {g : Nat} {t : TypeId} {a b : Value} (h : Blk w g t #[a, b]) : w.cell? ⟨g, 0, none⟩ = some a ∧ w.cell? ⟨g, 1, none⟩ = some b := ⟨h.cell 0, h.cell 1⟩
set_option maxHeartbeats 8000000 in
theorem Right_sys (N : Int) (hl : Rs k w A n l) (hT : TabZ w) (hk : k ≤ 100000) (hn : n ≤ 1073741824) :
    Calls Tryz.prog 86 #[.agg #[.int .i64 N, .slice A n c]] w (BoolB (sysR N l) w) := by
  obtain ⟨W0, hW0⟩ : ∃ W0, W0 = w.alloc (.cells #[.int .i64 N, .slice A n c] 63) := ⟨_, rfl⟩
  have HB0 : Hid (Below w.heap.size w W0) := by show Below _ _ _; rw [hW0]; exact bal (Below.refl _ _)
  have KB : Hid (Blk W0 w.heap.size 63 #[.int .i64 N, .slice A n c]) := by show Blk _ _ _ _; rw [hW0]; exact Blk.new _ _ _
  obtain ⟨z0, z1⟩ := sy_cells KB.out
  have hll := hl.len
  have HR : Hid (sysR N l = (!(decide (N < 0) || (decide (1500 < N) || decide (6000 < (n : Int)))) && l.all (rowR N))) := by show _ = _; rw [← hll]; rfl
  by_cases h1 : N < 0
  · have HRes : Hid (sysR N l = false) := by show _ = _; rw [HR.out, decide_eq_true h1]; rfl
    clear HR hl hT hll
    go_enter Tryz.func86, Tryz.ntmps86
    go_upto_region 1 with (fail)
    rw [← hW0]
    clear hW0
    go_wp2_with fail
    go_ret
    exact ⟨by rw [HRes.out]; rfl, HB0.out⟩
  have h1' : 0 ≤ N := by omega
  by_cases h2 : 1500 < N
  · have HRes : Hid (sysR N l = false) := by show _ = _; rw [HR.out, decide_eq_true h2, Bool.true_or, Bool.or_true]; rfl
    clear HR hl hT hll h1
    go_enter Tryz.func86, Tryz.ntmps86
    go_upto_region 1 with (fail)
    rw [← hW0]
    clear hW0
    go_wp2_with fail
    go_ret
    exact ⟨by rw [HRes.out]; rfl, HB0.out⟩
  have h2' : N ≤ 1500 := by omega
  by_cases h3 : 6000 < (n : Int)
  · have HRes : Hid (sysR N l = false) := by show _ = _; rw [HR.out, decide_eq_true h3, Bool.or_true, Bool.or_true]; rfl
    clear HR hl hT hll h1 h2
    go_enter Tryz.func86, Tryz.ntmps86
    go_upto_region 1 with (fail)
    rw [← hW0]
    clear hW0
    go_wp2_with fail
    go_ret
    exact ⟨by rw [HRes.out]; rfl, HB0.out⟩
  have h3' : (n : Int) ≤ 6000 := by omega
  rw [decide_eq_false h1, decide_eq_false h2, decide_eq_false h3] at HR
  have C := Lib.hid (all_isRight c w.heap.size (rowR N) W0 (Lib.hid (hl.past (RwEl.keeps k) HB0.out)) hn (Lib.hid fun x A2 m mc r W _ hb h64 hts hv => clRight x mc r N w.heap.size hts hv (hT.on (HB0.out.trans (hb.mono HB0.out.size))) (cell_on hb z0) hk (by omega)))
  obtain ⟨b, hb0⟩ : ∃ b, l.all (rowR N) = b := ⟨_, rfl⟩
  rw [hb0] at C HR
  clear hl hT hll h1 h2 h3 hb0
  go_enter Tryz.func86, Tryz.ntmps86
  go_upto_region 1 with (fail)
  rw [← hW0]
  clear hW0
  go_wp2_with fail
  refine C.out.mono ?_
  rintro e w1 ⟨rfl, hb⟩
  have B1 := Lib.hid (HB0.out.trans (hb.mono HB0.out.size))
  clear hb C z0 z1
  go_wp2_with fail
  go_ret
  exact ⟨by rw [HR.out]; rfl, B1.out⟩
end
end Go.Proofs.YtikfjmdeeknalaaGreatDoor

/- The walks of linear's holds and Holds. Conditions: sizes; the table of math/bits as its text lays it. -/
namespace Go.Proofs.YtikfjmdeeknalaaGreatDoor
set_option maxRecDepth 20000
open Go.RowKit

section
variable {k m n cx : Nat} {A X : Option Addr} {xs : List (Option Rat)} {w : World}
set_option maxHeartbeats 8000000 in
theorem holds_any (d : Nat) (hd : d ≤ 6) (x : RowP) (mc : Nat) (r : FrR) (N : Int) (hl : Ts k w A m x.ts) (hx : Xs k w X n xs) (hv : Fo w k x.val r) (hT : TabZ w) (hk : k ≤ 500) (hmc : m ≤ mc) (hm : m ≤ 2 ^ d) (hn : (n : Int) = N) (hr : rowR N x = true) (hxs : ∀ x ∈ xs, x.isSome = true) :
    Calls Tryz.prog 175 #[rwV A m mc x.kind r, .slice X n cx] w (BoolB (rowH xs x) w) := by
  unfold rowR at hr
  simp only [Bool.and_eq_true, decide_eq_true_eq] at hr
  obtain ⟨hk0, hk3, hval, hgo⟩ := hr
  subst hn
  have hin : inV n x.ts := fun t ht => by
    obtain ⟨a, b, c⟩ := goT_mem hgo t ht
    exact ⟨a, by omega, c⟩
  obtain ⟨W0, hW0⟩ : ∃ W0, W0 = w.alloc (.cells (rwC A m mc x.kind r) 77) := ⟨_, rfl⟩
  have HB0 : Hid (Below w.heap.size w W0) := by show Below _ _ _; rw [hW0]; exact bal (Below.refl _ _)
  have KB : Hid (Blk W0 w.heap.size 77 (rwC A m mc x.kind r)) := by show Blk _ _ _ _; rw [hW0]; exact Blk.new _ _ _
  obtain ⟨ts, kind, val⟩ := x
  dsimp only at hl hv hk0 hk3 hval hgo hin
  cases val with
  | none => cases hval
  | some v =>
  have C1 := Lib.hid (fun W (hb : Below W0.heap.size W0 W) => value_R (cx := cx) hk hxs d hd hm hmc (hl.past (TmEl.keeps k) (HB0.out.trans (hb.mono HB0.out.size))) (hx.past (FrEl.keeps k) (HB0.out.trans (hb.mono HB0.out.size))) (hT.on (HB0.out.trans (hb.mono HB0.out.size))) hin)
  have hK := bnd_le k d
  have hK6 := bnd_six hk d hd
  obtain ⟨K, hKe⟩ : ∃ K, bnd k d = K := ⟨_, rfl⟩
  obtain ⟨V, hVe⟩ : ∃ V, valO xs ts = V := ⟨_, rfl⟩
  obtain ⟨o, ho⟩ : ∃ o, ordR V v = o := ⟨_, rfl⟩
  rw [hKe] at C1 hK hK6
  rw [hVe] at C1
  have HV : Hid (∀ W, Below W0.heap.size W0 W → Fg W K v r ∧ TabZ W) := fun W hb => ⟨(Fg.past hv (HB0.out.trans (hb.mono HB0.out.size))).more (by omega), hT.on (HB0.out.trans (hb.mono HB0.out.size))⟩
  have HO := Lib.hid ho
  have HR : Hid (rowH xs ⟨ts, kind, some v⟩ = ordK kind o) := by show _ = _; unfold rowH; dsimp only; rw [hVe]; show ordK kind (ordR V v) = _; rw [ho]
  clear hl hx hv hT hgo hin hval hVe hKe ho hxs
  obtain ⟨s1, A1, n1, k1, s2, A2, n2, k2⟩ := r
  dsimp only [rwV, rwC] at *
  obtain ⟨z0, z1, z2, z3, z4, z5⟩ := rw_cells KB.out
  have HS : Hid (∀ w', Below W0.heap.size W0 w' → w'.cell? ⟨w.heap.size, 0, none⟩ = some (.slice A m mc) ∧ w'.cell? ⟨w.heap.size, 2, none⟩ = some (.int .i64 s1) ∧ w'.cell? ⟨w.heap.size, 3, none⟩ = some (.slice A1 n1 k1) ∧ w'.cell? ⟨w.heap.size, 4, none⟩ = some (.int .i64 s2) ∧ w'.cell? ⟨w.heap.size, 5, none⟩ = some (.slice A2 n2 k2)) :=
    fun w' hb => ⟨cell_on hb z0, cell_on hb z2, cell_on hb z3, cell_on hb z4, cell_on hb z5⟩
  have cases3 : (kind == 0) = true ∧ ordK kind o = decide (0 ≤ o) ∨ (kind == 0) = false ∧ (kind == 1) = true ∧ ordK kind o = decide (o ≤ 0) ∨ (kind == 0) = false ∧ (kind == 1) = false ∧ ordK kind o = decide (o = 0) := by
    unfold ordK
    by_cases h0 : kind = 0
    · exact .inl ⟨by simpa using h0, if_pos h0⟩
    · by_cases h1 : kind = 1
      · exact .inr (.inl ⟨by simpa using h0, by simpa using h1, by rw [if_neg h0, if_pos h1]⟩)
      · exact .inr (.inr ⟨by simpa using h0, by simpa using h1, by rw [if_neg h0, if_neg h1]⟩)
  clear hk0 hk3
  go_enter Tryz.func175, Tryz.ntmps175
  go_upto_region 1 with (fail)
  rw [← hW0]
  clear hW0
  go_region_held3 (fun w' => w'.cell? ⟨w.heap.size, 0, none⟩ = some (.slice A m mc) ∧ w'.cell? ⟨w.heap.size, 2, none⟩ = some (.int .i64 s1) ∧ w'.cell? ⟨w.heap.size, 3, none⟩ = some (.slice A1 n1 k1) ∧ w'.cell? ⟨w.heap.size, 4, none⟩ = some (.int .i64 s2) ∧ w'.cell? ⟨w.heap.size, 5, none⟩ = some (.slice A2 n2 k2))
    (first | exact HS.out _ (bdr W0) | exact HS.out _ B1.out | exact HS.out _ B2.out)
    (first | (go_at_call 167; refine (C1.out _ (bdr W0)).mono ?_; rintro e w1 ⟨⟨s5, A5, n5, c5, s6, A6, n6, c6⟩, rfl, -, -, hf, -, -, hb⟩; have B1 := Lib.hid ((bdr W0).trans hb); have HF := Lib.hid hf; clear hb hf; dsimp only [frV]) | (go_at_call 60; refine (compare_R ⟨s5, A5, n5, c5, s6, A6, n6, c6⟩ ⟨s1, A1, n1, k1, s2, A2, n2, k2⟩ HF.out (HV.out _ B1.out).1 (HV.out _ B1.out).2 (by omega) HO.out).mono ?_; rintro e w2 ⟨rfl, hb⟩; have B2 := Lib.hid (B1.out.trans (hb.mono B1.out.size)); clear hb))
  have K2 := Lib.hid (KB.out.below B2.out KB.out.lt)
  have B3 := Lib.hid (HB0.out.trans (B2.out.mono HB0.out.size))
  clear z0 z1 z2 z3 z4 z5 B1 B2 HF HV HO C1
  obtain ⟨z0, z1, z2, z3, z4, z5⟩ := rw_cells K2.out
  rcases cases3 with ⟨h0, hO⟩ | ⟨h0, h1, hO⟩ | ⟨h0, h1, hO⟩
  · have HO := Lib.hid hO
    clear hO
    obtain rfl : kind = 0 := by simpa using h0
    go_wp2_with fail
    go_ret
    exact ⟨by rw [HR.out, HO.out]; rfl, B3.out⟩
  · have HO := Lib.hid hO
    clear hO
    obtain rfl : kind = 1 := by simpa using h1
    go_wp2_with fail
    go_ret
    exact ⟨by rw [HR.out, HO.out]; rfl, B3.out⟩
  · have HO := Lib.hid hO
    clear hO
    go_wp2_with fail
    go_ret
    refine ⟨?_, B3.out⟩
    rw [HR.out, HO.out]
    by_cases hoo : o = 0
    · subst hoo; rfl
    · have e1 : (o == 0) = false := by simpa using hoo
      rw [decide_eq_false hoo]
      simp [e1]
set_option maxHeartbeats 2000000 in
theorem clHolds (d : Nat) (hd : d ≤ 6) (x : RowP) (mc : Nat) (r : FrR) (N : Int) (g : Nat) (hl : Ts k w A m x.ts) (hx : Xs k w X n xs) (hv : Fo w k x.val r) (hT : TabZ w) (hk : k ≤ 500) (hmc : m ≤ mc) (hm : m ≤ 2 ^ d) (hn : (n : Int) = N) (hr : rowR N x = true) (hxs : ∀ x ∈ xs, x.isSome = true)
    (hg : w.cell? ⟨g, 0, none⟩ = some (.slice X n cx)) :
    Calls Tryz.prog 174 #[rwV A m mc x.kind r, .pointer (some ⟨g, 0, none⟩)] w (BoolB (rowH xs x) w) := by
  obtain ⟨W0, hW0⟩ : ∃ W0, W0 = w.alloc (.cells (rwC A m mc x.kind r) 77) := ⟨_, rfl⟩
  have HB0 : Hid (Below w.heap.size w W0) := by show Below _ _ _; rw [hW0]; exact bal (Below.refl _ _)
  have KB : Hid (Blk W0 w.heap.size 77 (rwC A m mc x.kind r)) := by show Blk _ _ _ _; rw [hW0]; exact Blk.new _ _ _
  have hg1 := cell_on HB0.out hg
  have C1 := Lib.hid (holds_any (cx := cx) d hd x mc r N (hl.past (TmEl.keeps k) HB0.out) (hx.past (FrEl.keeps k) HB0.out) (hv.past HB0.out) (hT.on HB0.out) hk hmc hm hn hr hxs)
  obtain ⟨b, hb0⟩ : ∃ b, rowH xs x = b := ⟨_, rfl⟩
  rw [hb0] at C1 ⊢
  clear hl hx hv hT hg hb0 hr hxs hn
  obtain ⟨s1, A1, n1, k1, s2, A2, n2, k2⟩ := r
  dsimp only [rwV, rwC] at *
  obtain ⟨z0, z1, z2, z3, z4, z5⟩ := rw_cells KB.out
  go_enter Tryz.func174, Tryz.ntmps174
  go_upto_region 1 with (fail)
  rw [← hW0]
  clear hW0
  go_wp2_with fail
  refine C1.out.mono ?_
  rintro e w1 ⟨rfl, hb⟩
  have B1 := Lib.hid (HB0.out.trans (hb.mono HB0.out.size))
  clear hb C1 z0 z1 z2 z3 z4 z5
  go_wp2_with fail
  go_ret
  exact ⟨rfl, B1.out⟩
end
section
variable {k n m c cx : Nat} {A X : Option Addr} {l : List RowP} {xs : List (Option Rat)} {w : World}
theorem posO_some {x : Option Rat} (h : posO x = true) : x.isSome = true := by
  unfold posO at h
  rw [Bool.and_eq_true] at h
  exact h.1
set_option maxHeartbeats 8000000 in
theorem Holds_any (N : Int) (hl : Rs k w A n l) (hx : Xs k w X m xs) (hT : TabZ w) (hk : k ≤ 500) (hn : n ≤ 1073741824) (hm : m ≤ 1073741824) :
    Calls Tryz.prog 88 #[.agg #[.int .i64 N, .slice A n c], .slice X m cx] w (BoolB (sysH N l xs) w) := by
  obtain ⟨W0, hW0⟩ : ∃ W0, W0 = (w.alloc (.cells #[.int .i64 N, .slice A n c] 63)).alloc (.cells #[.slice X m cx] 60) := ⟨_, rfl⟩
  have HB0 : Hid (Below w.heap.size w W0) := by show Below _ _ _; rw [hW0]; exact bal (bal (Below.refl _ _))
  have KB : Hid (Blk W0 w.heap.size 63 #[.int .i64 N, .slice A n c]) := by show Blk _ _ _ _; rw [hW0]; exact (Blk.new _ _ _).alloc _
  have KX : Hid (Blk W0 (w.heap.size + 1) 60 #[.slice X m cx]) := by show Blk _ _ _ _; rw [hW0]; exact Blk.new_ (by simp)
  obtain ⟨z0, z1⟩ := sy_cells KB.out
  have z2 : W0.cell? ⟨w.heap.size + 1, 0, none⟩ = some (.slice X m cx) := KX.out.cell 0
  have hxl := hx.len
  have HR : Hid (sysH N l xs = (decide ((m : Int) = N) && (sysR N l && (xs.all posO && l.all (rowH xs))))) := by show _ = _; rw [← hxl]; rfl
  by_cases h1 : (m : Int) = N
  case neg =>
    have h1' : ((m : Int) != N) = true := by simpa using h1
    have HRes : Hid (sysH N l xs = false) := by show _ = _; rw [HR.out, decide_eq_false h1]; rfl
    clear HR hl hx hT hxl h1
    go_enter Tryz.func88, Tryz.ntmps88
    go_upto_region 1 with (fail)
    rw [← hW0]
    clear hW0
    go_wp2_with fail
    go_ret
    exact ⟨by rw [HRes.out]; rfl, HB0.out⟩
  rw [decide_eq_true h1, Bool.true_and] at HR
  have C1 := Lib.hid (Right_sys (c := c) N (hl.past (RwEl.keeps k) HB0.out) (hT.on HB0.out) (by omega) hn)
  cases h2 : sysR N l
  · rw [h2] at C1 HR
    subst h1
    clear hl hx hT hxl h2
    go_enter Tryz.func88, Tryz.ntmps88
    go_upto_region 1 with (fail)
    rw [← hW0]
    clear hW0
    go_wp2_with fail
    refine C1.out.mono ?_
    rintro e w1 ⟨rfl, hb⟩
    have B1 := Lib.hid (HB0.out.trans (hb.mono HB0.out.size))
    clear hb C1 z0 z1 z2
    go_wp2_with fail
    go_ret
    exact ⟨by rw [HR.out]; rfl, B1.out⟩
  rw [h2, Bool.true_and] at HR
  rw [h2] at C1
  have C2 := Lib.hid (fun W (hb : Below W0.heap.size W0 W) => allSolve cx W (hx.past (FrEl.keeps k) (HB0.out.trans (hb.mono HB0.out.size))) (hT.on (HB0.out.trans (hb.mono HB0.out.size))) (by omega) hm)
  cases h3 : xs.all posO
  · rw [h3] at C2 HR
    subst h1
    clear hl hx hT hxl h2 h3
    go_enter Tryz.func88, Tryz.ntmps88
    go_upto_region 1 with (fail)
    rw [← hW0]
    clear hW0
    go_wp2_with fail
    refine C1.out.mono ?_
    rintro e w1 ⟨rfl, hb⟩
    have B1 := Lib.hid hb
    have K1 := Lib.hid (KX.out.below hb KX.out.lt)
    clear hb C1 z0 z1 z2
    have z2 : w1.cell? ⟨w.heap.size + 1, 0, none⟩ = some (.slice X m cx) := K1.out.cell 0
    go_wp2_with fail
    refine (C2.out w1 B1.out).mono ?_
    rintro e w2 ⟨rfl, hb⟩
    have B2 : Hid (Below w.heap.size w w2) := (HB0.out.trans (B1.out.mono HB0.out.size)).trans (hb.mono (HB0.out.trans (B1.out.mono HB0.out.size)).size)
    clear hb C2 z2
    go_wp2_with fail
    go_ret
    exact ⟨by rw [HR.out]; rfl, B2.out⟩
  rw [h3, Bool.true_and] at HR
  rw [h3] at C2
  have hrows : ∀ x ∈ l, rowR N x = true := by
    unfold sysR at h2
    rw [Bool.and_eq_true] at h2
    exact fun x hx => List.all_eq_true.1 h2.2 x hx
  have hsome : ∀ x ∈ xs, x.isSome = true := fun x hx => posO_some (List.all_eq_true.1 h3 x hx)
  have C3 := Lib.hid (fun W (hb : Below W0.heap.size W0 W) => all_isHeld c (w.heap.size + 1) (rowH xs) W (Lib.hid (hl.past (RwEl.keeps k) (HB0.out.trans (hb.mono HB0.out.size)))) hn (Lib.hid fun x A2 m2 mc r W2 hmem hb2 h64 hts hv =>
    clHolds (cx := cx) 6 (Nat.le_refl _) x mc r N (w.heap.size + 1) hts (hx.past (FrEl.keeps k) ((HB0.out.trans (hb.mono HB0.out.size)).trans (hb2.mono (HB0.out.trans (hb.mono HB0.out.size)).size))) hv (hT.on ((HB0.out.trans (hb.mono HB0.out.size)).trans (hb2.mono (HB0.out.trans (hb.mono HB0.out.size)).size))) hk h64.1 (by have : (2 : Nat) ^ 6 = 64 := rfl; omega) h1 (hrows x hmem) hsome (cell_on hb2 (cell_on hb z2))))
  obtain ⟨b, hb0⟩ : ∃ b, l.all (rowH xs) = b := ⟨_, rfl⟩
  rw [hb0] at C3 HR
  subst h1
  clear hl hx hT hxl h2 h3 hrows hsome hb0
  go_enter Tryz.func88, Tryz.ntmps88
  go_upto_region 1 with (fail)
  rw [← hW0]
  clear hW0
  go_wp2_with fail
  refine C1.out.mono ?_
  rintro e w1 ⟨rfl, hb⟩
  have B1 := Lib.hid hb
  have K1 := Lib.hid (KX.out.below hb KX.out.lt)
  have J1 := Lib.hid (KB.out.below hb KB.out.lt)
  clear hb C1 z0 z1 z2
  have z2 : w1.cell? ⟨w.heap.size + 1, 0, none⟩ = some (.slice X m cx) := K1.out.cell 0
  go_wp2_with fail
  refine (C2.out w1 B1.out).mono ?_
  rintro e w2 ⟨rfl, hb⟩
  have B2 := Lib.hid (B1.out.trans (hb.mono B1.out.size))
  have J2 := Lib.hid (J1.out.below hb J1.out.lt)
  clear hb C2 z2
  obtain ⟨z0, z1⟩ := sy_cells J2.out
  go_wp2_with fail
  refine (C3.out w2 B2.out).mono ?_
  rintro e w3 ⟨rfl, hb⟩
  have B3 : Hid (Below w.heap.size w w3) := (HB0.out.trans (B2.out.mono HB0.out.size)).trans (hb.mono (HB0.out.trans (B2.out.mono HB0.out.size)).size)
  clear hb C3 z0 z1
  go_wp2_with fail
  go_ret
  exact ⟨by rw [HR.out]; rfl, B3.out⟩
end
end Go.Proofs.YtikfjmdeeknalaaGreatDoor
