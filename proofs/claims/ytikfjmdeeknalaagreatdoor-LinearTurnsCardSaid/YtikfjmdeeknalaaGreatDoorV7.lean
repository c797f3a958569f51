/- The walk of linear's RightTerms. Conditions: sizes; the table of math/bits as its text lays it. -/
import Derived.Test.YtikfjmdeeknalaaGreatDoorV4
import Derived.Deep.DeepCutAuto
namespace Go.Proofs.YtikfjmdeeknalaaGreatDoor
set_option maxRecDepth 20000
open Go.RowKit

/-- How a function that returns a bool ends. -/
def BoolB (b : Bool) (w : World) (e : Ending) (w' : World) : Prop := e = .returned (.bool b) ∧ Below w.heap.size w w'
theorem goT_cut {m n : Int} {l : List (Int × Option Rat)} {i : Nat} {t : Int × Option Rat} (h : l[i]? = some t) : goT m n (l.drop i) = if t.1 ≤ m ∨ n ≤ t.1 ∨ sgnO t.2 = 0 then false else goT t.1 n (l.drop (i + 1)) := by
  have hi := (List.getElem?_eq_some_iff.1 h)
  rw [List.drop_eq_getElem_cons hi.1, hi.2, goT]
theorem tm_cells {w : World} {g : Nat} {t : TypeId} {v s1 s2 : Int} {A1 A2 : Option Addr} {n1 c1 n2 c2 : Nat} (h : Blk w g t #[.int .i64 v, .int .i64 s1, .slice A1 n1 c1, .int .i64 s2, .slice A2 n2 c2]) :
    w.cell? ⟨g, 0, none⟩ = some (.int .i64 v) ∧ w.cell? ⟨g, 1, none⟩ = some (.int .i64 s1) ∧ w.cell? ⟨g, 2, none⟩ = some (.slice A1 n1 c1) ∧ w.cell? ⟨g, 3, none⟩ = some (.int .i64 s2) ∧ w.cell? ⟨g, 4, none⟩ = some (.slice A2 n2 c2) :=
  ⟨h.cell 0, h.cell 1, h.cell 2, h.cell 3, h.cell 4⟩
set_option maxHeartbeats 4000000 in
theorem RT_any {k n : Nat} {A : Option Addr} {l : List (Int × Option Rat)} (c : Nat) (N : Int) (w : World) (h : Hid (Ts k w A n l)) (hT : Hid (TabZ w)) (hk : k ≤ 100000) (hn : n ≤ 1073741824) {b : Bool} (hb : goT (-1) N l = b) :
    Calls Tryz.prog 84 #[.slice A n c, .int .i64 N] w (BoolB b w) := by
  have HB0 : Hid (Below w.heap.size w w) := Below.refl _ _
  have HS0 : Hid (goT (-1) N (l.drop 0) = b) := by show _ = _; rw [← hb]; rfl
  clear hb
  go_enter Tryz.func84, Tryz.ntmps84
  go_wp2_with fail
  go_loopw [5, 10] (fun u i wr => ∃ (j : Nat) (m : Int), j ≤ n ∧ i = .int .i64 j ∧ u = .int .i64 m ∧ Hid (goT m N (l.drop j) = b) ∧ Hid (Below w.heap.size w wr)) (fun _ i _ => n - (RowKit.intOf i).toNat)
  case atStart => exact ⟨0, -1, Nat.zero_le _, rfl, rfl, HS0, HB0.out⟩
  case round =>
    clear HB0 HS0
    obtain ⟨j, m, hj, rfl, rfl, HS, HB⟩ := hrel
    by_cases hlt : j < n
    · have hjc : (j : Int) < (n : Int) := by omega
      obtain ⟨ad, t, r, rfl, hab, hl, c1, c2, hf, q0, q1, q2, q3, q4⟩ := tm_at (Els.past (TmEl.keeps k) h.out HB.out) hlt
      have hg := goT_cut (m := m) (n := N) hl
      have HF := Lib.hid hf
      obtain ⟨s1, A1, n1, k1, s2, A2, n2, k2⟩ := r
      obtain ⟨tv, tc⟩ := t
      dsimp only at *
      by_cases h1 : tv ≤ m
      · have hres : Hid (b = false) := by show _ = _; rw [← HS.out, hg, if_pos (.inl h1)]
        clear hg hf hl
        go_wp2_with fail
        go_ret
        exact ⟨by rw [hres.out]; rfl, HB.out.alloc HB.out.size _⟩
      · have h1' : m < tv := by omega
        by_cases h2 : N ≤ tv
        · have hres : Hid (b = false) := by show _ = _; rw [← HS.out, hg, if_pos (.inr (.inl h2))]
          clear hg hf hl
          go_wp2_with fail
          go_ret
          exact ⟨by rw [hres.out]; rfl, HB.out.alloc HB.out.size _⟩
        · have h2' : tv < N := by omega
          obtain ⟨W, hW⟩ : ∃ W, W = wr.alloc (.cells #[.int .i64 tv, .int .i64 s1, .slice A1 n1 k1, .int .i64 s2, .slice A2 n2 k2] 142) := ⟨_, rfl⟩
          have HW : Hid (Below wr.heap.size wr W) := by show Below _ _ _; rw [hW]; exact (Below.refl _ _).alloc (Nat.le_refl _) _
          have HK : Hid (Blk W wr.heap.size 142 #[.int .i64 tv, .int .i64 s1, .slice A1 n1 k1, .int .i64 s2, .slice A2 n2 k2]) := by show Blk _ _ _ _; rw [hW]; exact Blk.new _ _ _
          obtain ⟨o, ho⟩ : ∃ o, sgnO tc = o := ⟨_, rfl⟩
          have C := Lib.hid (sign_O ⟨s1, A1, n1, k1, s2, A2, n2, k2⟩ (HF.out.past HW.out) (hT.out.on (HB.out.trans (HW.out.mono HB.out.size))) hk ho)
          dsimp only [frV] at C
          obtain ⟨z0, z1, z2, z3, z4⟩ := tm_cells HK.out
          rw [ho] at hg
          have HG := Lib.hid hg
          clear hg hf hl HF ho h1 h2
          go_upto_region 5 with (fail)
          rw [← hW]
          clear hW
          go_wp2_with fail
          refine C.out.mono ?_
          rintro e w2 ⟨rfl, hb2⟩
          have K2 := Lib.hid (HK.out.below hb2 HK.out.lt)
          have B2 : Hid (Below w.heap.size w w2) := (HB.out.trans (HW.out.mono HB.out.size)).trans (hb2.mono (HB.out.trans (HW.out.mono HB.out.size)).size)
          clear hb2 z0 z1 z2 z3 z4 HK HW C
          obtain ⟨z0, z1, z2, z3, z4⟩ := tm_cells K2.out
          by_cases h3 : o = 0
          · have hres : Hid (b = false) := by show _ = _; rw [← HS.out, HG.out, if_pos (.inr (.inr h3))]
            subst h3
            go_wp2_with fail
            go_ret
            exact ⟨by rw [hres.out]; rfl, B2.out⟩
          · have h3' : (o == 0) = false := by simpa using h3
            have HS2 : Hid (goT tv N (l.drop (j + 1)) = b) := by
              show _ = _
              rw [← HS.out, HG.out, if_neg]
              rintro (h4 | h4 | h4)
              · omega
              · omega
              · exact h3 h4
            clear h3
            go_wp2_with fail
            go_roundw
            case rel => exact ⟨j + 1, tv, by omega, by go_num, rfl, HS2, B2.out⟩
            case measure => simp [RowKit.intOf]; omega
    · obtain rfl : j = n := by omega
      have hd : l.drop j = [] := List.drop_eq_nil_of_le (by have := h.out.len; omega)
      have hres : Hid (b = decide (0 ≤ N)) := by show _ = _; rw [← HS.out, hd, goT]
      clear hd
      go_wp2_with fail
      go_ret
      exact ⟨by rw [hres.out]; rfl, HB.out⟩
end Go.Proofs.YtikfjmdeeknalaaGreatDoor

/- The walks of slices.IndexFunc and ContainsFunc, linear's canSolve and all at lists of fractions. Conditions: sizes; the table of math/bits as its text lays it. -/
namespace Go.Proofs.YtikfjmdeeknalaaGreatDoor
set_option maxRecDepth 20000
open Go.RowKit

set_option maxHeartbeats 4000000 in
theorem idx_Frac {k n : Nat} {A : Option Addr} {l : List (Option Rat)} (c b : Nat) (p : Option Rat → Bool) (w : World) (h : Hid (Xs k w A n l)) (hn : n ≤ 1073741824)
    (CE : Hid (∀ (x : Option Rat) (r : FrR) (W : World), Below w.heap.size w W → Fo W k x r → Calls Tryz.prog 216 #[frV r, .pointer (some ⟨b, 0, none⟩)] W (BoolB (!p x) W))) :
    Calls Tryz.prog 245 #[.slice A n c, .func (.func 216) #[] #[.pointer (some ⟨b, 0, none⟩)]] w fun e w' => ∃ i : Int, e = .returned (.int .i64 i) ∧ decide (0 ≤ i) = !(l.all p) ∧ Below w.heap.size w w' := by
  have HB0 : Hid (Below w.heap.size w w) := Below.refl _ _
  have HS0 : Hid (l.all p = (l.drop 0).all p) := rfl
  go_enter Tryz.func245, Tryz.ntmps245
  go_wp2_with fail
  go_loopw [8] (fun i wr => ∃ (j : Nat), j ≤ n ∧ i = .int .i64 j ∧ Hid (l.all p = (l.drop j).all p) ∧ Hid (Below w.heap.size w wr)) (fun i _ => n - (RowKit.intOf i).toNat)
  case atStart => exact ⟨0, Nat.zero_le _, rfl, HS0, HB0.out⟩
  case round =>
    clear HB0 HS0
    obtain ⟨j, hj, rfl, HS, HB⟩ := hrel
    by_cases hlt : j < n
    · have hjc : (j : Int) < (n : Int) := by omega
      obtain ⟨ad, x, r, rfl, hab, hl, c1, c2, hf, q0, q1, q2, q3⟩ := fr_at (Els.past (FrEl.keeps k) h.out HB.out) hlt
      obtain ⟨s1, A1, n1, k1, s2, A3, n2, k2⟩ := r
      have C := Lib.hid (CE.out x ⟨s1, A1, n1, k1, s2, A3, n2, k2⟩ wr HB.out hf)
      have hd : (l.drop j).all p = (p x && (l.drop (j + 1)).all p) := by
        rw [List.drop_eq_getElem_cons (List.getElem?_eq_some_iff.1 hl).1, (List.getElem?_eq_some_iff.1 hl).2, List.all_cons]
      dsimp only [frV] at C
      dsimp only at q0 q1 q2 q3
      cases hp : p x
      · have hres : Hid (l.all p = false) := by show _ = _; rw [HS.out, hd, hp]; rfl
        rw [hp] at C
        clear hd hp hl hf c1 c2
        go_wp2_with fail
        refine C.out.mono ?_
        rintro e w2 ⟨rfl, hb2⟩
        have B2 : Hid (Below w.heap.size w w2) := HB.out.trans (hb2.mono HB.out.size)
        clear hb2 q0 q1 q2 q3 C
        go_wp2_with fail
        go_ret
        exact ⟨_, rfl, by rw [hres.out]; simp, B2.out⟩
      · have HS2 : Hid (l.all p = (l.drop (j + 1)).all p) := by show _ = _; rw [HS.out, hd, hp]; rfl
        rw [hp] at C
        clear hd hp hl hf c1 c2
        go_wp2_with fail
        refine C.out.mono ?_
        rintro e w2 ⟨rfl, hb2⟩
        have B2 : Hid (Below w.heap.size w w2) := HB.out.trans (hb2.mono HB.out.size)
        clear hb2 q0 q1 q2 q3 C
        go_wp2_with fail
        go_roundw
        case rel => exact ⟨j + 1, by omega, by go_num, HS2, B2.out⟩
        case measure => simp [RowKit.intOf]; omega
    · obtain rfl : j = n := by omega
      have hd : l.drop j = [] := List.drop_eq_nil_of_le (by have := h.out.len; omega)
      have hres : Hid (l.all p = true) := by show _ = _; rw [HS.out, hd]; rfl
      clear hd
      go_wp2_with fail
      go_ret
      exact ⟨-1, rfl, by rw [hres.out]; rfl, HB.out⟩
set_option maxHeartbeats 2000000 in
theorem con_Frac {k n : Nat} {A : Option Addr} {l : List (Option Rat)} (c b : Nat) (p : Option Rat → Bool) (w : World) (h : Hid (Xs k w A n l)) (hn : n ≤ 1073741824)
    (CE : Hid (∀ (x : Option Rat) (r : FrR) (W : World), Below w.heap.size w W → Fo W k x r → Calls Tryz.prog 216 #[frV r, .pointer (some ⟨b, 0, none⟩)] W (BoolB (!p x) W))) :
    Calls Tryz.prog 215 #[.slice A n c, .func (.func 216) #[] #[.pointer (some ⟨b, 0, none⟩)]] w (BoolB (!(l.all p)) w) := by
  have C := Lib.hid (idx_Frac c b p w h hn CE)
  clear h CE
  go_enter Tryz.func215, Tryz.ntmps215
  go_wp2_with fail
  refine C.out.mono ?_
  rintro e w2 ⟨i, rfl, hi, hb2⟩
  have H2 := Lib.hid hb2
  have HI := Lib.hid hi
  clear hb2 hi C
  go_wp2_with fail
  go_ret
  exact ⟨by rw [← HI.out]; rfl, H2.out⟩

set_option maxHeartbeats 2000000 in
theorem cl_solve (x : Option Rat) (r : FrR) (b : Nat) (w : World) (hc : Hid (w.cell? ⟨b, 0, none⟩ = some (.func (.func 173) #[] #[]))) (hbl : b < w.heap.size)
    (C0 : Hid (∀ W, Below w.heap.size w W → Calls Tryz.prog 173 #[frV r] W (BoolB (posO x) W))) :
    Calls Tryz.prog 216 #[frV r, .pointer (some ⟨b, 0, none⟩)] w (BoolB (!(posO x)) w) := by
  obtain ⟨W0, hW0⟩ : ∃ W0, W0 = w.alloc (.cells (frC r) 43) := ⟨_, rfl⟩
  have HB0 : Hid (Below w.heap.size w W0) := by show Below _ _ _; rw [hW0]; exact bal (Below.refl _ _)
  have HK : Hid (Blk W0 w.heap.size 43 (frC r)) := by show Blk _ _ _ _; rw [hW0]; exact Blk.new _ _ _
  have hc1 : W0.cell? ⟨b, 0, none⟩ = some (.func (.func 173) #[] #[]) := (HB0.out.cell (p := ⟨b, 0, none⟩) hbl).trans hc.out
  have C := Lib.hid (C0.out W0 HB0.out)
  clear C0 hc
  cases hp : posO x
  all_goals
    rw [hp] at C
    clear hp
    obtain ⟨s1, A1, n1, k1, s2, A3, n2, k2⟩ := r
    dsimp only [frV, frC] at *
    obtain ⟨k0, k1, k2, k3, -, -, -, -⟩ := fr_cells HK.out
    go_enter Tryz.func216, Tryz.ntmps216
    go_upto_region 1 with (fail)
    rw [← hW0]
    clear hW0
    go_wp2_with fail
    refine C.out.mono ?_
    rintro e w2 ⟨rfl, hb2⟩
    have B2 : Hid (Below w.heap.size w w2) := HB0.out.trans (hb2.mono HB0.out.size)
    clear hb2 C hc1
    go_wp2_with fail
    go_ret
    exact ⟨rfl, B2.out⟩
set_option maxHeartbeats 2000000 in
theorem all_solve {k n : Nat} {A : Option Addr} {l : List (Option Rat)} (c : Nat) (w : World) (h : Hid (Xs k w A n l)) (hn : n ≤ 1073741824)
    (C0 : Hid (∀ (x : Option Rat) (r : FrR) (W : World), Below w.heap.size w W → Fo W k x r → Calls Tryz.prog 173 #[frV r] W (BoolB (posO x) W))) :
    Calls Tryz.prog 166 #[.slice A n c, .func (.func 173) #[] #[]] w (BoolB (l.all (posO)) w) := by
  obtain ⟨W0, hW0⟩ : ∃ W0, W0 = w.alloc (.cells #[.func (.func 173) #[] #[]] 51) := ⟨_, rfl⟩
  have HB0 : Hid (Below w.heap.size w W0) := by show Below _ _ _; rw [hW0]; exact bal (Below.refl _ _)
  have HC : Hid (W0.cell? ⟨w.heap.size, 0, none⟩ = some (.func (.func 173) #[] #[])) := by show _ = _; rw [hW0]; exact (Blk.new w _ _).cell 0
  have hlt : w.heap.size < W0.heap.size := by rw [hW0]; simp
  have C := Lib.hid (con_Frac c w.heap.size (posO) W0 (Lib.hid (Els.past (FrEl.keeps k) h.out HB0.out)) hn (Lib.hid fun x r W hb hf => cl_solve x r w.heap.size W (Lib.hid ((hb.cell (p := ⟨w.heap.size, 0, none⟩) hlt).trans HC.out)) (Nat.lt_of_lt_of_le hlt hb.size)
    (Lib.hid fun W2 hb2 => C0.out x r W2 ((HB0.out.trans (hb.mono HB0.out.size)).trans (hb2.mono (HB0.out.trans (hb.mono HB0.out.size)).size)) (hf.past hb2))))
  clear C0 h HC
  cases hp : l.all (posO)
  all_goals
    rw [hp] at C
    clear hp
    go_enter Tryz.func166, Tryz.ntmps166
    go_wp2_with fail
    rw [← hW0]
    clear hW0
    refine C.out.mono ?_
    rintro e w2 ⟨rfl, hb2⟩
    have B2 : Hid (Below w.heap.size w w2) := HB0.out.trans (hb2.mono HB0.out.size)
    clear hb2 C
    go_wp2_with fail
    go_ret
    exact ⟨rfl, B2.out⟩

set_option maxHeartbeats 2000000 in
theorem cl_right (x : Option Rat) (r : FrR) (b : Nat) (w : World) (hc : Hid (w.cell? ⟨b, 0, none⟩ = some (.func (.func 58) #[] #[]))) (hbl : b < w.heap.size)
    (C0 : Hid (∀ W, Below w.heap.size w W → Calls Tryz.prog 58 #[frV r] W (BoolB (Option.isSome x) W))) :
    Calls Tryz.prog 216 #[frV r, .pointer (some ⟨b, 0, none⟩)] w (BoolB (!(Option.isSome x)) w) := by
  obtain ⟨W0, hW0⟩ : ∃ W0, W0 = w.alloc (.cells (frC r) 43) := ⟨_, rfl⟩
  have HB0 : Hid (Below w.heap.size w W0) := by show Below _ _ _; rw [hW0]; exact bal (Below.refl _ _)
  have HK : Hid (Blk W0 w.heap.size 43 (frC r)) := by show Blk _ _ _ _; rw [hW0]; exact Blk.new _ _ _
  have hc1 : W0.cell? ⟨b, 0, none⟩ = some (.func (.func 58) #[] #[]) := (HB0.out.cell (p := ⟨b, 0, none⟩) hbl).trans hc.out
  have C := Lib.hid (C0.out W0 HB0.out)
  clear C0 hc
  cases hp : Option.isSome x
  all_goals
    rw [hp] at C
    clear hp
    obtain ⟨s1, A1, n1, k1, s2, A3, n2, k2⟩ := r
    dsimp only [frV, frC] at *
    obtain ⟨k0, k1, k2, k3, -, -, -, -⟩ := fr_cells HK.out
    go_enter Tryz.func216, Tryz.ntmps216
    go_upto_region 1 with (fail)
    rw [← hW0]
    clear hW0
    go_wp2_with fail
    refine C.out.mono ?_
    rintro e w2 ⟨rfl, hb2⟩
    have B2 : Hid (Below w.heap.size w w2) := HB0.out.trans (hb2.mono HB0.out.size)
    clear hb2 C hc1
    go_wp2_with fail
    go_ret
    exact ⟨rfl, B2.out⟩
set_option maxHeartbeats 2000000 in
theorem all_right {k n : Nat} {A : Option Addr} {l : List (Option Rat)} (c : Nat) (w : World) (h : Hid (Xs k w A n l)) (hn : n ≤ 1073741824)
    (C0 : Hid (∀ (x : Option Rat) (r : FrR) (W : World), Below w.heap.size w W → Fo W k x r → Calls Tryz.prog 58 #[frV r] W (BoolB (Option.isSome x) W))) :
    Calls Tryz.prog 166 #[.slice A n c, .func (.func 58) #[] #[]] w (BoolB (l.all (Option.isSome)) w) := by
  obtain ⟨W0, hW0⟩ : ∃ W0, W0 = w.alloc (.cells #[.func (.func 58) #[] #[]] 51) := ⟨_, rfl⟩
  have HB0 : Hid (Below w.heap.size w W0) := by show Below _ _ _; rw [hW0]; exact bal (Below.refl _ _)
  have HC : Hid (W0.cell? ⟨w.heap.size, 0, none⟩ = some (.func (.func 58) #[] #[])) := by show _ = _; rw [hW0]; exact (Blk.new w _ _).cell 0
  have hlt : w.heap.size < W0.heap.size := by rw [hW0]; simp
  have C := Lib.hid (con_Frac c w.heap.size (Option.isSome) W0 (Lib.hid (Els.past (FrEl.keeps k) h.out HB0.out)) hn (Lib.hid fun x r W hb hf => cl_right x r w.heap.size W (Lib.hid ((hb.cell (p := ⟨w.heap.size, 0, none⟩) hlt).trans HC.out)) (Nat.lt_of_lt_of_le hlt hb.size)
    (Lib.hid fun W2 hb2 => C0.out x r W2 ((HB0.out.trans (hb.mono HB0.out.size)).trans (hb2.mono (HB0.out.trans (hb.mono HB0.out.size)).size)) (hf.past hb2))))
  clear C0 h HC
  cases hp : l.all (Option.isSome)
  all_goals
    rw [hp] at C
    clear hp
    go_enter Tryz.func166, Tryz.ntmps166
    go_wp2_with fail
    rw [← hW0]
    clear hW0
    refine C.out.mono ?_
    rintro e w2 ⟨rfl, hb2⟩
    have B2 : Hid (Below w.heap.size w w2) := HB0.out.trans (hb2.mono HB0.out.size)
    clear hb2 C
    go_wp2_with fail
    go_ret
    exact ⟨rfl, B2.out⟩

set_option maxHeartbeats 2000000 in
theorem canSolve_any {k : Nat} (x : Option Rat) (r : FrR) (w : World) (hf : Fo w k x r) (hT : TabZ w) (hk : k ≤ 100000) : Calls Tryz.prog 173 #[frV r] w (BoolB (posO x) w) := by
  obtain ⟨W0, hW0⟩ : ∃ W0, W0 = w.alloc (.cells (frC r) 43) := ⟨_, rfl⟩
  have HB0 : Hid (Below w.heap.size w W0) := by show Below _ _ _; rw [hW0]; exact bal (Below.refl _ _)
  have HK : Hid (Blk W0 w.heap.size 43 (frC r)) := by show Blk _ _ _ _; rw [hW0]; exact Blk.new _ _ _
  have C := Lib.hid (right_O r (hf.past HB0.out) (hT.on HB0.out) hk rfl)
  obtain ⟨o, ho⟩ : ∃ o, sgnO x = o := ⟨_, rfl⟩
  have C2 := Lib.hid (fun W (hb : Below w.heap.size w W) => sign_O r (hf.past hb) (hT.on hb) hk ho)
  have HP : Hid (posO x = (x.isSome && decide (0 ≤ o))) := by show _ = _; rw [← ho]; rfl
  clear hf hT ho
  obtain ⟨s1, A1, n1, k1, s2, A3, n2, k2⟩ := r
  dsimp only [frV, frC] at *
  obtain ⟨k0, k1, k2, k3, -, -, -, -⟩ := fr_cells HK.out
  cases hx : x.isSome
  · rw [hx] at C HP
    clear hx
    go_enter Tryz.func173, Tryz.ntmps173
    go_wp2_with fail
    rw [← hW0]
    clear hW0
    go_wp2_with fail
    refine C.out.mono ?_
    rintro e w2 ⟨rfl, hb2⟩
    have B2 : Hid (Below w.heap.size w w2) := HB0.out.trans (hb2.mono HB0.out.size)
    clear hb2 C k0 k1 k2 k3
    go_wp2_with fail
    go_ret
    exact ⟨by rw [HP.out]; rfl, B2.out⟩
  · rw [hx] at C HP
    clear hx
    go_enter Tryz.func173, Tryz.ntmps173
    go_wp2_with fail
    rw [← hW0]
    clear hW0
    go_wp2_with fail
    refine C.out.mono ?_
    rintro e w2 ⟨rfl, hb2⟩
    have B2 : Hid (Below w.heap.size w w2) := HB0.out.trans (hb2.mono HB0.out.size)
    have K2 := Lib.hid (HK.out.below hb2 HK.out.lt)
    clear hb2 C k0 k1 k2 k3
    obtain ⟨k0, k1, k2, k3, -, -, -, -⟩ := fr_cells K2.out
    go_wp2_with fail
    refine (C2.out w2 B2.out).mono ?_
    rintro e w3 ⟨rfl, hb3⟩
    have B3 : Hid (Below w.heap.size w w3) := B2.out.trans (hb3.mono B2.out.size)
    clear hb3 C2 k0 k1 k2 k3
    go_wp2_with fail
    go_ret
    exact ⟨by rw [HP.out]; rfl, B3.out⟩
theorem allSolve {k n : Nat} {A : Option Addr} {l : List (Option Rat)} (c : Nat) (w : World) (h : Xs k w A n l) (hT : TabZ w) (hk : k ≤ 100000) (hn : n ≤ 1073741824) :
    Calls Tryz.prog 166 #[.slice A n c, .func (.func 173) #[] #[]] w (BoolB (l.all posO) w) :=
  all_solve c w (Lib.hid h) hn (Lib.hid fun x r W hb hf => canSolve_any x r W hf (hT.on hb) hk)
theorem allRight {k n : Nat} {A : Option Addr} {l : List (Option Rat)} (c : Nat) (w : World) (h : Xs k w A n l) (hT : TabZ w) (hk : k ≤ 100000) (hn : n ≤ 1073741824) :
    Calls Tryz.prog 166 #[.slice A n c, .func (.func 58) #[] #[]] w (BoolB (l.all (·.isSome)) w) :=
  all_right c w (Lib.hid h) hn (Lib.hid fun _ r _ hb hf => right_O r hf (hT.on hb) hk rfl)
end Go.Proofs.YtikfjmdeeknalaaGreatDoor

/- The walks of slices.IndexFunc and ContainsFunc and of linear's all at lists of rows, for the two closures that Right and Holds hand over. Conditions: sizes. -/
namespace Go.Proofs.YtikfjmdeeknalaaGreatDoor
set_option maxRecDepth 20000
open Go.RowKit

/-- A row as a value, in a box. -/
def rwV (A : Option Addr) (n c : Nat) (kind : Int) (r : FrR) : Value := .agg #[.slice A n c, .int .i64 kind, .int .i64 r.s1, .slice r.A1 r.n1 r.c1, .int .i64 r.s2, .slice r.A2 r.n2 r.c2]
def rwC (A : Option Addr) (n c : Nat) (kind : Int) (r : FrR) : Array Value := #[.slice A n c, .int .i64 kind, .int .i64 r.s1, .slice r.A1 r.n1 r.c1, .int .i64 r.s2, .slice r.A2 r.n2 r.c2]
theorem rw_cells {w : World} {g : Nat} {t : TypeId} {a b c d e f : Value} (h : Blk w g t #[a, b, c, d, e, f]) :
    w.cell? ⟨g, 0, none⟩ = some a ∧ w.cell? ⟨g, 1, none⟩ = some b ∧ w.cell? ⟨g, 2, none⟩ = some c ∧ w.cell? ⟨g, 3, none⟩ = some d ∧ w.cell? ⟨g, 4, none⟩ = some e ∧ w.cell? ⟨g, 5, none⟩ = some f :=
  ⟨h.cell 0, h.cell 1, h.cell 2, h.cell 3, h.cell 4, h.cell 5⟩
/-- Element i of a list of rows. -/
theorem rw_at {w : World} {k n i : Nat} {A : Option Addr} {l : List RowP} (h : Rs k w A n l) (hi : i < n) :
    ∃ ad x A2 m mc r, A = some ad ∧ ad.block < w.heap.size ∧ l[i]? = some x ∧ (m ≤ mc ∧ m ≤ 64) ∧ r.n1 ≤ r.c1 ∧ r.n2 ≤ r.c2 ∧ Ts k w A2 m x.ts ∧ Fo w k x.val r ∧ w.cell? (ad.add (i * 6)) = some (.slice A2 m mc) ∧ w.cell? ⟨(ad.add (i * 6)).block, (ad.add (i * 6)).off + 1, none⟩ = some (.int .i64 x.kind) ∧ w.cell? ⟨(ad.add (i * 6)).block, (ad.add (i * 6)).off + 2, none⟩ = some (.int .i64 r.s1) ∧
      w.cell? ⟨(ad.add (i * 6)).block, (ad.add (i * 6)).off + 3, none⟩ = some (.slice r.A1 r.n1 r.c1) ∧ w.cell? ⟨(ad.add (i * 6)).block, (ad.add (i * 6)).off + 4, none⟩ = some (.int .i64 r.s2) ∧ w.cell? ⟨(ad.add (i * 6)).block, (ad.add (i * 6)).off + 5, none⟩ = some (.slice r.A2 r.n2 r.c2) := by
  obtain ⟨ad, x, cs, e, hb, hl, -, ⟨A2, m, mc, r, rfl, c0, c1, c2, ht, hf⟩, hc⟩ := h.at_ hi
  refine ⟨ad, x, A2, m, mc, r, e, hb, hl, c0, c1, c2, ht, hf, hc 0 _ rfl, ?_, ?_, ?_, ?_, ?_⟩ <;> rw [add_cell _ _ _ (by omega)]
  · exact hc 1 _ rfl
  · exact hc 2 _ rfl
  · exact hc 3 _ rfl
  · exact hc 4 _ rfl
  · exact hc 5 _ rfl

set_option maxHeartbeats 4000000 in
theorem idx_Row {k n : Nat} {A : Option Addr} {l : List (RowP)} (c b : Nat) (p : RowP → Bool) (w : World) (h : Hid (Rs k w A n l)) (hn : n ≤ 1073741824)
    (CE : Hid (∀ (x : RowP) (A2 : Option Addr) (m mc : Nat) (r : FrR) (W : World), x ∈ l → Below w.heap.size w W → m ≤ mc ∧ m ≤ 64 → Ts k W A2 m x.ts → Fo W k x.val r → Calls Tryz.prog 218 #[rwV A2 m mc x.kind r, .pointer (some ⟨b, 0, none⟩)] W (BoolB (!p x) W))) :
    Calls Tryz.prog 246 #[.slice A n c, .func (.func 218) #[] #[.pointer (some ⟨b, 0, none⟩)]] w fun e w' => ∃ i : Int, e = .returned (.int .i64 i) ∧ decide (0 ≤ i) = !(l.all p) ∧ Below w.heap.size w w' := by
  have HB0 : Hid (Below w.heap.size w w) := Below.refl _ _
  have HS0 : Hid (l.all p = (l.drop 0).all p) := rfl
  go_enter Tryz.func246, Tryz.ntmps246
  go_wp2_with fail
  go_loopw [8] (fun i wr => ∃ (j : Nat), j ≤ n ∧ i = .int .i64 j ∧ Hid (l.all p = (l.drop j).all p) ∧ Hid (Below w.heap.size w wr)) (fun i _ => n - (RowKit.intOf i).toNat)
  case atStart => exact ⟨0, Nat.zero_le _, rfl, HS0, HB0.out⟩
  case round =>
    clear HB0 HS0
    obtain ⟨j, hj, rfl, HS, HB⟩ := hrel
    by_cases hlt : j < n
    · have hjc : (j : Int) < (n : Int) := by omega
      obtain ⟨ad, x, A2, m, mc, r, rfl, hab, hl, c0, c1, c2, hts, hf, q0, q1, q2, q3, q4, q5⟩ := rw_at (Els.past (RwEl.keeps k) h.out HB.out) hlt
      obtain ⟨s1, A1, n1, k1, s2, A3, n2, k2⟩ := r
      have C := Lib.hid (CE.out x A2 m mc ⟨s1, A1, n1, k1, s2, A3, n2, k2⟩ wr (List.mem_of_getElem? hl) HB.out c0 hts hf)
      have hd : (l.drop j).all p = (p x && (l.drop (j + 1)).all p) := by
        rw [List.drop_eq_getElem_cons (List.getElem?_eq_some_iff.1 hl).1, (List.getElem?_eq_some_iff.1 hl).2, List.all_cons]
      dsimp only [rwV] at C
      dsimp only at q0 q1 q2 q3
      cases hp : p x
      · have hres : Hid (l.all p = false) := by show _ = _; rw [HS.out, hd, hp]; rfl
        rw [hp] at C
        clear hd hp hl hts hf c1 c2 c0
        go_wp2_with fail
        refine C.out.mono ?_
        rintro e w2 ⟨rfl, hb2⟩
        have B2 : Hid (Below w.heap.size w w2) := HB.out.trans (hb2.mono HB.out.size)
        clear hb2 q0 q1 q2 q3 C
        go_wp2_with fail
        go_ret
        exact ⟨_, rfl, by rw [hres.out]; simp, B2.out⟩
      · have HS2 : Hid (l.all p = (l.drop (j + 1)).all p) := by show _ = _; rw [HS.out, hd, hp]; rfl
        rw [hp] at C
        clear hd hp hl hts hf c1 c2 c0
        go_wp2_with fail
        refine C.out.mono ?_
        rintro e w2 ⟨rfl, hb2⟩
        have B2 : Hid (Below w.heap.size w w2) := HB.out.trans (hb2.mono HB.out.size)
        clear hb2 q0 q1 q2 q3 C
        go_wp2_with fail
        go_roundw
        case rel => exact ⟨j + 1, by omega, by go_num, HS2, B2.out⟩
        case measure => simp [RowKit.intOf]; omega
    · obtain rfl : j = n := by omega
      have hd : l.drop j = [] := List.drop_eq_nil_of_le (by have := h.out.len; omega)
      have hres : Hid (l.all p = true) := by show _ = _; rw [HS.out, hd]; rfl
      clear hd
      go_wp2_with fail
      go_ret
      exact ⟨-1, rfl, by rw [hres.out]; rfl, HB.out⟩
set_option maxHeartbeats 2000000 in
theorem con_Row {k n : Nat} {A : Option Addr} {l : List (RowP)} (c b : Nat) (p : RowP → Bool) (w : World) (h : Hid (Rs k w A n l)) (hn : n ≤ 1073741824)
    (CE : Hid (∀ (x : RowP) (A2 : Option Addr) (m mc : Nat) (r : FrR) (W : World), x ∈ l → Below w.heap.size w W → m ≤ mc ∧ m ≤ 64 → Ts k W A2 m x.ts → Fo W k x.val r → Calls Tryz.prog 218 #[rwV A2 m mc x.kind r, .pointer (some ⟨b, 0, none⟩)] W (BoolB (!p x) W))) :
    Calls Tryz.prog 217 #[.slice A n c, .func (.func 218) #[] #[.pointer (some ⟨b, 0, none⟩)]] w (BoolB (!(l.all p)) w) := by
  have C := Lib.hid (idx_Row c b p w h hn CE)
  clear h CE
  go_enter Tryz.func217, Tryz.ntmps217
  go_wp2_with fail
  refine C.out.mono ?_
  rintro e w2 ⟨i, rfl, hi, hb2⟩
  have H2 := Lib.hid hb2
  have HI := Lib.hid hi
  clear hb2 hi C
  go_wp2_with fail
  go_ret
  exact ⟨by rw [← HI.out]; rfl, H2.out⟩

set_option maxHeartbeats 2000000 in
theorem cl_isRight (x : RowP) (A2 : Option Addr) (m mc : Nat) (r : FrR) (b : Nat) (g : Nat) (p : RowP → Bool) (w : World) (hc : Hid (w.cell? ⟨b, 0, none⟩ = some (.func (.func 170) #[] #[.pointer (some ⟨g, 0, none⟩)]))) (hbl : b < w.heap.size)
    (C0 : Hid (∀ W, Below w.heap.size w W → Calls Tryz.prog 170 #[rwV A2 m mc x.kind r, .pointer (some ⟨g, 0, none⟩)] W (BoolB (p x) W))) :
    Calls Tryz.prog 218 #[rwV A2 m mc x.kind r, .pointer (some ⟨b, 0, none⟩)] w (BoolB (!(p x)) w) := by
  obtain ⟨W0, hW0⟩ : ∃ W0, W0 = w.alloc (.cells (rwC A2 m mc x.kind r) 77) := ⟨_, rfl⟩
  have HB0 : Hid (Below w.heap.size w W0) := by show Below _ _ _; rw [hW0]; exact bal (Below.refl _ _)
  have HK : Hid (Blk W0 w.heap.size 77 (rwC A2 m mc x.kind r)) := by show Blk _ _ _ _; rw [hW0]; exact Blk.new _ _ _
  have hc1 : W0.cell? ⟨b, 0, none⟩ = some (.func (.func 170) #[] #[.pointer (some ⟨g, 0, none⟩)]) := (HB0.out.cell (p := ⟨b, 0, none⟩) hbl).trans hc.out
  have C := Lib.hid (C0.out W0 HB0.out)
  clear C0 hc
  cases hp : p x
  all_goals
    rw [hp] at C
    clear hp
    obtain ⟨s1, A1, n1, k1, s2, A3, n2, k2⟩ := r
    dsimp only [rwV, rwC] at *
    obtain ⟨k0, k1, k2, k3, k4, k5⟩ := rw_cells HK.out
    go_enter Tryz.func218, Tryz.ntmps218
    go_upto_region 1 with (fail)
    rw [← hW0]
    clear hW0
    go_wp2_with fail
    refine C.out.mono ?_
    rintro e w2 ⟨rfl, hb2⟩
    have B2 : Hid (Below w.heap.size w w2) := HB0.out.trans (hb2.mono HB0.out.size)
    clear hb2 C hc1
    go_wp2_with fail
    go_ret
    exact ⟨rfl, B2.out⟩
set_option maxHeartbeats 2000000 in
theorem all_isRight {k n : Nat} {A : Option Addr} {l : List (RowP)} (c : Nat) (g : Nat) (p : RowP → Bool) (w : World) (h : Hid (Rs k w A n l)) (hn : n ≤ 1073741824)
    (C0 : Hid (∀ (x : RowP) (A2 : Option Addr) (m mc : Nat) (r : FrR) (W : World), x ∈ l → Below w.heap.size w W → m ≤ mc ∧ m ≤ 64 → Ts k W A2 m x.ts → Fo W k x.val r → Calls Tryz.prog 170 #[rwV A2 m mc x.kind r, .pointer (some ⟨g, 0, none⟩)] W (BoolB (p x) W))) :
    Calls Tryz.prog 169 #[.slice A n c, .func (.func 170) #[] #[.pointer (some ⟨g, 0, none⟩)]] w (BoolB (l.all (p)) w) := by
  obtain ⟨W0, hW0⟩ : ∃ W0, W0 = w.alloc (.cells #[.func (.func 170) #[] #[.pointer (some ⟨g, 0, none⟩)]] 149) := ⟨_, rfl⟩
  have HB0 : Hid (Below w.heap.size w W0) := by show Below _ _ _; rw [hW0]; exact bal (Below.refl _ _)
  have HC : Hid (W0.cell? ⟨w.heap.size, 0, none⟩ = some (.func (.func 170) #[] #[.pointer (some ⟨g, 0, none⟩)])) := by show _ = _; rw [hW0]; exact (Blk.new w _ _).cell 0
  have hlt : w.heap.size < W0.heap.size := by rw [hW0]; simp
  have C := Lib.hid (con_Row c w.heap.size (p) W0 (Lib.hid (Els.past (RwEl.keeps k) h.out HB0.out)) hn (Lib.hid fun x A2 m mc r W hmem hb h64 hts hf => cl_isRight x A2 m mc r w.heap.size g p W (Lib.hid ((hb.cell (p := ⟨w.heap.size, 0, none⟩) hlt).trans HC.out)) (Nat.lt_of_lt_of_le hlt hb.size)
    (Lib.hid fun W2 hb2 => C0.out x A2 m mc r W2 hmem ((HB0.out.trans (hb.mono HB0.out.size)).trans (hb2.mono (HB0.out.trans (hb.mono HB0.out.size)).size)) h64 (Els.past (TmEl.keeps k) hts hb2) (hf.past hb2))))
  clear C0 h HC
  cases hp : l.all (p)
  all_goals
    rw [hp] at C
    clear hp
    go_enter Tryz.func169, Tryz.ntmps169
    go_wp2_with fail
    rw [← hW0]
    clear hW0
    refine C.out.mono ?_
    rintro e w2 ⟨rfl, hb2⟩
    have B2 : Hid (Below w.heap.size w w2) := HB0.out.trans (hb2.mono HB0.out.size)
    clear hb2 C
    go_wp2_with fail
    go_ret
    exact ⟨rfl, B2.out⟩

set_option maxHeartbeats 2000000 in
theorem cl_isHeld (x : RowP) (A2 : Option Addr) (m mc : Nat) (r : FrR) (b : Nat) (g : Nat) (p : RowP → Bool) (w : World) (hc : Hid (w.cell? ⟨b, 0, none⟩ = some (.func (.func 174) #[] #[.pointer (some ⟨g, 0, none⟩)]))) (hbl : b < w.heap.size)
    (C0 : Hid (∀ W, Below w.heap.size w W → Calls Tryz.prog 174 #[rwV A2 m mc x.kind r, .pointer (some ⟨g, 0, none⟩)] W (BoolB (p x) W))) :
    Calls Tryz.prog 218 #[rwV A2 m mc x.kind r, .pointer (some ⟨b, 0, none⟩)] w (BoolB (!(p x)) w) := by
  obtain ⟨W0, hW0⟩ : ∃ W0, W0 = w.alloc (.cells (rwC A2 m mc x.kind r) 77) := ⟨_, rfl⟩
  have HB0 : Hid (Below w.heap.size w W0) := by show Below _ _ _; rw [hW0]; exact bal (Below.refl _ _)
  have HK : Hid (Blk W0 w.heap.size 77 (rwC A2 m mc x.kind r)) := by show Blk _ _ _ _; rw [hW0]; exact Blk.new _ _ _
  have hc1 : W0.cell? ⟨b, 0, none⟩ = some (.func (.func 174) #[] #[.pointer (some ⟨g, 0, none⟩)]) := (HB0.out.cell (p := ⟨b, 0, none⟩) hbl).trans hc.out
  have C := Lib.hid (C0.out W0 HB0.out)
  clear C0 hc
  cases hp : p x
  all_goals
    rw [hp] at C
    clear hp
    obtain ⟨s1, A1, n1, k1, s2, A3, n2, k2⟩ := r
    dsimp only [rwV, rwC] at *
    obtain ⟨k0, k1, k2, k3, k4, k5⟩ := rw_cells HK.out
    go_enter Tryz.func218, Tryz.ntmps218
    go_upto_region 1 with (fail)
    rw [← hW0]
    clear hW0
    go_wp2_with fail
    refine C.out.mono ?_
    rintro e w2 ⟨rfl, hb2⟩
    have B2 : Hid (Below w.heap.size w w2) := HB0.out.trans (hb2.mono HB0.out.size)
    clear hb2 C hc1
    go_wp2_with fail
    go_ret
    exact ⟨rfl, B2.out⟩
set_option maxHeartbeats 2000000 in
theorem all_isHeld {k n : Nat} {A : Option Addr} {l : List (RowP)} (c : Nat) (g : Nat) (p : RowP → Bool) (w : World) (h : Hid (Rs k w A n l)) (hn : n ≤ 1073741824)
    (C0 : Hid (∀ (x : RowP) (A2 : Option Addr) (m mc : Nat) (r : FrR) (W : World), x ∈ l → Below w.heap.size w W → m ≤ mc ∧ m ≤ 64 → Ts k W A2 m x.ts → Fo W k x.val r → Calls Tryz.prog 174 #[rwV A2 m mc x.kind r, .pointer (some ⟨g, 0, none⟩)] W (BoolB (p x) W))) :
    Calls Tryz.prog 169 #[.slice A n c, .func (.func 174) #[] #[.pointer (some ⟨g, 0, none⟩)]] w (BoolB (l.all (p)) w) := by
  obtain ⟨W0, hW0⟩ : ∃ W0, W0 = w.alloc (.cells #[.func (.func 174) #[] #[.pointer (some ⟨g, 0, none⟩)]] 149) := ⟨_, rfl⟩
  have HB0 : Hid (Below w.heap.size w W0) := by show Below _ _ _; rw [hW0]; exact bal (Below.refl _ _)
  have HC : Hid (W0.cell? ⟨w.heap.size, 0, none⟩ = some (.func (.func 174) #[] #[.pointer (some ⟨g, 0, none⟩)])) := by show _ = _; rw [hW0]; exact (Blk.new w _ _).cell 0
  have hlt : w.heap.size < W0.heap.size := by rw [hW0]; simp
  have C := Lib.hid (con_Row c w.heap.size (p) W0 (Lib.hid (Els.past (RwEl.keeps k) h.out HB0.out)) hn (Lib.hid fun x A2 m mc r W hmem hb h64 hts hf => cl_isHeld x A2 m mc r w.heap.size g p W (Lib.hid ((hb.cell (p := ⟨w.heap.size, 0, none⟩) hlt).trans HC.out)) (Nat.lt_of_lt_of_le hlt hb.size)
    (Lib.hid fun W2 hb2 => C0.out x A2 m mc r W2 hmem ((HB0.out.trans (hb.mono HB0.out.size)).trans (hb2.mono (HB0.out.trans (hb.mono HB0.out.size)).size)) h64 (Els.past (TmEl.keeps k) hts hb2) (hf.past hb2))))
  clear C0 h HC
  cases hp : l.all (p)
  all_goals
    rw [hp] at C
    clear hp
    go_enter Tryz.func169, Tryz.ntmps169
    go_wp2_with fail
    rw [← hW0]
    clear hW0
    refine C.out.mono ?_
    rintro e w2 ⟨rfl, hb2⟩
    have B2 : Hid (Below w.heap.size w w2) := HB0.out.trans (hb2.mono HB0.out.size)
    clear hb2 C
    go_wp2_with fail
    go_ret
    exact ⟨rfl, B2.out⟩

end Go.Proofs.YtikfjmdeeknalaaGreatDoor
