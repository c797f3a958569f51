/- The walk of frac's smallPair where a part is no int. Conditions: sizes. -/
import Derived.Test.YtikfjmdeeknalaaGreatDoorQ8
import Derived.StillTail
import Derived.StillTactics
namespace Go.Proofs.YtikfjmdeeknalaaGreatDoor
set_option maxRecDepth 20000
open Go.RowKit

theorem uA {α : Type} (l : List α) (i : Nat) (a : α) : l.toArray.setIfInBounds i a = (l.set i a).toArray := List.setIfInBounds_toArray ..
theorem uB {α : Type} (x : α) (l : List α) (a : α) : (x :: l).set 0 a = a :: l := rfl
theorem uC {α : Type} (x : α) (l : List α) (i : Nat) (a : α) : (x :: l).set (i + 1) a = x :: l.set i a := rfl
theorem cons_at {P : Program} {md : Region.Mode} {Q : Exit → Act → World → Prop} {S : World → Prop} {l rest : List Oper} {rs : List Nat} {i : Nat} {o : Oper} {fuel : Nat} {listed : Array Bool} {a : Act} {w : World} (hi : l.drop i = o :: rest)
    (h : ∀ K' : Act → World → Prop, Shut (∀ a w, S w → (S w → wpAnyH P md l.toArray Q S fuel (listed.setIfInBounds i true) a w) → K' a w) → if Region.wanted o (yielded l.toArray a.tmps) = true then Oper.wp P o a w K' Q else K' (a.put o.dst undef) w)
    (hs : AllReadyH P md l.toArray Q S fuel listed a w rs) : AllReadyH P md l.toArray Q S fuel listed a w (i :: rs) :=
  AllReadyH.cons (by
    have := congrArg (·[0]?) hi
    simpa [List.getElem?_drop] using this) h hs
theorem ready_at {P : Program} {md : Region.Mode} {Q : Exit → Act → World → Prop} {S : World → Prop} {l rest : List Oper} {i : Nat} {o : Oper} {fuel : Nat} {listed : Array Bool} {a : Act} {w : World} (hi : l.drop i = o :: rest)
    (hr : Region.ready md l.toArray listed = [i])
    (h : ∀ K' : Act → World → Prop, Shut (∀ a w, S w → (S w → wpAnyH P md l.toArray Q S fuel (listed.setIfInBounds i true) a w) → K' a w) → if Region.wanted o (yielded l.toArray a.tmps) = true then Oper.wp P o a w K' Q else K' (a.put o.dst undef) w) :
    wpAnyH P md l.toArray Q S (fuel + 1) listed a w :=
  wpAnyH_ready hr (by simp) (AllReadyH.cons (by
    have := congrArg (·[0]?) hi
    simpa [List.getElem?_drop] using this) h AllReadyH.nil)
theorem take_at {P : Program} {md : Region.Mode} {Q : Exit → Act → World → Prop} {S : World → Prop} {l rest : List Oper} {i : Nat} {oi : Oper} {v : Value} {fuel : Nat} {listed : Array Bool} {a : Act} {w : World} (hi : l.drop i = oi :: rest)
    (hs : Region.noSelect l.toArray = true) (hf : Region.free md l.toArray listed i = true) (hr : (Region.ready md l.toArray listed).contains i = true)
    (hQ : ∀ c a w, Q (.panic c) (a.put oi.dst v) w → Q (.panic c) a w) (hy : YieldsIf P l.toArray S oi v a) (hS : S w)
    (h : wpAnyH P md l.toArray Q S fuel (listed.setIfInBounds i true) (a.put oi.dst v) w) : wpAnyH P md l.toArray Q S (fuel + 1) listed a w :=
  wpAnyH_take (by
    have := congrArg (·[0]?) hi
    simpa [List.getElem?_drop] using this) hs hf hr hQ hy hS h
set_option maxHeartbeats 16000000 in
theorem smallPair_B {w : World} {j k j2 k2 : Nat} {p q p2 q2 : Int} (r r2 : FrR) (h1 : Bg w j p r.s1 r.A1 r.n1) (h2 : Bg w k q r.s2 r.A2 r.n2) (h3 : Bg w j2 p2 r2.s1 r2.A1 r2.n1) (h4 : Bg w k2 q2 r2.s2 r2.A2 r2.n2)
    (hj : j ≤ 1048576) (hk : k ≤ 1048576) (hj2 : j2 ≤ 1048576) (hk2 : k2 ≤ 1048576) {a b c d : Int} {ua ub uc ud : Bool} (ea : intP p = (a, ua)) (eb : intP q = (b, ub)) (ec : intP p2 = (c, uc)) (ed : intP q2 = (d, ud)) {B1 B2 : Bool} (hB1 : (ua && ub) = B1) (hB2 : (uc && ud) = B2) (hB : (B1 && B2) = false) :
    Calls Tryz.prog 210 #[frV r, frV r2] w fun e w' => e = .returned (.tuple #[.agg #[.int .i64 a, .int .i64 b], .agg #[.int .i64 c, .int .i64 d], .bool false]) ∧ Below w.heap.size w w' := by
  obtain ⟨W0, hW0⟩ : ∃ W0, W0 = (((w.alloc (.cells (frC r) 43)).alloc (.cells (frC r2) 43)).alloc (.cells #[.int .i64 0, .int .i64 0] 135)).alloc (.cells #[.int .i64 0, .int .i64 0] 135) := ⟨_, rfl⟩
  have K0 : Hid (Below w.heap.size w W0) := by
    show Below _ _ _
    rw [hW0]
    exact ((((Below.refl _ _).alloc (Nat.le_refl _) _).alloc (by simp) _).alloc (by simp; omega) _).alloc (by simp; omega) _
  have KA : Hid (Blk W0 w.heap.size 43 (frC r)) := by
    show Blk _ _ _ _
    rw [hW0]
    exact (((Blk.new w _ _).alloc _).alloc _).alloc _
  have KB : Hid (Blk W0 (w.heap.size + 1) 43 (frC r2)) := by
    show Blk _ _ _ _
    rw [hW0]
    have := ((Blk.new (w.alloc (.cells (frC r) 43)) 43 (frC r2)).alloc (.cells #[.int .i64 0, .int .i64 0] 135)).alloc (.cells #[.int .i64 0, .int .i64 0] 135)
    simpa using this
  have KX : Hid (Blk W0 (w.heap.size + 1 + 1) 135 #[.int .i64 0, .int .i64 0]) := by
    show Blk _ _ _ _
    rw [hW0]
    have := (Blk.new ((w.alloc (.cells (frC r) 43)).alloc (.cells (frC r2) 43)) 135 #[.int .i64 0, .int .i64 0]).alloc (.cells #[.int .i64 0, .int .i64 0] 135)
    simpa using this
  have KY : Hid (Blk W0 (w.heap.size + 1 + 1 + 1) 135 #[.int .i64 0, .int .i64 0]) := by
    show Blk _ _ _ _
    rw [hW0]
    have := Blk.new (((w.alloc (.cells (frC r) 43)).alloc (.cells (frC r2) 43)).alloc (.cells #[.int .i64 0, .int .i64 0] 135)) 135 #[.int .i64 0, .int .i64 0]
    simpa using this
  have M1 := Lib.hid (fun W (hb : Below w.heap.size w W) => smallOf_any r (h1.past hb) (h2.past hb) hj hk ea eb)
  have M2 := Lib.hid (fun W (hb : Below w.heap.size w W) => smallOf_any r2 (h3.past hb) (h4.past hb) hj2 hk2 ec ed)
  clear h1 h2 h3 h4 ea eb ec ed hj hk hj2 hk2
  rw [hB1] at M1
  rw [hB2] at M2
  clear hB1 hB2
  obtain ⟨s1, A1, n1, c1, s2, A2, n2, c2⟩ := r
  obtain ⟨s3, A3, n3, c3, s4, A4, n4, c4⟩ := r2
  dsimp only [frV, frC] at *
  obtain ⟨ka0, ka1, ka2, ka3, -, -, -, -⟩ := fr_cells KA.out
  cases B1 <;> cases B2
  case true.true => cases hB
  all_goals clear hB
  case false.false =>
      go_enter Tryz.func210, Tryz.ntmps210
      go_wp2_with fail
      rw [← hW0]
      clear hW0
      go_wp2_with fail
      refine (M1.out _ K0.out).mono ?_
      rintro e w1 ⟨rfl, hb⟩
      have B1 : Hid (Below w.heap.size w w1) := K0.out.trans (hb.mono K0.out.size)
      have KB1 := Lib.hid (KB.out.below hb KB.out.lt)
      have KX1 := Lib.hid (KX.out.below hb KX.out.lt)
      have KY1 := Lib.hid (KY.out.below hb KY.out.lt)
      obtain ⟨kb0, kb1, kb2, kb3, -, -, -, -⟩ := fr_cells KB1.out
      obtain ⟨kx0, kx1, kx2, kx3⟩ := sm_cells KX1.out
      clear hb KA KB KX KY K0 ka0 ka1 ka2 ka3 M1
      go_wp2_with fail
      obtain ⟨w2, hw2, -, -, kx, kbd⟩ := sm_end KX1.out (.int .i64 a) (.int .i64 b)
      have B2 : Hid (Below w.heap.size w w2) := kbd B1.out (by omega)
      have KX2 := Lib.hid kx
      have KY2 : Hid (Blk w2 (w.heap.size + 1 + 1 + 1) 135 #[.int .i64 0, .int .i64 0]) := by
        show Blk _ _ _ _
        rw [hw2]
        exact (KY1.out.far (p := ⟨w.heap.size + 1 + 1, 0, none⟩) (by simp) _).far (p := ⟨w.heap.size + 1 + 1, 1, none⟩) (by simp) _
      rw [← hw2]
      clear hw2 kx kbd kb0 kb1 kb2 kb3 kx0 kx1 kx2 kx3 KB1 KX1 KY1 B1
      refine (M2.out _ B2.out).mono ?_
      rintro e w3 ⟨rfl, hb⟩
      have B3 : Hid (Below w.heap.size w w3) := B2.out.trans (hb.mono B2.out.size)
      have KX3 := Lib.hid (KX2.out.below hb KX2.out.lt)
      have KY3 := Lib.hid (KY2.out.below hb KY2.out.lt)
      obtain ⟨kx0, kx1, kx2, kx3⟩ := sm_cells KX3.out
      obtain ⟨ky0, ky1, ky2, ky3⟩ := sm_cells KY3.out
      clear hb KX2 KY2 B2 M2
      go_wp2_with fail
      obtain ⟨w4, hw4, ky4, ky5, ky, kbd⟩ := sm_end KY3.out (.int .i64 c) (.int .i64 d)
      have B4 : Hid (Below w.heap.size w w4) := kbd B3.out (by omega)
      have KX4 : Hid (Blk w4 (w.heap.size + 1 + 1) 135 #[.int .i64 a, .int .i64 b]) := by
        show Blk _ _ _ _
        rw [hw4]
        exact (KX3.out.far (p := ⟨w.heap.size + 1 + 1 + 1, 0, none⟩) (by simp) _).far (p := ⟨w.heap.size + 1 + 1 + 1, 1, none⟩) (by simp) _
      have KY4 := Lib.hid ky
      rw [← hw4]
      clear hw4 ky kbd kx0 kx1 kx2 kx3 ky0 ky1 ky2 ky3 KX3 KY3 B3
      obtain ⟨kx0, kx1, kx2, kx3⟩ := sm_cells KX4.out
      obtain ⟨ky0, ky1, ky2, ky3⟩ := sm_cells KY4.out
      clear ky4 ky5
      have ne12 : Hid (w.heap.size + 1 + 1 ≠ w.heap.size + 1 + 1 + 1) := by show _ ≠ _; omega
      refine wp_region_held_drew (S := fun w' => w'.cell? ⟨w.heap.size + 1 + 1, 0, none⟩ = some (.int .i64 a) ∧ w'.cell? ⟨w.heap.size + 1 + 1, 1, none⟩ = some (.int .i64 b) ∧ w'.cell? ⟨w.heap.size + 1 + 1 + 1, 0, none⟩ = some (.int .i64 c) ∧ w'.cell? ⟨w.heap.size + 1 + 1 + 1, 1, none⟩ = some (.int .i64 d)) (by kernel_rfl) (show _ ∧ _ ∧ _ ∧ _ from ⟨kx0, kx1, ky0, ky1⟩) (fun hHeld => ?_)
      refine take_at (i := 0) (v := ?v0_00) rfl (by kernel_rfl) (by kernel_rfl) (by kernel_rfl) (fun _ _ _ h => h) (Or.inl ⟨by rfl, ?y0_00⟩) (by assumption) ?r0_00
      case y0_00 => (intro w hSw; (try dsimp only at hSw); go_simp; (try with_reducible rfl))
      simp only [Act.put, uA, uB, uC]
      refine take_at (i := 1) (v := ?v1_00) rfl (by kernel_rfl) (by kernel_rfl) (by kernel_rfl) (fun _ _ _ h => h) (Or.inl ⟨by rfl, ?y1_00⟩) (by assumption) ?r1_00
      case y1_00 => (intro w hSw; (try dsimp only at hSw); go_simp; (try with_reducible rfl))
      simp only [Act.put, uA, uB, uC]
      refine take_at (i := 2) (v := ?v2_00) rfl (by kernel_rfl) (by kernel_rfl) (by kernel_rfl) (fun _ _ _ h => h) (Or.inl ⟨by rfl, ?y2_00⟩) (by assumption) ?r2_00
      case y2_00 => (intro w hSw; (try dsimp only at hSw); go_simp; (try with_reducible rfl))
      simp only [Act.put, uA, uB, uC]
      refine take_at (i := 3) (v := ?v3_00) rfl (by kernel_rfl) (by kernel_rfl) (by kernel_rfl) (fun _ _ _ h => h) (Or.inl ⟨by rfl, ?y3_00⟩) (by assumption) ?r3_00
      case y3_00 => (intro w hSw; (try dsimp only at hSw); go_simp; (try with_reducible rfl))
      simp only [Act.put, uA, uB, uC]
      refine take_at (i := 4) rfl (by kernel_rfl) (by kernel_rfl) (by kernel_rfl) (fun _ _ _ h => h) (Or.inr ⟨by rfl, rfl⟩) (by assumption) ?_
      simp only [Act.put, uA, uB, uC]
      refine take_at (i := 5) (v := ?v5_00) rfl (by kernel_rfl) (by kernel_rfl) (by kernel_rfl) (fun _ _ _ h => h) (Or.inl ⟨by rfl, ?y5_00⟩) (by assumption) ?r5_00
      case y5_00 => (intro w hSw; (try dsimp only at hSw); go_simp; (try with_reducible rfl))
      simp only [Act.put, uA, uB, uC]
      refine take_at (i := 6) (v := ?v6_00) rfl (by kernel_rfl) (by kernel_rfl) (by kernel_rfl) (fun _ _ _ h => h) (Or.inl ⟨by rfl, ?y6_00⟩) (by assumption) ?r6_00
      case y6_00 => (intro w hSw; (try dsimp only at hSw); go_simp; (try with_reducible rfl))
      simp only [Act.put, uA, uB, uC]
      refine take_at (i := 7) rfl (by kernel_rfl) (by kernel_rfl) (by kernel_rfl) (fun _ _ _ h => h) (Or.inr ⟨by rfl, rfl⟩) (by assumption) ?_
      simp only [Act.put, uA, uB, uC]
      refine take_at (i := 8) rfl (by kernel_rfl) (by kernel_rfl) (by kernel_rfl) (fun _ _ _ h => h) (Or.inr ⟨by rfl, rfl⟩) (by assumption) ?_
      simp only [Act.put, uA, uB, uC]
      refine take_at (i := 9) rfl (by kernel_rfl) (by kernel_rfl) (by kernel_rfl) (fun _ _ _ h => h) (Or.inr ⟨by rfl, rfl⟩) (by assumption) ?_
      simp only [Act.put, uA, uB, uC]
      refine take_at (i := 10) rfl (by kernel_rfl) (by kernel_rfl) (by kernel_rfl) (fun _ _ _ h => h) (Or.inr ⟨by rfl, rfl⟩) (by assumption) ?_
      simp only [Act.put, uA, uB, uC]
      refine take_at (i := 11) rfl (by kernel_rfl) (by kernel_rfl) (by kernel_rfl) (fun _ _ _ h => h) (Or.inr ⟨by rfl, rfl⟩) (by assumption) ?_
      simp only [Act.put, uA, uB, uC]
      refine take_at (i := 12) rfl (by kernel_rfl) (by kernel_rfl) (by kernel_rfl) (fun _ _ _ h => h) (Or.inr ⟨by rfl, rfl⟩) (by assumption) ?_
      simp only [Act.put, uA, uB, uC]
      refine take_at (i := 13) (v := ?v13_00) rfl (by kernel_rfl) (by kernel_rfl) (by kernel_rfl) (fun _ _ _ h => h) (Or.inl ⟨by rfl, ?y13_00⟩) (by assumption) ?r13_00
      case y13_00 => (intro w hSw; (try dsimp only at hSw); go_simp; (try with_reducible rfl))
      simp only [Act.put, uA, uB, uC]
      refine ready_at (i := 14) rfl (by kernel_rfl) (fun K hK => ?_)
      go_simp
      refine hK.out _ _ ?_ (fun hHeld => ?_)
      · exact pair1 KX4.out.drew KY4.out.drew ne12.out
      clear hK K
      (try simp only [Act.put, uA, uB, uC])
      refine ready_at (i := 15) rfl (by kernel_rfl) (fun K hK => ?_)
      go_simp
      refine hK.out _ _ ?_ (fun hHeld => ?_)
      · exact pair2 KX4.out.drew KY4.out.drew ne12.out
      clear hK K
      (try simp only [Act.put, uA, uB, uC])
      refine take_at (i := 16) (v := ?v16_00) rfl (by kernel_rfl) (by kernel_rfl) (by kernel_rfl) (fun _ _ _ h => h) (Or.inl ⟨by rfl, ?y16_00⟩) (by assumption) ?r16_00
      case y16_00 => (intro w hSw; (try dsimp only at hSw); go_simp; (try with_reducible rfl))
      simp only [Act.put, uA, uB, uC]
      refine wpAnyH_done (by kernel_rfl) ?_ _
      obtain ⟨z0, z1, z2, z3⟩ := pair2 KX4.out KY4.out ne12.out
      go_wp2_with fail
      exact bodyPost_ret (v := .tuple #[.agg #[.int .i64 a, .int .i64 b], .agg #[.int .i64 c, .int .i64 d], .bool false]) (by simp [results, Tryz.results210, go_sem, z0, z1, z2, z3]) rfl
        ⟨rfl, (below_set (below_set (below_set (below_set B4.out (by omega) _ _) (by omega) _ _) (by omega) _ _) (by omega) _ _).drew⟩
  case false.true =>
      go_enter Tryz.func210, Tryz.ntmps210
      go_wp2_with fail
      rw [← hW0]
      clear hW0
      go_wp2_with fail
      refine (M1.out _ K0.out).mono ?_
      rintro e w1 ⟨rfl, hb⟩
      have B1 : Hid (Below w.heap.size w w1) := K0.out.trans (hb.mono K0.out.size)
      have KB1 := Lib.hid (KB.out.below hb KB.out.lt)
      have KX1 := Lib.hid (KX.out.below hb KX.out.lt)
      have KY1 := Lib.hid (KY.out.below hb KY.out.lt)
      obtain ⟨kb0, kb1, kb2, kb3, -, -, -, -⟩ := fr_cells KB1.out
      obtain ⟨kx0, kx1, kx2, kx3⟩ := sm_cells KX1.out
      clear hb KA KB KX KY K0 ka0 ka1 ka2 ka3 M1
      go_wp2_with fail
      obtain ⟨w2, hw2, -, -, kx, kbd⟩ := sm_end KX1.out (.int .i64 a) (.int .i64 b)
      have B2 : Hid (Below w.heap.size w w2) := kbd B1.out (by omega)
      have KX2 := Lib.hid kx
      have KY2 : Hid (Blk w2 (w.heap.size + 1 + 1 + 1) 135 #[.int .i64 0, .int .i64 0]) := by
        show Blk _ _ _ _
        rw [hw2]
        exact (KY1.out.far (p := ⟨w.heap.size + 1 + 1, 0, none⟩) (by simp) _).far (p := ⟨w.heap.size + 1 + 1, 1, none⟩) (by simp) _
      rw [← hw2]
      clear hw2 kx kbd kb0 kb1 kb2 kb3 kx0 kx1 kx2 kx3 KB1 KX1 KY1 B1
      refine (M2.out _ B2.out).mono ?_
      rintro e w3 ⟨rfl, hb⟩
      have B3 : Hid (Below w.heap.size w w3) := B2.out.trans (hb.mono B2.out.size)
      have KX3 := Lib.hid (KX2.out.below hb KX2.out.lt)
      have KY3 := Lib.hid (KY2.out.below hb KY2.out.lt)
      obtain ⟨kx0, kx1, kx2, kx3⟩ := sm_cells KX3.out
      obtain ⟨ky0, ky1, ky2, ky3⟩ := sm_cells KY3.out
      clear hb KX2 KY2 B2 M2
      go_wp2_with fail
      obtain ⟨w4, hw4, ky4, ky5, ky, kbd⟩ := sm_end KY3.out (.int .i64 c) (.int .i64 d)
      have B4 : Hid (Below w.heap.size w w4) := kbd B3.out (by omega)
      have KX4 : Hid (Blk w4 (w.heap.size + 1 + 1) 135 #[.int .i64 a, .int .i64 b]) := by
        show Blk _ _ _ _
        rw [hw4]
        exact (KX3.out.far (p := ⟨w.heap.size + 1 + 1 + 1, 0, none⟩) (by simp) _).far (p := ⟨w.heap.size + 1 + 1 + 1, 1, none⟩) (by simp) _
      have KY4 := Lib.hid ky
      rw [← hw4]
      clear hw4 ky kbd kx0 kx1 kx2 kx3 ky0 ky1 ky2 ky3 KX3 KY3 B3
      obtain ⟨kx0, kx1, kx2, kx3⟩ := sm_cells KX4.out
      obtain ⟨ky0, ky1, ky2, ky3⟩ := sm_cells KY4.out
      clear ky4 ky5
      have ne12 : Hid (w.heap.size + 1 + 1 ≠ w.heap.size + 1 + 1 + 1) := by show _ ≠ _; omega
      refine wp_region_held_drew (S := fun w' => w'.cell? ⟨w.heap.size + 1 + 1, 0, none⟩ = some (.int .i64 a) ∧ w'.cell? ⟨w.heap.size + 1 + 1, 1, none⟩ = some (.int .i64 b) ∧ w'.cell? ⟨w.heap.size + 1 + 1 + 1, 0, none⟩ = some (.int .i64 c) ∧ w'.cell? ⟨w.heap.size + 1 + 1 + 1, 1, none⟩ = some (.int .i64 d)) (by kernel_rfl) (show _ ∧ _ ∧ _ ∧ _ from ⟨kx0, kx1, ky0, ky1⟩) (fun hHeld => ?_)
      refine take_at (i := 0) (v := ?v0_01) rfl (by kernel_rfl) (by kernel_rfl) (by kernel_rfl) (fun _ _ _ h => h) (Or.inl ⟨by rfl, ?y0_01⟩) (by assumption) ?r0_01
      case y0_01 => (intro w hSw; (try dsimp only at hSw); go_simp; (try with_reducible rfl))
      simp only [Act.put, uA, uB, uC]
      refine take_at (i := 1) (v := ?v1_01) rfl (by kernel_rfl) (by kernel_rfl) (by kernel_rfl) (fun _ _ _ h => h) (Or.inl ⟨by rfl, ?y1_01⟩) (by assumption) ?r1_01
      case y1_01 => (intro w hSw; (try dsimp only at hSw); go_simp; (try with_reducible rfl))
      simp only [Act.put, uA, uB, uC]
      refine take_at (i := 2) (v := ?v2_01) rfl (by kernel_rfl) (by kernel_rfl) (by kernel_rfl) (fun _ _ _ h => h) (Or.inl ⟨by rfl, ?y2_01⟩) (by assumption) ?r2_01
      case y2_01 => (intro w hSw; (try dsimp only at hSw); go_simp; (try with_reducible rfl))
      simp only [Act.put, uA, uB, uC]
      refine take_at (i := 3) (v := ?v3_01) rfl (by kernel_rfl) (by kernel_rfl) (by kernel_rfl) (fun _ _ _ h => h) (Or.inl ⟨by rfl, ?y3_01⟩) (by assumption) ?r3_01
      case y3_01 => (intro w hSw; (try dsimp only at hSw); go_simp; (try with_reducible rfl))
      simp only [Act.put, uA, uB, uC]
      refine take_at (i := 4) rfl (by kernel_rfl) (by kernel_rfl) (by kernel_rfl) (fun _ _ _ h => h) (Or.inr ⟨by rfl, rfl⟩) (by assumption) ?_
      simp only [Act.put, uA, uB, uC]
      refine take_at (i := 5) (v := ?v5_01) rfl (by kernel_rfl) (by kernel_rfl) (by kernel_rfl) (fun _ _ _ h => h) (Or.inl ⟨by rfl, ?y5_01⟩) (by assumption) ?r5_01
      case y5_01 => (intro w hSw; (try dsimp only at hSw); go_simp; (try with_reducible rfl))
      simp only [Act.put, uA, uB, uC]
      refine take_at (i := 6) (v := ?v6_01) rfl (by kernel_rfl) (by kernel_rfl) (by kernel_rfl) (fun _ _ _ h => h) (Or.inl ⟨by rfl, ?y6_01⟩) (by assumption) ?r6_01
      case y6_01 => (intro w hSw; (try dsimp only at hSw); go_simp; (try with_reducible rfl))
      simp only [Act.put, uA, uB, uC]
      refine take_at (i := 7) rfl (by kernel_rfl) (by kernel_rfl) (by kernel_rfl) (fun _ _ _ h => h) (Or.inr ⟨by rfl, rfl⟩) (by assumption) ?_
      simp only [Act.put, uA, uB, uC]
      refine take_at (i := 8) rfl (by kernel_rfl) (by kernel_rfl) (by kernel_rfl) (fun _ _ _ h => h) (Or.inr ⟨by rfl, rfl⟩) (by assumption) ?_
      simp only [Act.put, uA, uB, uC]
      refine take_at (i := 9) rfl (by kernel_rfl) (by kernel_rfl) (by kernel_rfl) (fun _ _ _ h => h) (Or.inr ⟨by rfl, rfl⟩) (by assumption) ?_
      simp only [Act.put, uA, uB, uC]
      refine take_at (i := 10) rfl (by kernel_rfl) (by kernel_rfl) (by kernel_rfl) (fun _ _ _ h => h) (Or.inr ⟨by rfl, rfl⟩) (by assumption) ?_
      simp only [Act.put, uA, uB, uC]
      refine take_at (i := 11) rfl (by kernel_rfl) (by kernel_rfl) (by kernel_rfl) (fun _ _ _ h => h) (Or.inr ⟨by rfl, rfl⟩) (by assumption) ?_
      simp only [Act.put, uA, uB, uC]
      refine take_at (i := 12) rfl (by kernel_rfl) (by kernel_rfl) (by kernel_rfl) (fun _ _ _ h => h) (Or.inr ⟨by rfl, rfl⟩) (by assumption) ?_
      simp only [Act.put, uA, uB, uC]
      refine take_at (i := 13) (v := ?v13_01) rfl (by kernel_rfl) (by kernel_rfl) (by kernel_rfl) (fun _ _ _ h => h) (Or.inl ⟨by rfl, ?y13_01⟩) (by assumption) ?r13_01
      case y13_01 => (intro w hSw; (try dsimp only at hSw); go_simp; (try with_reducible rfl))
      simp only [Act.put, uA, uB, uC]
      refine ready_at (i := 14) rfl (by kernel_rfl) (fun K hK => ?_)
      go_simp
      refine hK.out _ _ ?_ (fun hHeld => ?_)
      · exact pair1 KX4.out.drew KY4.out.drew ne12.out
      clear hK K
      (try simp only [Act.put, uA, uB, uC])
      refine ready_at (i := 15) rfl (by kernel_rfl) (fun K hK => ?_)
      go_simp
      refine hK.out _ _ ?_ (fun hHeld => ?_)
      · exact pair2 KX4.out.drew KY4.out.drew ne12.out
      clear hK K
      (try simp only [Act.put, uA, uB, uC])
      refine take_at (i := 16) (v := ?v16_01) rfl (by kernel_rfl) (by kernel_rfl) (by kernel_rfl) (fun _ _ _ h => h) (Or.inl ⟨by rfl, ?y16_01⟩) (by assumption) ?r16_01
      case y16_01 => (intro w hSw; (try dsimp only at hSw); go_simp; (try with_reducible rfl))
      simp only [Act.put, uA, uB, uC]
      refine wpAnyH_done (by kernel_rfl) ?_ _
      obtain ⟨z0, z1, z2, z3⟩ := pair2 KX4.out KY4.out ne12.out
      go_wp2_with fail
      exact bodyPost_ret (v := .tuple #[.agg #[.int .i64 a, .int .i64 b], .agg #[.int .i64 c, .int .i64 d], .bool false]) (by simp [results, Tryz.results210, go_sem, z0, z1, z2, z3]) rfl
        ⟨rfl, (below_set (below_set (below_set (below_set B4.out (by omega) _ _) (by omega) _ _) (by omega) _ _) (by omega) _ _).drew⟩
  case true.false =>
      go_enter Tryz.func210, Tryz.ntmps210
      go_wp2_with fail
      rw [← hW0]
      clear hW0
      go_wp2_with fail
      refine (M1.out _ K0.out).mono ?_
      rintro e w1 ⟨rfl, hb⟩
      have B1 : Hid (Below w.heap.size w w1) := K0.out.trans (hb.mono K0.out.size)
      have KB1 := Lib.hid (KB.out.below hb KB.out.lt)
      have KX1 := Lib.hid (KX.out.below hb KX.out.lt)
      have KY1 := Lib.hid (KY.out.below hb KY.out.lt)
      obtain ⟨kb0, kb1, kb2, kb3, -, -, -, -⟩ := fr_cells KB1.out
      obtain ⟨kx0, kx1, kx2, kx3⟩ := sm_cells KX1.out
      clear hb KA KB KX KY K0 ka0 ka1 ka2 ka3 M1
      go_wp2_with fail
      obtain ⟨w2, hw2, -, -, kx, kbd⟩ := sm_end KX1.out (.int .i64 a) (.int .i64 b)
      have B2 : Hid (Below w.heap.size w w2) := kbd B1.out (by omega)
      have KX2 := Lib.hid kx
      have KY2 : Hid (Blk w2 (w.heap.size + 1 + 1 + 1) 135 #[.int .i64 0, .int .i64 0]) := by
        show Blk _ _ _ _
        rw [hw2]
        exact (KY1.out.far (p := ⟨w.heap.size + 1 + 1, 0, none⟩) (by simp) _).far (p := ⟨w.heap.size + 1 + 1, 1, none⟩) (by simp) _
      rw [← hw2]
      clear hw2 kx kbd kb0 kb1 kb2 kb3 kx0 kx1 kx2 kx3 KB1 KX1 KY1 B1
      refine (M2.out _ B2.out).mono ?_
      rintro e w3 ⟨rfl, hb⟩
      have B3 : Hid (Below w.heap.size w w3) := B2.out.trans (hb.mono B2.out.size)
      have KX3 := Lib.hid (KX2.out.below hb KX2.out.lt)
      have KY3 := Lib.hid (KY2.out.below hb KY2.out.lt)
      obtain ⟨kx0, kx1, kx2, kx3⟩ := sm_cells KX3.out
      obtain ⟨ky0, ky1, ky2, ky3⟩ := sm_cells KY3.out
      clear hb KX2 KY2 B2 M2
      go_wp2_with fail
      obtain ⟨w4, hw4, ky4, ky5, ky, kbd⟩ := sm_end KY3.out (.int .i64 c) (.int .i64 d)
      have B4 : Hid (Below w.heap.size w w4) := kbd B3.out (by omega)
      have KX4 : Hid (Blk w4 (w.heap.size + 1 + 1) 135 #[.int .i64 a, .int .i64 b]) := by
        show Blk _ _ _ _
        rw [hw4]
        exact (KX3.out.far (p := ⟨w.heap.size + 1 + 1 + 1, 0, none⟩) (by simp) _).far (p := ⟨w.heap.size + 1 + 1 + 1, 1, none⟩) (by simp) _
      have KY4 := Lib.hid ky
      rw [← hw4]
      clear hw4 ky kbd kx0 kx1 kx2 kx3 ky0 ky1 ky2 ky3 KX3 KY3 B3
      obtain ⟨kx0, kx1, kx2, kx3⟩ := sm_cells KX4.out
      obtain ⟨ky0, ky1, ky2, ky3⟩ := sm_cells KY4.out
      clear ky4 ky5
      have ne12 : Hid (w.heap.size + 1 + 1 ≠ w.heap.size + 1 + 1 + 1) := by show _ ≠ _; omega
      refine wp_region_held_drew (S := fun w' => w'.cell? ⟨w.heap.size + 1 + 1, 0, none⟩ = some (.int .i64 a) ∧ w'.cell? ⟨w.heap.size + 1 + 1, 1, none⟩ = some (.int .i64 b) ∧ w'.cell? ⟨w.heap.size + 1 + 1 + 1, 0, none⟩ = some (.int .i64 c) ∧ w'.cell? ⟨w.heap.size + 1 + 1 + 1, 1, none⟩ = some (.int .i64 d)) (by kernel_rfl) (show _ ∧ _ ∧ _ ∧ _ from ⟨kx0, kx1, ky0, ky1⟩) (fun hHeld => ?_)
      refine take_at (i := 0) (v := ?v0_10) rfl (by kernel_rfl) (by kernel_rfl) (by kernel_rfl) (fun _ _ _ h => h) (Or.inl ⟨by rfl, ?y0_10⟩) (by assumption) ?r0_10
      case y0_10 => (intro w hSw; (try dsimp only at hSw); go_simp; (try with_reducible rfl))
      simp only [Act.put, uA, uB, uC]
      refine take_at (i := 1) (v := ?v1_10) rfl (by kernel_rfl) (by kernel_rfl) (by kernel_rfl) (fun _ _ _ h => h) (Or.inl ⟨by rfl, ?y1_10⟩) (by assumption) ?r1_10
      case y1_10 => (intro w hSw; (try dsimp only at hSw); go_simp; (try with_reducible rfl))
      simp only [Act.put, uA, uB, uC]
      refine take_at (i := 2) (v := ?v2_10) rfl (by kernel_rfl) (by kernel_rfl) (by kernel_rfl) (fun _ _ _ h => h) (Or.inl ⟨by rfl, ?y2_10⟩) (by assumption) ?r2_10
      case y2_10 => (intro w hSw; (try dsimp only at hSw); go_simp; (try with_reducible rfl))
      simp only [Act.put, uA, uB, uC]
      refine take_at (i := 3) (v := ?v3_10) rfl (by kernel_rfl) (by kernel_rfl) (by kernel_rfl) (fun _ _ _ h => h) (Or.inl ⟨by rfl, ?y3_10⟩) (by assumption) ?r3_10
      case y3_10 => (intro w hSw; (try dsimp only at hSw); go_simp; (try with_reducible rfl))
      simp only [Act.put, uA, uB, uC]
      refine take_at (i := 4) (v := ?v4_10) rfl (by kernel_rfl) (by kernel_rfl) (by kernel_rfl) (fun _ _ _ h => h) (Or.inl ⟨by rfl, ?y4_10⟩) (by assumption) ?r4_10
      case y4_10 => (intro w hSw; (try dsimp only at hSw); go_simp; (try with_reducible rfl))
      simp only [Act.put, uA, uB, uC]
      refine take_at (i := 5) (v := ?v5_10) rfl (by kernel_rfl) (by kernel_rfl) (by kernel_rfl) (fun _ _ _ h => h) (Or.inl ⟨by rfl, ?y5_10⟩) (by assumption) ?r5_10
      case y5_10 => (intro w hSw; (try dsimp only at hSw); go_simp; (try with_reducible rfl))
      simp only [Act.put, uA, uB, uC]
      refine take_at (i := 6) (v := ?v6_10) rfl (by kernel_rfl) (by kernel_rfl) (by kernel_rfl) (fun _ _ _ h => h) (Or.inl ⟨by rfl, ?y6_10⟩) (by assumption) ?r6_10
      case y6_10 => (intro w hSw; (try dsimp only at hSw); go_simp; (try with_reducible rfl))
      simp only [Act.put, uA, uB, uC]
      refine take_at (i := 7) rfl (by kernel_rfl) (by kernel_rfl) (by kernel_rfl) (fun _ _ _ h => h) (Or.inr ⟨by rfl, rfl⟩) (by assumption) ?_
      simp only [Act.put, uA, uB, uC]
      refine take_at (i := 8) rfl (by kernel_rfl) (by kernel_rfl) (by kernel_rfl) (fun _ _ _ h => h) (Or.inr ⟨by rfl, rfl⟩) (by assumption) ?_
      simp only [Act.put, uA, uB, uC]
      refine take_at (i := 9) rfl (by kernel_rfl) (by kernel_rfl) (by kernel_rfl) (fun _ _ _ h => h) (Or.inr ⟨by rfl, rfl⟩) (by assumption) ?_
      simp only [Act.put, uA, uB, uC]
      refine take_at (i := 10) rfl (by kernel_rfl) (by kernel_rfl) (by kernel_rfl) (fun _ _ _ h => h) (Or.inr ⟨by rfl, rfl⟩) (by assumption) ?_
      simp only [Act.put, uA, uB, uC]
      refine take_at (i := 11) rfl (by kernel_rfl) (by kernel_rfl) (by kernel_rfl) (fun _ _ _ h => h) (Or.inr ⟨by rfl, rfl⟩) (by assumption) ?_
      simp only [Act.put, uA, uB, uC]
      refine take_at (i := 12) rfl (by kernel_rfl) (by kernel_rfl) (by kernel_rfl) (fun _ _ _ h => h) (Or.inr ⟨by rfl, rfl⟩) (by assumption) ?_
      simp only [Act.put, uA, uB, uC]
      refine take_at (i := 13) (v := ?v13_10) rfl (by kernel_rfl) (by kernel_rfl) (by kernel_rfl) (fun _ _ _ h => h) (Or.inl ⟨by rfl, ?y13_10⟩) (by assumption) ?r13_10
      case y13_10 => (intro w hSw; (try dsimp only at hSw); go_simp; (try with_reducible rfl))
      simp only [Act.put, uA, uB, uC]
      refine ready_at (i := 14) rfl (by kernel_rfl) (fun K hK => ?_)
      go_simp
      refine hK.out _ _ ?_ (fun hHeld => ?_)
      · exact pair1 KX4.out.drew KY4.out.drew ne12.out
      clear hK K
      (try simp only [Act.put, uA, uB, uC])
      refine ready_at (i := 15) rfl (by kernel_rfl) (fun K hK => ?_)
      go_simp
      refine hK.out _ _ ?_ (fun hHeld => ?_)
      · exact pair2 KX4.out.drew KY4.out.drew ne12.out
      clear hK K
      (try simp only [Act.put, uA, uB, uC])
      refine take_at (i := 16) (v := ?v16_10) rfl (by kernel_rfl) (by kernel_rfl) (by kernel_rfl) (fun _ _ _ h => h) (Or.inl ⟨by rfl, ?y16_10⟩) (by assumption) ?r16_10
      case y16_10 => (intro w hSw; (try dsimp only at hSw); go_simp; (try with_reducible rfl))
      simp only [Act.put, uA, uB, uC]
      refine wpAnyH_done (by kernel_rfl) ?_ _
      obtain ⟨z0, z1, z2, z3⟩ := pair2 KX4.out KY4.out ne12.out
      go_wp2_with fail
      exact bodyPost_ret (v := .tuple #[.agg #[.int .i64 a, .int .i64 b], .agg #[.int .i64 c, .int .i64 d], .bool false]) (by simp [results, Tryz.results210, go_sem, z0, z1, z2, z3]) rfl
        ⟨rfl, (below_set (below_set (below_set (below_set B4.out (by omega) _ _) (by omega) _ _) (by omega) _ _) (by omega) _ _).drew⟩
end Go.Proofs.YtikfjmdeeknalaaGreatDoor
