/- The walks of frac's copyOf, timesSign and divided. Conditions: sizes. -/
import Derived.Test.YtikfjmdeeknalaaGreatDoorQ8
namespace Go.Proofs.YtikfjmdeeknalaaGreatDoor
set_option maxRecDepth 20000
open Go.RowKit

theorem step_append_run {P : Program} {w w' : World} {ops : Array Oper} {o : Oper} {a : Act} {K : Act → World → Prop} {Q : Exit → Act → World → Prop} {E : Prop} (hgd : o.guard = none) (s x : Operand) {t : TypeId}
    (ho : o.op = .call { callee := .builtin .append, args := #[s, x], argTypes := #[t, t] }) {v1 v2 v' : Value} (hs : a.eval s = v1) (hx : a.eval x = v2) (hrun : (Builtin.append_ #[t, t] o.type #[v1, v2]).run P w = .ok v' w') (h : K (a.put o.dst v') w') :
    if Region.wanted o (yielded ops a.tmps) = true then Oper.wp P o a w K Q else E := by
  have hw : Region.wanted o (yielded ops a.tmps) = true := by simp [Region.wanted, hgd]
  rw [if_pos hw]
  unfold Oper.wp execOp
  simp only [ho, resolve, invoke, builtin, Sem.run_bind, Sem.run_pure, Result.andThen_ok, List.map_toArray, List.map_cons, List.map_nil, hs, hx, hrun]
  exact h
theorem EndF.alloc {w w' : World} {k : Nat} {x : Int} {e : Ending} (h : EndF w k x e w') (o : Obj) : EndF w k x e (w'.alloc o) := by
  obtain ⟨s, A, n, c, rfl, hc, hg, hf, hb⟩ := h
  exact ⟨s, A, n, c, rfl, hc, hg.past ((Below.refl _ _).alloc (Nat.le_refl _) o), hf, hb.alloc hb.size o⟩
/-- The result's box of an integer is filled. -/
theorem big_end {w W w1 : World} {g k : Nat} {t : TypeId} {o1 o2 : Value} {x s : Int} {A : Option Addr} {n c : Nat} (h : Blk w1 g t #[o1, o2]) (hg : w.heap.size ≤ g) (hW : g < W.heap.size) (hb : Below w.heap.size w w1)
    (b : Bg w1 k x s A n) (f : Fresh W A n) (hc : n ≤ c) :
    ∃ wf, wf = (w1.setCell ⟨g, 0, none⟩ (.int .i64 s)).setCell ⟨g, 1, none⟩ (.slice A n c) ∧ wf.cell? ⟨g, 0, none⟩ = some (.int .i64 s) ∧ wf.cell? ⟨g, 1, none⟩ = some (.slice A n c) ∧
      EndF w k x (.returned (.agg #[.int .i64 s, .slice A n c])) wf := by
  have K := (h.set_ 0 (.int .i64 s)).set_ 1 (.slice A n c)
  have gr := only_setCell (p := ⟨g, 1, none⟩) (only_setCell (p := ⟨g, 0, none⟩) (grown_refl w1 (some g)) (.inl rfl) (.int .i64 s)) (.inl rfl) (.slice A n c)
  refine ⟨_, rfl, K.cell 0, K.cell 1, s, A, n, c, rfl, hc, ?_, fun hp ad e => Nat.le_trans (by omega) (f hp ad e), ?_⟩
  · exact b.apart gr (fun hp ad e => by have := f hp ad e; omega)
  · exact below_set (below_set hb hg _ _) hg _ _
theorem big_end2 {w W w1 : World} {g k : Nat} {t : TypeId} {o1 o2 : Value} {x s : Int} {A : Option Addr} {n c : Nat} (h : Blk w1 g t #[o1, o2]) (hg : w.heap.size ≤ g) (hW : g < W.heap.size) (hb : Below w.heap.size w w1)
    (b : Bg w1 k x s A n) (f : Fresh W A n) (hc : n ≤ c) (o o' : Obj) :
    ∃ wf, wf = (((w1.setCell ⟨g, 0, none⟩ (.int .i64 s)).setCell ⟨g, 1, none⟩ (.slice A n c)).alloc o).alloc o' ∧ wf.cell? ⟨g, 0, none⟩ = some (.int .i64 s) ∧ wf.cell? ⟨g, 1, none⟩ = some (.slice A n c) ∧
      EndF w k x (.returned (.agg #[.int .i64 s, .slice A n c])) wf := by
  obtain ⟨wf, rfl, k0, k1, kE⟩ := big_end h hg hW hb b f hc
  exact ⟨_, rfl, alc (alc k0), alc (alc k1), (kE.alloc o).alloc o'⟩
section
variable {w : World} {j k : Nat} {x y s1 s2 : Int} {A1 A2 : Option Addr} {n1 n2 : Nat}
set_option maxHeartbeats 4000000 in
theorem copyOf_F (h1 : Bg w k x s1 A1 n1) (hk : k ≤ 1048576) (c1 : Nat) :
    Calls Tryz.prog 163 #[.agg #[.int .i64 s1, .slice A1 n1 c1]] w (EndF w k x) := by
  obtain ⟨W1, hW1⟩ : ∃ W1, W1 = (w.alloc (.cells #[.int .i64 s1, .slice A1 n1 c1] 24)).alloc (.cells #[.int .i64 0, .slice none 0 0] 24) := ⟨_, rfl⟩
  have HB : Hid (Below w.heap.size w W1) := by show Below _ _ _; rw [hW1]; exact ((Below.refl _ _).alloc (Nat.le_refl _) _).alloc (by simp) _
  have KA : Hid (Blk W1 w.heap.size 24 #[.int .i64 s1, .slice A1 n1 c1]) := by show Blk _ _ _ _; rw [hW1]; exact (Blk.new w _ _).alloc _
  have KB : Hid (Blk W1 (w.heap.size + 1) 24 #[.int .i64 0, .slice none 0 0]) := by
    show Blk _ _ _ _
    rw [hW1]
    have := Blk.new (w.alloc (.cells #[.int .i64 s1, .slice A1 n1 c1] 24)) 24 #[.int .i64 0, .slice none 0 0]
    simpa using this
  have hn := h1.len
  obtain ⟨hz, l, hl, hr, hm⟩ := h1
  have hR : Reads W1.drew W1.heap.size 1 A1 n1 (dv l) := ((hm.past HB.out).here).drew
  obtain ⟨i0, hi, hz0, hz1, hz2⟩ := info_parts infoD
  obtain ⟨v', w5, hrun, h2, h3, h4⟩ := run_append_any (P := Tryz.prog) W1.drew 0 22 22 3 i0 _ 1 8 Tryz.underlying22 hi hz0 hz1 hz2 rfl (by decide) (.slice none 0 0) 0 [] ⟨by simp, .inl ⟨rfl, rfl⟩⟩ _ A1 n1 c1 (dv l) hR (dv_one _) (by unfold maxLen; omega) (by omega) (Nat.zero_le _)
  have hD : Digits W1.drew l (.returned v') w5 := Digits.of_own hl (by simpa using h2) ((Below.refl _ _).grown h3 (Nat.le_refl _) (by simp [Value.ownBlock])) (fun g e => by
    rcases h4 with h4 | h4
    · rw [h4] at e; cases e
    · rw [h4] at e; cases e; exact Nat.le_refl _)
  obtain ⟨A', c', e', hc', hrd, hdig, hb'⟩ := hD
  cases e'
  rw [hl] at hc' hrd hrun
  have K5 := Lib.hid (KB.out.drew.below hb' KB.out.lt)
  have KA5 := Lib.hid (KA.out.drew.below hb' KA.out.lt)
  have HB5 : Hid (Below w.heap.size w w5) := HB.out.drew.trans (hb'.mono HB.out.size)
  have HG : Hid (Bg w5 k x s1 A' n1) := ⟨hz, l, hl, hr, hrd⟩
  have HF : Hid (Fresh W1 A' n1) := fun hp ad e => by obtain ⟨g, e2, hg, -⟩ := hdig (by omega); rw [e2] at e; cases e; exact hg
  have HR := Lib.hid hrun
  have HC := Lib.hid hc'
  obtain ⟨wf, hwf, k0, k1, kE⟩ := big_end K5.out (by omega) KB.out.lt HB5.out HG.out HF.out HC.out
  have HWF := Lib.hid hwf
  have HE := Lib.hid kE
  obtain ⟨ka0, ka1, -, -⟩ := sm_cells KA.out
  obtain ⟨kb0, kb1, kb2, kb3⟩ := sm_cells K5.out
  obtain ⟨kc0, kc1, -, -⟩ := sm_cells KA5.out
  have kc2 : wf.cell? ⟨w.heap.size, 0, none⟩ = some (.int .i64 s1) ∧ wf.cell? ⟨w.heap.size, 1, none⟩ = some (.slice A1 n1 c1) := by
    rw [hwf]
    exact ⟨stc (stc kc0 (by dsimp only; omega)) (by dsimp only; omega), stc (stc kc1 (by dsimp only; omega)) (by dsimp only; omega)⟩
  rw [hwf] at kc2
  clear hz hl hr hm hR hn hk hi hz0 hz1 hz2 h2 h3 h4 hc' hrd hdig hb' hrun hwf kE KA KA5 KB HB HB5 HG HF K5 HC i0
  go_enter Tryz.func163, Tryz.ntmps163
  go_wp2_with fail
  rw [← hW1]
  clear hW1
  go_region_held3 (fun w' => w'.cell? ⟨w.heap.size, 0, none⟩ = some (.int .i64 s1) ∧ w'.cell? ⟨w.heap.size, 1, none⟩ = some (.slice A1 n1 c1))
    (first | exact ⟨ka0, ka1⟩ | exact ⟨kc0, kc1⟩ | exact kc2)
    (refine step_append_run rfl _ _ rfl (by rfl) (by rfl) HR.out ?_)
  go_wp2_with fail
  rw [← HWF.out]
  exact bodyPost_ret (v := .agg #[.int .i64 s1, .slice A' n1 c']) (by simp [results, Tryz.results163, go_sem, k0, k1]) rfl HE.out
theorem Bg.sign_neg {s : Int} (h : Bg w k x s A1 n1) : Bg w k (-x) (-s) A1 n1 := by
  obtain ⟨hz, l, hl, hr, hm⟩ := h
  exact ⟨hz.neg, l, hl, hr.neg, hm⟩
/-- How a division ends, its remainder left out. -/
def DivG (w : World) (j : Nat) (x y : Int) (e : Ending) (w' : World) : Prop := ∃ q r s A n c s' A' n' c', e = .returned (.tuple #[.agg #[.int .i64 s, .slice A n c], .agg #[.int .i64 s', .slice A' n' c'], .int .i64 0]) ∧ n ≤ c ∧ FloorP x y q r ∧ Bg w' j q s A n ∧ Fresh w A n ∧ Below w.heap.size w w'
theorem div_G (h1 : Bg w j x s1 A1 n1) (h2 : Bg w k y s2 A2 n2) (hy : y ≠ 0) (hj : j ≤ 1000000) (hk : k ≤ 1000000) (c1 c2 : Nat) :
    Calls Tryz.prog 22 #[.agg #[.int .i64 s1, .slice A1 n1 c1], .agg #[.int .i64 s2, .slice A2 n2 c2]] w (DivG w j x y) := by
  have e1 := h1.len
  have e2 := h2.len
  obtain ⟨z1, l1, g1, r1, m1⟩ := h1
  obtain ⟨z2, l2, g2, r2, m2⟩ := h2
  refine (Div_any s1 s2 A1 A2 n1 n2 c1 c2 _ _ l1 l2 x y w m1 m2 r1 r2 hy (by omega) (by omega)).mono ?_
  rintro e w' ⟨q, r, s, l, A, c, s', l', A', c', rfl, hv, hr, hr', hc, hc', hR, hR', hb, hf⟩
  obtain ⟨f1, f2⟩ := floor_sz hv hy
  exact ⟨q, r, s, A, l.length, c, s', A', l'.length, c', rfl, hc, hv, ⟨z1.of_le f1, l, rfl, hr, hR⟩, hf, hb⟩
set_option maxHeartbeats 4000000 in
theorem divided_F {z : Int} (h1 : Bg w j x s1 A1 n1) (h2 : Bg w k y s2 A2 n2) (hy : y ≠ 0) (hj : j ≤ 1000000) (hk : k ≤ 1000000) (c1 c2 : Nat) (hz : ∀ q r, FloorP x y q r → q = z) :
    Calls Tryz.prog 156 #[.agg #[.int .i64 s1, .slice A1 n1 c1], .agg #[.int .i64 s2, .slice A2 n2 c2]] w (EndF w j z) := by
  have S := Lib.hid (two_res h1 h2 c1 c2)
  have G1 := Lib.hid (S.out.bx _ (List.mem_of_getElem? (i := 1) rfl)).2
  have G2 := Lib.hid (S.out.bx _ (List.mem_of_getElem? (i := 2) rfl)).2
  have KR := Lib.hid (S.out.bx _ List.mem_cons_self).1
  have KA := Lib.hid (S.out.bx _ (List.mem_of_getElem? (i := 1) rfl)).1
  have KB := Lib.hid (S.out.bx _ (List.mem_of_getElem? (i := 2) rfl)).1
  have SB := Lib.hid S.out.bl
  dsimp only at G1 G2 KR KA KB
  clear h1 h2 S
  by_cases h1 : y = 1
  · have hx : Hid (x = z) := by
      show _ = _
      refine hz x 0 ⟨by rw [h1]; omega, fun _ => by omega, fun h => by omega⟩
    have I := Lib.hid (isOne_any G2.out c2 (decide_eq_true h1))
    clear hz hy h1 G2 KB
    go_enter Tryz.func156, Tryz.ntmps156
    go_wp2_with fail
    refine I.out.mono ?_
    rintro e w1 ⟨rfl, hb⟩
    have B1 := Lib.hid hb
    obtain ⟨ka0, ka1, -, -⟩ := sm_cells (KA.out.below hb KA.out.lt)
    clear hb I
    go_wp2_with fail
    refine (copyOf_F (G1.out.past B1.out) (by omega) c1).mono ?_
    rintro e w2 ⟨s, A, n, c, rfl, hc, hg, hf, hb⟩
    have K2 := Lib.hid ((KR.out.below B1.out KR.out.lt).below hb (KR.out.below B1.out KR.out.lt).lt)
    have HB : Hid (Below w.heap.size w w2) := SB.out.trans ((B1.out.trans (hb.mono B1.out.size)).mono SB.out.size)
    have HC := Lib.hid hc
    rw [hx.out] at hg
    have HG := Lib.hid hg
    have HF := Lib.hid hf
    have hlt := Lib.hid (KR.out.below B1.out KR.out.lt).lt
    obtain ⟨kr0, kr1, kr2, kr3⟩ := sm_cells K2.out
    clear hb hc hg hf B1 SB KR KA G1
    obtain ⟨wf, hwf, k0, k1, kE⟩ := big_end K2.out (by omega) hlt.out HB.out HG.out HF.out HC.out
    have HE := Lib.hid kE
    clear kE
    go_wp2_with fail
    rw [← hwf]
    clear hwf
    exact bodyPost_ret (v := .agg #[.int .i64 s, .slice A n c]) (by simp [results, Tryz.results156, go_sem, k0, k1]) rfl HE.out
  · have I := Lib.hid (isOne_any G2.out c2 (decide_eq_false h1))
    have HY := Lib.hid hy
    have HZ := Lib.hid hz
    clear hz hy h1
    go_enter Tryz.func156, Tryz.ntmps156
    go_wp2_with fail
    refine I.out.mono ?_
    rintro e w1 ⟨rfl, hb⟩
    have B1 := Lib.hid hb
    obtain ⟨ka0, ka1, -, -⟩ := sm_cells (KA.out.below hb KA.out.lt)
    obtain ⟨kb0, kb1, -, -⟩ := sm_cells (KB.out.below hb KB.out.lt)
    clear hb I
    go_wp2_with fail
    refine (div_G (G1.out.past B1.out) (G2.out.past B1.out) HY.out (by omega) (by omega) c1 c2).mono ?_
    rintro e w2 ⟨q, r, s, A, n, c, s', A', n', c', rfl, hc, hv, hg, hf, hb⟩
    have K2 := Lib.hid ((KR.out.below B1.out KR.out.lt).below hb (KR.out.below B1.out KR.out.lt).lt)
    have HB : Hid (Below w.heap.size w w2) := SB.out.trans ((B1.out.trans (hb.mono B1.out.size)).mono SB.out.size)
    have HC := Lib.hid hc
    rw [HZ.out q r hv] at hg
    have HG := Lib.hid hg
    have HF := Lib.hid hf
    have hlt := Lib.hid (KR.out.below B1.out KR.out.lt).lt
    obtain ⟨kr0, kr1, kr2, kr3⟩ := sm_cells K2.out
    have hlt2 : w.heap.size + 1 + 1 < w2.heap.size := K2.out.lt
    have hlt3 : w.heap.size + 1 + 1 < w2.heap.size + 1 := by omega
    clear hb hc hg hf hv B1 SB KR KA KB G1 G2 HY HZ
    obtain ⟨wf, hwf, k0, k1, kE⟩ := big_end2 K2.out (by omega) hlt.out HB.out HG.out HF.out HC.out (.cells #[.int .i64 s, .slice A n c] 24) (.cells #[.int .i64 s', .slice A' n' c'] 24)
    have HE := Lib.hid kE
    clear kE
    go_wp2_with fail
    rw [← hwf]
    clear hwf
    exact bodyPost_ret (v := .agg #[.int .i64 s, .slice A n c]) (by simp [results, Tryz.results156, go_sem, k0, k1]) rfl HE.out
end
end Go.Proofs.YtikfjmdeeknalaaGreatDoor
