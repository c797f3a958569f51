/- The walks of linear's copyOfBig and copyOf. Conditions: sizes. -/
import Derived.Test.YtikfjmdeeknalaaGreatDoorW3
import Derived.Test.YtikfjmdeeknalaaGreatDoorV4
import Derived.Laws.MakeOwn
import Derived.Lib.AppendZerosOnto
namespace Go.Proofs.YtikfjmdeeknalaaGreatDoor
set_option maxRecDepth 20000
open Go.RowKit

/-- The result's box of an integer is filled. -/
theorem big_fill {w W w1 : World} {g k : Nat} {t : TypeId} {o1 o2 : Value} {x s : Int} {A : Option Addr} {n c : Nat} (h : Blk w1 g t #[o1, o2]) (hg : w.heap.size ≤ g) (hW : g < W.heap.size) (hb : Below w.heap.size w w1) (b1 : Bg w1 k x s A n) (f1 : Fresh W A n) (hc : n ≤ c) :
    ∃ wf, wf = (w1.setCell ⟨g, 0, none⟩ (.int .i64 s)).setCell ⟨g, 1, none⟩ (.slice A n c) ∧ wf.cell? ⟨g, 0, none⟩ = some (.int .i64 s) ∧ wf.cell? ⟨g, 1, none⟩ = some (.slice A n c) ∧ EndF w k x (.returned (.agg #[.int .i64 s, .slice A n c])) wf := by
  have K := (h.set_ 0 (.int .i64 s)).set_ 1 (.slice A n c)
  have gr := only_setCell (p := ⟨g, 1, none⟩) (only_setCell (p := ⟨g, 0, none⟩) (grown_refl w1 (some g)) (.inl rfl) (.int .i64 s)) (.inl rfl) (.slice A n c)
  exact ⟨_, rfl, K.cell 0, K.cell 1, s, A, n, c, rfl, hc, b1.apart gr (fun hp ad e => by have := f1 hp ad e; omega), fun hp ad e => Nat.le_trans (by omega) (f1 hp ad e), (hb.setCell (p := ⟨g, 0, none⟩) hg _).setCell (p := ⟨g, 1, none⟩) hg _⟩
/-- How a function that returns a term ends. -/
def TmEnd (w : World) (k : Nat) (v : Int) (x : Rat) (e : Ending) (w' : World) : Prop := ∃ r : FrR, e = .returned (.agg #[.int .i64 v, .int .i64 r.s1, .slice r.A1 r.n1 r.c1, .int .i64 r.s2, .slice r.A2 r.n2 r.c2]) ∧ r.n1 ≤ r.c1 ∧ r.n2 ≤ r.c2 ∧ Fg w' k x r ∧ Fresh w r.A1 r.n1 ∧ Fresh w r.A2 r.n2 ∧ Below w.heap.size w w'
/-- The result's box of a term is filled. -/
theorem tm_end {w W w1 : World} {g k : Nat} {t : TypeId} {o0 o1 o2 o3 o4 : Value} {v : Int} {x : Rat} {r : FrR} (h : Blk w1 g t #[o0, o1, o2, o3, o4]) (hg : w.heap.size ≤ g) (hW : g < W.heap.size) (hb : Below w.heap.size w w1)
    (hf : Fg w1 k x r) (f1 : Fresh W r.A1 r.n1) (f2 : Fresh W r.A2 r.n2) (hc1 : r.n1 ≤ r.c1) (hc2 : r.n2 ≤ r.c2) :
    ∃ wf, wf = ((((w1.setCell ⟨g, 0, none⟩ (.int .i64 v)).setCell ⟨g, 1, none⟩ (.int .i64 r.s1)).setCell ⟨g, 2, none⟩ (.slice r.A1 r.n1 r.c1)).setCell ⟨g, 3, none⟩ (.int .i64 r.s2)).setCell ⟨g, 4, none⟩ (.slice r.A2 r.n2 r.c2) ∧
      (wf.cell? ⟨g, 0, none⟩ = some (.int .i64 v) ∧ wf.cell? ⟨g, 1, none⟩ = some (.int .i64 r.s1) ∧ wf.cell? ⟨g, 2, none⟩ = some (.slice r.A1 r.n1 r.c1) ∧ wf.cell? ⟨g, 3, none⟩ = some (.int .i64 r.s2) ∧ wf.cell? ⟨g, 4, none⟩ = some (.slice r.A2 r.n2 r.c2)) ∧
      TmEnd w k v x (.returned (.agg #[.int .i64 v, .int .i64 r.s1, .slice r.A1 r.n1 r.c1, .int .i64 r.s2, .slice r.A2 r.n2 r.c2])) wf := by
  have K := ((((h.set_ 0 (.int .i64 v)).set_ 1 (.int .i64 r.s1)).set_ 2 (.slice r.A1 r.n1 r.c1)).set_ 3 (.int .i64 r.s2)).set_ 4 (.slice r.A2 r.n2 r.c2)
  have gr := only_setCell (p := ⟨g, 4, none⟩) (only_setCell (p := ⟨g, 3, none⟩) (only_setCell (p := ⟨g, 2, none⟩) (only_setCell (p := ⟨g, 1, none⟩) (only_setCell (p := ⟨g, 0, none⟩) (grown_refl w1 (some g)) (.inl rfl) (.int .i64 v)) (.inl rfl) (.int .i64 r.s1)) (.inl rfl) (.slice r.A1 r.n1 r.c1)) (.inl rfl) (.int .i64 r.s2)) (.inl rfl) (.slice r.A2 r.n2 r.c2)
  exact ⟨_, rfl, ⟨K.cell 0, K.cell 1, K.cell 2, K.cell 3, K.cell 4⟩, r, rfl, hc1, hc2, Fo.apart hf (off_old f1 f2 hW) gr, fun hp ad e => Nat.le_trans (by omega) (f1 hp ad e), fun hp ad e => Nat.le_trans (by omega) (f2 hp ad e), ((((hb.setCell (p := ⟨g, 0, none⟩) hg _).setCell (p := ⟨g, 1, none⟩) hg _).setCell (p := ⟨g, 2, none⟩) hg _).setCell (p := ⟨g, 3, none⟩) hg _).setCell (p := ⟨g, 4, none⟩) hg _⟩
section
variable {k n : Nat} {A : Option Addr} {x s : Int} {w : World}
theorem clone_F (h1 : Bg w k x s A n) (hk : k ≤ 1048576) (c : Nat) :
    Calls Tryz.prog 142 #[.slice A n c] w fun e w' => ∃ A' c', e = .returned (.slice A' n c') ∧ n ≤ c' ∧ Bg w' k x s A' n ∧ Fresh w A' n ∧ Below w.heap.size w w' := by
  have hn := h1.len
  obtain ⟨hz, l, hl, hr, hm⟩ := h1
  refine (cloneD_any A n c _ l w hm (by omega)).mono ?_
  rintro e w1 ⟨A', c', rfl, hc', hrd, hdig, hb⟩
  rw [hl] at hc' hrd hdig ⊢
  refine ⟨A', c', rfl, hc', ⟨hz, l, hl, hr, hrd⟩, fun hp ad e => ?_, hb⟩
  obtain ⟨g, e2, hg, -⟩ := hdig hp
  rw [e2] at e
  cases e
  exact hg
set_option maxHeartbeats 4000000 in
theorem copyBig_F (h1 : Bg w k x s A n) (hk : k ≤ 1048576) (c : Nat) :
    Calls Tryz.prog 219 #[.agg #[.int .i64 s, .slice A n c]] w (EndF w k x) := by
  obtain ⟨W0, hW0⟩ : ∃ W0, W0 = (w.alloc (.cells #[.int .i64 s, .slice A n c] 24)).alloc (.cells #[.int .i64 0, .slice none 0 0] 24) := ⟨_, rfl⟩
  have HB0 : Hid (Below w.heap.size w W0) := by show Below _ _ _; rw [hW0]; exact bal (bal (Below.refl _ _))
  have KA : Hid (Blk W0 w.heap.size 24 #[.int .i64 s, .slice A n c]) := by show Blk _ _ _ _; rw [hW0]; exact (Blk.new _ _ _).alloc _
  have KB : Hid (Blk W0 (w.heap.size + 1) 24 #[.int .i64 0, .slice none 0 0]) := by show Blk _ _ _ _; rw [hW0]; exact Blk.new_ (by simp)
  have C := Lib.hid (clone_F (h1.past (HB0.out.trans ((bdr W0).mono HB0.out.size))) hk c)
  obtain ⟨z0, z1⟩ := sy_cells KA.out
  have HS : Hid (∀ w', Below W0.heap.size W0 w' → w'.cell? ⟨w.heap.size, 0, none⟩ = some (.int .i64 s) ∧ w'.cell? ⟨w.heap.size, 1, none⟩ = some (.slice A n c)) := fun w' hb => ⟨cell_on hb z0, cell_on hb z1⟩
  clear h1
  go_enter Tryz.func219, Tryz.ntmps219
  go_upto_region 1 with (fail)
  rw [← hW0]
  clear hW0
  go_region_held3 (fun w' => w'.cell? ⟨w.heap.size, 0, none⟩ = some (.int .i64 s) ∧ w'.cell? ⟨w.heap.size, 1, none⟩ = some (.slice A n c))
    (first | exact HS.out _ (bdr W0) | exact HS.out _ B1.out | exact HS.out _ ((B1.out.setCell (p := ⟨w.heap.size + 1, 0, none⟩) (Nat.le_refl _) _).setCell (p := ⟨w.heap.size + 1, 1, none⟩) (Nat.le_refl _) _) | exact ⟨q0.out, q1.out⟩)
    (first | (go_at_call 142; refine C.out.mono ?_; rintro e w1 ⟨A', c', rfl, hc, hg, hf, hb⟩; have B1 := Lib.hid ((bdr W0).trans hb); have HC := Lib.hid hc; have HG := Lib.hid hg; have HF := Lib.hid hf; have K1 := Lib.hid (KB.out.below B1.out KB.out.lt); obtain ⟨y0, y1, y2, y3⟩ := sm_cells K1.out; have q0 := Lib.hid ((stc (stc (q := ⟨w.heap.size + 1, 0, none⟩) (u := .int .i64 s) (cell_on B1.out z0) (by show w.heap.size ≠ w.heap.size + 1; omega) (v := .int .i64 s)) (q := ⟨w.heap.size + 1, 1, none⟩) (v := .slice A' n c') (by show w.heap.size ≠ w.heap.size + 1; omega))); have q1 := Lib.hid ((stc (stc (q := ⟨w.heap.size + 1, 0, none⟩) (cell_on B1.out z1) (by show w.heap.size ≠ w.heap.size + 1; omega) (v := .int .i64 s)) (q := ⟨w.heap.size + 1, 1, none⟩) (v := .slice A' n c') (by show w.heap.size ≠ w.heap.size + 1; omega))); clear hc hg hf hb))
  all_goals
    obtain ⟨wf, hwf, r0, r1, kE⟩ := big_fill K1.out (by omega) KB.out.lt (HB0.out.trans (B1.out.mono HB0.out.size)) HG.out HF.out HC.out
    have HE := Lib.hid kE
    clear kE
    go_wp2_with fail
    rw [← hwf]
    clear hwf
    exact bodyPost_ret (v := .agg #[.int .i64 s, .slice A' n c']) (by simp [results, Tryz.results219, go_sem, r0, r1]) rfl HE.out
end
section
variable {k : Nat} {v : Int} {x : Rat} {w : World}
theorem cell_low {B : Nat} {w w' : World} (hb : Below B w w') {p : Addr} {u : Value} (h : w.cell? p = some u) (hp : p.block < B) : w'.cell? p = some u := (hb.cell hp).trans h
set_option maxHeartbeats 8000000 in
theorem copyOf_T (r : FrR) (h : Fg w k x r) (hk : k ≤ 100000) :
    Calls Tryz.prog 177 #[.agg #[.int .i64 v, .int .i64 r.s1, .slice r.A1 r.n1 r.c1, .int .i64 r.s2, .slice r.A2 r.n2 r.c2]] w (TmEnd w k v x) := by
  obtain ⟨s1, A1, n1, c1, s2, A2, n2, c2⟩ := r
  obtain ⟨W0, hW0⟩ : ∃ W0, W0 = (w.alloc (.cells #[.int .i64 v, .int .i64 s1, .slice A1 n1 c1, .int .i64 s2, .slice A2 n2 c2] 142)).alloc (.cells #[.int .i64 0, .int .i64 0, .slice none 0 0, .int .i64 0, .slice none 0 0] 142) := ⟨_, rfl⟩
  have HB0 : Hid (Below w.heap.size w W0) := by show Below _ _ _; rw [hW0]; exact bal (bal (Below.refl _ _))
  have KA : Hid (Blk W0 w.heap.size 142 #[.int .i64 v, .int .i64 s1, .slice A1 n1 c1, .int .i64 s2, .slice A2 n2 c2]) := by show Blk _ _ _ _; rw [hW0]; exact (Blk.new _ _ _).alloc _
  have KB : Hid (Blk W0 (w.heap.size + 1) 142 #[.int .i64 0, .int .i64 0, .slice none 0 0, .int .i64 0, .slice none 0 0]) := by show Blk _ _ _ _; rw [hW0]; exact Blk.new_ (by simp)
  have C1 := Lib.hid (copyBig_F (h.1.past (HB0.out.trans ((bdr W0).mono HB0.out.size))) (by omega) c1)
  have C2 := Lib.hid (fun W (hb : Below W0.heap.size W0 W) => copyBig_F (h.2.past (HB0.out.trans (hb.mono HB0.out.size))) (by omega) c2)
  dsimp only at C1 C2
  obtain ⟨z0, z1, z2, z3, z4⟩ := tm_cells KA.out
  have HS : Hid (∀ w', Below (w.heap.size + 1) W0 w' → w'.cell? ⟨w.heap.size, 0, none⟩ = some (.int .i64 v) ∧ w'.cell? ⟨w.heap.size, 1, none⟩ = some (.int .i64 s1) ∧ w'.cell? ⟨w.heap.size, 2, none⟩ = some (.slice A1 n1 c1) ∧ w'.cell? ⟨w.heap.size, 3, none⟩ = some (.int .i64 s2) ∧ w'.cell? ⟨w.heap.size, 4, none⟩ = some (.slice A2 n2 c2)) :=
    fun w' hb => ⟨cell_low hb z0 (by simp), cell_low hb z1 (by simp), cell_low hb z2 (by simp), cell_low hb z3 (by simp), cell_low hb z4 (by simp)⟩
  have HL : Hid (w.heap.size + 1 ≤ W0.heap.size) := Nat.le_of_lt KB.out.lt
  clear h
  go_enter Tryz.func177, Tryz.ntmps177
  go_upto_region 1 with (fail)
  rw [← hW0]
  clear hW0
  go_region_held3 (fun w' => w'.cell? ⟨w.heap.size, 0, none⟩ = some (.int .i64 v) ∧ w'.cell? ⟨w.heap.size, 1, none⟩ = some (.int .i64 s1) ∧ w'.cell? ⟨w.heap.size, 2, none⟩ = some (.slice A1 n1 c1) ∧ w'.cell? ⟨w.heap.size, 3, none⟩ = some (.int .i64 s2) ∧ w'.cell? ⟨w.heap.size, 4, none⟩ = some (.slice A2 n2 c2))
    (first | exact HS.out _ ((bdr W0).mono HL.out) | with_reducible exact HS.out _ (B1.out.mono HL.out) | with_reducible exact HS.out _ (B2.out.mono HL.out) | exact HS.out _ (((((((B2.out.mono HL.out).setCell (p := ⟨w.heap.size + 1, 0, none⟩) (Nat.le_refl _) _).setCell (p := ⟨w.heap.size + 1, 1, none⟩) (Nat.le_refl _) _).setCell (p := ⟨w.heap.size + 1, 2, none⟩) (Nat.le_refl _) _).setCell (p := ⟨w.heap.size + 1, 3, none⟩) (Nat.le_refl _) _).setCell (p := ⟨w.heap.size + 1, 4, none⟩) (Nat.le_refl _) _)))
    (first | (go_at_call_of 219 (Value.agg #[.int .i64 s1, .slice A1 n1 c1]); refine C1.out.mono ?_; rintro e w1 ⟨s5, A5, n5, c5, rfl, hc, hg, hf, hb⟩; have B1 := Lib.hid ((bdr W0).trans hb); have HC1 := Lib.hid hc; have HG1 := Lib.hid hg; have HF1 : Hid (Fresh W0 A5 n5) := hf; clear hc hg hf hb) | (go_at_call_of 219 (Value.agg #[.int .i64 s2, .slice A2 n2 c2]); refine (C2.out _ B1.out).mono ?_; rintro e w2 ⟨s6, A6, n6, c6, rfl, hc, hg, hf, hb⟩; have B2 := Lib.hid (B1.out.trans (hb.mono B1.out.size)); have HC2 := Lib.hid hc; have HG2 : Hid (Fg w2 k x ⟨s5, A5, n5, c5, s6, A6, n6, c6⟩) := ⟨HG1.out.past hb, hg⟩; have HF2 := Lib.hid (Fresh.old hf B1.out.size); have K2 := Lib.hid (KB.out.below B2.out KB.out.lt); obtain ⟨y0, y1, y2, y3, y4⟩ := tm_cells K2.out; have y5 := K2.out.frozen 0; have y6 := K2.out.frozen 1; have y7 := K2.out.frozen 2; have y8 := K2.out.frozen 3; have y9 := K2.out.frozen 4; clear hc hg hf hb))
  all_goals
    obtain ⟨wf, hwf, ⟨r0, r1, r2, r3, r4⟩, kE⟩ := tm_end (v := v) K2.out (by omega) KB.out.lt (HB0.out.trans (B2.out.mono HB0.out.size)) HG2.out HF1.out HF2.out HC1.out HC2.out
    have HE := Lib.hid kE
    clear kE
    dsimp only at r0 r1 r2 r3 r4 hwf HE
    go_wp2_with fail
    rw [← hwf]
    clear hwf
    exact bodyPost_ret (v := .agg #[.int .i64 v, .int .i64 s5, .slice A5 n5 c5, .int .i64 s6, .slice A6 n6 c6]) (by simp [results, Tryz.results177, go_sem, r0, r1, r2, r3, r4]) rfl HE.out
end
end Go.Proofs.YtikfjmdeeknalaaGreatDoor

/- Lists that are joined; the walks of slices.Grow and slices.Concat at lists of terms. Conditions: lengths. -/
namespace Go.Proofs.YtikfjmdeeknalaaGreatDoor
set_option maxRecDepth 20000
open Go.RowKit

theorem infoTm : (Tryz.prog.info? 142).map (fun i => (i.zero, i.size, i.bytes)) = some (some (.agg #[.int .i64 0, .int .i64 0, .slice none 0 0, .int .i64 0, .slice none 0 0]), 5, 72) := by kernel_rfl
section
variable {α : Type} {El : World → α → List Value → Prop} {sz : Nat} {T : TypeId} {w0 w w' : World} {v : Value} {n : Nat} {l : List α}
/-- A slice as a row of cells. -/
theorem Els.flat {A : Option Addr} (h : Els El sz w A n l) (h1 : ∀ w a cs, El w a cs → ∀ u ∈ cs, u.oneCell' = true) : ∃ qs : List (List Value), qs.length = n ∧ Reads w w.heap.size sz A n qs.flatten ∧ (∀ u ∈ qs.flatten, u.oneCell' = true) ∧
    ∀ (i : Nat) (a : α), l[i]? = some a → ∃ cs, qs[i]? = some cs ∧ cs.length = sz ∧ El w a cs := by
  rcases Nat.eq_zero_or_pos n with h0 | h0
  · subst h0
    obtain rfl : l = [] := List.eq_nil_of_length_eq_zero h.1
    exact ⟨[], rfl, ⟨by simp, fun h => absurd h (by omega)⟩, (fun u hu => by simp at hu), (fun i a hi => by simp at hi)⟩
  obtain ⟨ad, e, hb, hc⟩ := h.2 h0
  obtain ⟨qs, q1, q2⟩ := pick_list (P := fun i a cs => cs.length = sz ∧ El w a cs ∧ ∀ j u, cs[j]? = some u → w.cell? (ad.add (i * sz + j)) = some u) l hc
  have hl : ∀ c ∈ qs, c.length = sz := fun c hm => by
    obtain ⟨i, hi⟩ := List.mem_iff_getElem?.1 hm
    obtain ⟨b, -, d1, -, -⟩ := q2 i c hi
    exact d1
  have hfl : qs.flatten.length = n * sz := by
    have : ∀ ps : List (List Value), (∀ c ∈ ps, c.length = sz) → ps.flatten.length = ps.length * sz := by
      intro ps
      induction ps with
      | nil => intro _; simp
      | cons p ps ih =>
        intro hp
        rw [List.flatten_cons, List.length_append, ih (fun c hc => hp c (List.mem_cons_of_mem _ hc)), hp p List.mem_cons_self, List.length_cons, Nat.succ_mul]
        omega
    rw [this qs hl, q1, h.1]
  refine ⟨qs, by rw [q1, h.1], ⟨hfl, fun _ => ⟨ad, e, hb, fun j u hu => ?_⟩⟩, fun u hu => ?_, fun i a hi => ?_⟩
  · have hjl := (List.getElem?_eq_some_iff.1 hu).1
    have hsz : 0 < sz := by
      rcases Nat.eq_zero_or_pos sz with e | e
      · rw [e] at hfl; omega
      · exact e
    have hdm := Nat.div_add_mod j sz
    have hi : j / sz < qs.length := by rw [q1, h.1]; exact Nat.div_lt_of_lt_mul (by rw [Nat.mul_comm]; omega)
    obtain ⟨b, -, d1, d2, d3⟩ := q2 (j / sz) _ (List.getElem?_eq_getElem hi)
    have hmod : j % sz < (qs[j / sz]'hi).length := by rw [d1]; exact Nat.mod_lt _ hsz
    have hf := flat_at qs (j / sz) (j % sz) _ _ hl (List.getElem?_eq_getElem hi) (List.getElem?_eq_getElem hmod)
    have hj : j / sz * sz + j % sz = j := by rw [Nat.mul_comm]; omega
    rw [hj, hu] at hf
    rw [← hj, hf]
    exact d3 _ _ (List.getElem?_eq_getElem hmod)
  · obtain ⟨c, hc1, hc2⟩ := List.mem_flatten.1 hu
    obtain ⟨i, hi⟩ := List.mem_iff_getElem?.1 hc1
    obtain ⟨b, -, -, d2, -⟩ := q2 i c hi
    exact h1 _ _ _ d2 u hc2
  · have hil : i < qs.length := by rw [q1]; exact (List.getElem?_eq_some_iff.1 hi).1
    obtain ⟨b, b1, d1, d2, -⟩ := q2 i _ (List.getElem?_eq_getElem hil)
    rw [hi] at b1
    cases b1
    exact ⟨_, List.getElem?_eq_getElem hil, d1, d2⟩
end
theorem TmEl.one {k : Nat} : ∀ (w : World) (a : Int × Option Rat) (cs : List Value), TmEl k w a cs → ∀ u ∈ cs, u.oneCell' = true := by
  rintro w a cs ⟨r, rfl, -⟩ u hu
  rcases List.mem_cons.1 hu with rfl | hu
  · rfl
  · exact frL_one r u hu
theorem FrEl.one {k : Nat} : ∀ (w : World) (a : Option Rat) (cs : List Value), FrEl k w a cs → ∀ u ∈ cs, u.oneCell' = true := by
  rintro w a cs ⟨r, rfl, -⟩ u hu
  exact frL_one r u hu
theorem RwEl.one {k : Nat} : ∀ (w : World) (a : RowP) (cs : List Value), RwEl k w a cs → ∀ u ∈ cs, u.oneCell' = true := by
  rintro w a cs ⟨A, n, c, f, rfl, -⟩ u hu
  rcases List.mem_cons.1 hu with rfl | hu
  · rfl
  rcases List.mem_cons.1 hu with rfl | hu
  · rfl
  · exact frL_one f u hu
section
variable {w : World}
/-- An empty row with room. -/
theorem own_room {w w0 : World} {T : TypeId} {sz g cap : Nat} {cur : Array Value} (hg : w.heap[g]? = some (.cells cur T (0, 0))) (hb : w0.heap.size ≤ g) (hc : cur.size = cap * sz) (hm : cap ≤ maxLen) : w.ownsRow w0.heap.size T sz (.slice (some ⟨g, 0, none⟩) 0 cap) 0 [] :=
  ⟨by simp, .inr ⟨g, cap, cur, rfl, hb, hg, Nat.zero_le _, hm, hc, by simp⟩⟩
set_option maxHeartbeats 4000000 in
theorem Grow_T (m : Nat) (hm : m ≤ 1000000) (w : World) :
    Calls Tryz.prog 220 #[.slice none 0 0, .int .i64 (m : Int)] w fun e w' => ∃ v, e = .returned v ∧ w'.ownsRow w.heap.size 142 5 v 0 [] ∧ Below w.heap.size w w' := by
  obtain ⟨i0, hi, hz0, hz1, hz2⟩ := info_parts infoTm
  have hw0 : IntKind.i64.wrap (m : Int) = (m : Int) := IntWalk.i64_in _ (by omega)
  rcases Nat.eq_zero_or_pos m with h0 | h0
  · subst h0
    go_enter Tryz.func220, Tryz.ntmps220
    go_wp2_with fail
    go_ret
    exact ⟨_, rfl, World.ownsRow_nil _ _ _ _, Below.refl _ _⟩
  · have hr := Lib.run_append_nil_zeros (P := Tryz.prog) w 59 3 59 142 i0 _ .i64 .i64 Tryz.underlying59 Tryz.underlying3 hi hz0 m h0 (by rw [hz1]; omega) (by omega) (by rw [hz2]; omega)
    have hge := grownCap_ge w m 0 142
    have hcm : grownCap w m 0 142 ≤ maxLen := grownCap_le_maxLen w m 0 142 (by unfold maxLen; omega)
    obtain ⟨cap, hcap⟩ : ∃ cap, grownCap w m 0 142 = cap := ⟨_, rfl⟩
    rw [hcap] at hr hge hcm
    obtain ⟨C, hC⟩ : ∃ C, Builtin.zeroCells (Value.cells (.agg #[.int .i64 0, .int .i64 0, .slice none 0 0, .int .i64 0, .slice none 0 0])) m ++ Builtin.zeroCells (Value.cells (.agg #[.int .i64 0, .int .i64 0, .slice none 0 0, .int .i64 0, .slice none 0 0])) (cap - m) = C := ⟨_, rfl⟩
    have hCs : C.size = cap * 5 := by
      rw [← hC, Array.size_append, size_zeroCells, size_zeroCells]
      simp [Value.cells]
      omega
    rw [hC] at hr
    obtain ⟨w1, hw1⟩ : ∃ w1, w1 = w.drew.alloc (.cells C 142) := ⟨_, rfl⟩
    rw [← hw1] at hr
    have HO : Hid (w1.ownsRow w.heap.size 142 5 (.slice (some ⟨w.heap.size, 0, none⟩) 0 cap) 0 []) := by show World.ownsRow _ _ _ _ _ _ _; rw [hw1]; exact own_room (w0 := w) (heap_alloc_new _ _) (Nat.le_refl _) hCs hcm
    have HB : Hid (Below w.heap.size w w1) := by show Below _ _ _; rw [hw1]; exact bal (bdr w)
    have HRn := Lib.hid hr
    have hmp : (0 : Int) < (m : Int) := by omega
    have hcp : (0 : Int) ≤ (cap : Int) := by omega
    clear hr hw1 hC hCs hcap hge hcm
    go_enter Tryz.func220, Tryz.ntmps220
    go_wp2_with (at_builtin; refine Lib.wpList_append_run _ rfl (.tmp 20) (.tmp 21) 59 3 rfl _ _ rfl rfl _ _ HRn.out ?_)
    go_wp2_with fail
    go_ret
    exact ⟨_, rfl, HO.out, HB.out⟩
end
end Go.Proofs.YtikfjmdeeknalaaGreatDoor

/- The walk of slices.Concat at two lists of terms. Conditions: lengths. -/
namespace Go.Proofs.YtikfjmdeeknalaaGreatDoor
set_option maxRecDepth 20000
open Go.RowKit

section
variable {n1 n2 g : Nat} {A1 A2 : Option Addr} {xs1 xs2 : List Value}
set_option maxHeartbeats 4000000 in
theorem Concat_R (c1 c2 : Nat) (w : World) (h1 : Reads w w.heap.size 5 A1 n1 xs1) (h2 : Reads w w.heap.size 5 A2 n2 xs2) (u1 : ∀ u ∈ xs1, u.oneCell' = true) (u2 : ∀ u ∈ xs2, u.oneCell' = true) (hg0 : w.cell? ⟨g, 0, none⟩ = some (.slice A1 n1 c1)) (hg1 : w.cell? ⟨g, 1, none⟩ = some (.slice A2 n2 c2)) (hn : n1 + n2 ≤ 1000000) :
    Calls Tryz.prog 178 #[.slice (some ⟨g, 0, none⟩) 2 2] w fun e w' => ∃ A c, e = .returned (.slice A (n1 + n2) c) ∧ w'.ownsRow w.heap.size 142 5 (.slice A (n1 + n2) c) (n1 + n2) (xs1 ++ xs2) ∧ Below w.heap.size w w' := by
  obtain ⟨i0, hi, hz0, hz1, hz2⟩ := info_parts infoTm
  have hw1 : IntKind.i64.wrap (n1 : Int) = (n1 : Int) := IntWalk.i64_in _ (by omega)
  have hw2 : IntKind.i64.wrap ((n1 : Int) + (n2 : Int)) = (n1 : Int) + (n2 : Int) := IntWalk.i64_in _ (by omega)
  have hp1 : (0 : Int) ≤ (n1 : Int) := by omega
  have hp2 : (0 : Int) ≤ (n1 : Int) + (n2 : Int) := by omega
  have H1 := Lib.hid h1
  have H2 := Lib.hid h2
  have U1 := Lib.hid u1
  have U2 := Lib.hid u2
  have HN := Lib.hid hn
  have G0 := Lib.hid hg0
  have G1 := Lib.hid hg1
  have CG := Lib.hid (Grow_T (n1 + n2) hn w)
  rw [show ((n1 + n2 : Nat) : Int) = (n1 : Int) + (n2 : Int) by omega] at CG
  have hadd : (⟨g, 0, none⟩ : Addr).add 1 = ⟨g, 1, none⟩ := by simp [Addr.add]
  clear h1 h2 hn u1 u2
  go_enter Tryz.func178, Tryz.ntmps178
  go_wp2_with fail
  go_loop [3, 11] (fun s i => (i = .int .i64 0 ∧ s = .int .i64 0) ∨ (i = .int .i64 1 ∧ s = .int .i64 (n1 : Int)) ∨ (i = .int .i64 2 ∧ s = .int .i64 ((n1 : Int) + (n2 : Int)))) (fun _ i => (2 - RowKit.intOf i).toNat)
  case atStart => exact .inl ⟨rfl, rfl⟩
  case round =>
    rcases hrel with ⟨rfl, rfl⟩ | ⟨rfl, rfl⟩ | ⟨rfl, rfl⟩
    · go_wp2_with fail
      go_round
      case rel => exact .inr (.inl ⟨rfl, rfl⟩)
      case measure => decide
    · go_wp2_with fail
      go_round
      case rel => exact .inr (.inr ⟨rfl, rfl⟩)
      case measure => decide
    · go_wp2_with fail
      refine CG.out.mono ?_
      rintro e w1 ⟨v, rfl, ho, hb⟩
      have HB := Lib.hid hb
      have HM := Lib.hid ho
      clear ho hb hg0 hg1 CG
      go_wp2_with fail
      go_loopw [6, 27] (fun v i wr => ∃ (q : Nat) (L : List Value), ((i = .int .i64 0 ∧ q = 0 ∧ L = []) ∨ (i = .int .i64 1 ∧ q = n1 ∧ L = xs1) ∨ (i = .int .i64 2 ∧ q = n1 + n2 ∧ L = xs1 ++ xs2)) ∧ Hid (wr.ownsRow w.heap.size 142 5 v q L) ∧ Hid (Below w.heap.size w wr)) (fun _ i _ => (2 - RowKit.intOf i).toNat)
      case atStart => exact ⟨0, [], .inl ⟨rfl, rfl, rfl⟩, HM, HB⟩
      case round =>
        clear HM HB
        obtain ⟨q, L, hc, HM, HB⟩ := hrel
        rcases hc with ⟨rfl, rfl, rfl⟩ | ⟨rfl, rfl, rfl⟩ | ⟨rfl, rfl, rfl⟩
        · have hg0 := cell_on HB.out G0.out
          have hsz := HB.out.size
          have O2 := Lib.hid (H1.out.below HB.out)
          go_wp2_with (at_builtin; refine wpList_append_any _ rfl (.tmp 31) (.tmp 32) 59 rfl w.heap.size 142 i0 _ 5 72 Tryz.underlying59 hi hz0 hz1 hz2 rfl (by decide) _ 0 [] rfl HM.out _ A1 n1 c1 _ rfl O2.out U1.out (by unfold maxLen; have := HN.out; omega) (by have := HN.out; omega) hsz ?_; intro v' w' p1 p2 p3)
          have P1 := Lib.hid p1
          have P2 : Hid (Below w.heap.size w w') := HB.out.grown p2 hsz (fun g e => (HM.out.lt g e).1)
          clear p1 p2 p3 O2
          go_wp2_with fail
          go_roundw
          case rel => exact ⟨0 + n1, [] ++ xs1, .inr (.inl ⟨rfl, by omega, rfl⟩), P1, P2⟩
          case measure => decide
        · have hg1 := cell_on HB.out G1.out
          have hsz := HB.out.size
          have O2 := Lib.hid (H2.out.below HB.out)
          go_wp2_with (at_builtin; refine wpList_append_any _ rfl (.tmp 31) (.tmp 32) 59 rfl w.heap.size 142 i0 _ 5 72 Tryz.underlying59 hi hz0 hz1 hz2 rfl (by decide) _ _ _ rfl HM.out _ A2 n2 c2 _ rfl O2.out U2.out (by unfold maxLen; have := HN.out; omega) (by have := HN.out; omega) hsz ?_; intro v' w' p1 p2 p3)
          have P1 := Lib.hid p1
          have P2 : Hid (Below w.heap.size w w') := HB.out.grown p2 hsz (fun g e => (HM.out.lt g e).1)
          clear p1 p2 p3 O2
          go_wp2_with fail
          go_roundw
          case rel => exact ⟨_, _, .inr (.inr ⟨rfl, rfl, rfl⟩), P1, P2⟩
          case measure => decide
        · obtain ⟨A, c, rfl, hc1, hc2⟩ := own_slice HM.out
          go_wp2_with fail
          go_ret
          exact ⟨A, c, rfl, HM.out, HB.out⟩
end
end Go.Proofs.YtikfjmdeeknalaaGreatDoor
