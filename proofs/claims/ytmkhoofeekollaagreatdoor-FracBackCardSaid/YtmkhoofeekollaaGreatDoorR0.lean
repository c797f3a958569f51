/- A fraction as a law's argument: what it reads as, and where its digits lie. No condition. -/
import Derived.Test.YtmkhoofeekollaaGreatDoorQH
import Derived.Test.YtmkhoofeekollaaGreatDoorQP
import Derived.Deep.DeepCutAuto
namespace Go.Proofs.YtmkhoofeekollaaGreatDoor
set_option maxRecDepth 8000
open Go.ChangeShapes Go.WideShapes Go.Deep Go.Joins Go.RowKit

theorem Reads.inj {w : World} {B B' n : Nat} {A : Option Addr} {xs ys : List Value} (h : Reads w B 1 A n xs) (h' : Reads w B' 1 A n ys) : xs = ys := by
  have e1 := h.1
  have e2 := h'.1
  apply List.ext_getElem? 
  intro j
  by_cases hj : j < n
  · obtain ⟨ad, ha, -, hc⟩ := h.2 (by omega)
    obtain ⟨ad', ha', -, hc'⟩ := h'.2 (by omega)
    rw [ha] at ha'
    cases ha'
    have k1 := hc j _ (List.getElem?_eq_getElem (show j < xs.length by omega))
    have k2 := hc' j _ (List.getElem?_eq_getElem (show j < ys.length by omega))
    rw [k1] at k2
    rw [List.getElem?_eq_getElem (show j < xs.length by omega), List.getElem?_eq_getElem (show j < ys.length by omega)]
    exact k2
  · rw [List.getElem?_eq_none (by omega), List.getElem?_eq_none (by omega)]
theorem Bg.back {w w' : World} {r : ArgR} {l : List Int} {k : Nat} {x : Int} (ha : BigArg w r l) (hb : Below w.heap.size w w') (h : Bg w' k x r.s r.A r.n) : Bg w k x r.s r.A r.n := by
  obtain ⟨hz, l', hl, hr, hm⟩ := h
  have e := Reads.inj hm (ha.rd.past hb)
  refine ⟨hz, l', hl, hr, ?_⟩
  rw [e]
  exact ha.rd
theorem FrArg.no {w w' : World} {r : FrR} {l1 l2 : List Int} (ha : FrArg w r l1 l2) (hb : Below w.heap.size w w') (hno : ∀ x, ¬ IsFr w r x) : ∀ x, ¬ IsFr w' r x :=
  fun x h => hno x ⟨Bg.back ha.p hb h.1, Bg.back ha.q hb h.2⟩
theorem FrArg.past {w w' : World} {r : FrR} {l1 l2 : List Int} (ha : FrArg w r l1 l2) (hb : Below w.heap.size w w') : FrArg w' r l1 l2 := ⟨ha.p.past hb, ha.q.past hb⟩
theorem cellsFrac : Tryz.prog.cellsOf 26 = 4 := by kernel_rfl
section
variable {H : Type} {enc : TypeId × Value → H} {W : World}
theorem bigCells_in {fuel : Nat} {c0 c1 : Value} {y : DataW H × List MemPlace} (h : DataW.trod enc Tryz.prog W 0 (fun _ => true) true fuel 24 [c0, c1] = some y) :
    ∃ (s : Int) (A : Option Addr) (l : List Int) (c : Nat), c0 = .int .i64 s ∧ c1 = .slice A l.length c ∧ BigArg W ⟨s, A, l.length, c⟩ l ∧ l.length ≤ c ∧ c ≤ 9223372036854775807 := by
  obtain ⟨xs, n, _, hx, _, hlen, hg⟩ := DataW.trod_struct Tryz.underlying24 h
  match xs, hlen with
  | [y0, y1], _ =>
    have h0 : DataW.trod enc Tryz.prog W 0 (fun _ => true) true n 3 [c0] = some y0 := by simpa [cellsI] using hg 0 _ rfl
    have h1 : DataW.trod enc Tryz.prog W 0 (fun _ => true) true n 22 [c1] = some y1 := by simpa [show Tryz.prog.cellsOf 22 = 1 from by kernel_rfl] using hg 1 _ rfl
    obtain ⟨s, e0, _, ws⟩ := DataW.trod_int Tryz.underlying3 h0
    obtain ⟨A, l, c, e1, hr, hz, hlc, hc⟩ := digits_in (v := c1) h1
    simp only [List.cons.injEq, and_true] at e0
    exact ⟨s, A, l, c, e0, e1, ⟨hr, hz, wfI64 ws⟩, hlc, hc⟩
/-- A fraction, right or not, as a law's argument. -/
theorem frac_in {r : Reach} {b0 : Nat} {v : Value} {d : DataW H} {p : List MemPlace} (hv : Value.okWide Tryz.prog W r b0 26 v) (h : DataW.Trod enc Tryz.prog W 0 (fun _ => true) true 26 v d p) :
    ∃ (q : FrR) (l1 l2 : List Int), v = frV q ∧ l1.length = q.n1 ∧ l2.length = q.n2 ∧ FrArg W q l1 l2 ∧ q.n1 ≤ q.c1 ∧ q.n2 ≤ q.c2 := by
  obtain ⟨cs, rfl, hsz⟩ := okWide_struct Tryz.underlying26 hv
  obtain ⟨l⟩ := cs
  match l, hsz.trans cellsFrac with
  | [c0, c1, c2, c3], _ =>
    obtain ⟨fuel, hf⟩ := h
    obtain ⟨xs, n, _, hx, _, hlen, hg⟩ := DataW.trod_struct Tryz.underlying26 hf
    match xs, hlen with
    | [y0, y1], _ =>
      have h0 : DataW.trod enc Tryz.prog W 0 (fun _ => true) true n 24 [c0, c1] = some y0 := by simpa [cellsBig, Value.cells] using hg 0 _ rfl
      have h1 : DataW.trod enc Tryz.prog W 0 (fun _ => true) true n 24 [c2, c3] = some y1 := by simpa [cellsBig, Value.cells] using hg 1 _ rfl
      obtain ⟨s1, A1, l1, k1, e0, e1, ha, hc1, -⟩ := bigCells_in (c0 := c0) (c1 := c1) h0
      obtain ⟨s2, A2, l2, k2, e2, e3, hb, hc2, -⟩ := bigCells_in (c0 := c2) (c1 := c3) h1
      subst e0 e1 e2 e3
      exact ⟨⟨s1, A1, l1.length, k1, s2, A2, l2.length, k2⟩, l1, l2, rfl, rfl, rfl, ⟨ha, hb⟩, hc1, hc2⟩
end
end Go.Proofs.YtmkhoofeekollaaGreatDoor

/- The walk of the law FracField. Conditions: the arguments' memory; the tables of math/bits and strconv as their texts lay them; the variable MaxLen of internal/bytealg holds an int. -/
namespace Go.Proofs.YtmkhoofeekollaaGreatDoor
set_option maxRecDepth 20000
open Go.RowKit

/-- A box with a fraction. -/
structure FxR where
  b : Nat
  k : Nat
  x : Rat
  r : FrR
/-- What a law's walk has made so far. -/
structure StF (w0 w : World) (L : List FxR) : Prop where
  bl : Below w0.heap.size w0 w
  bx : ∀ e ∈ L, Blk w e.b 26 (frC e.r) ∧ Fg w e.k e.x e.r
  lo : ∀ e ∈ L, w0.heap.size ≤ e.b
  nd : L.Pairwise (fun e e' => e.b ≠ e'.b)
  ap : ∀ e ∈ L, ∀ e' ∈ L, Off e'.r e.b
section
variable {w0 w w' : World} {L : List FxR} {k b : Nat} {x : Rat} {r : FrR}
theorem StF.call (h : StF w0 w L) (hb : Below w.heap.size w w') : StF w0 w' L :=
  ⟨h.bl.trans (hb.mono h.bl.size), fun e he => ⟨(h.bx e he).1.below hb (h.bx e he).1.lt, (h.bx e he).2.past hb⟩, h.lo, h.nd, h.ap⟩
/-- A box is added that was made since w. -/
theorem StF.add (h : StF w0 w L) (hb : Below w.heap.size w w') (hk : Blk w' b 26 (frC r)) (hl : w.heap.size ≤ b) (ho : Off r b) (hg : Fg w' k x r) (f1 : Fresh w r.A1 r.n1) (f2 : Fresh w r.A2 r.n2) : StF w0 w' (⟨b, k, x, r⟩ :: L) := by
  have h1 := h.call hb
  refine ⟨h1.bl, fun e he => ?_, fun e he => ?_, List.Pairwise.cons (fun e he => ?_) h.nd, fun e he e' he' => ?_⟩
  · rcases List.mem_cons.1 he with rfl | he
    · exact ⟨hk, hg⟩
    · exact h1.bx e he
  · rcases List.mem_cons.1 he with rfl | he
    · exact Nat.le_trans h.bl.size hl
    · exact h.lo e he
  · have := (h.bx e he).1.lt
    show b ≠ e.b
    omega
  · rcases List.mem_cons.1 he with rfl | he <;> rcases List.mem_cons.1 he' with rfl | he'
    · exact ho
    · exact (h.bx e' he').2.off_new hl
    · exact off_old f1 f2 (h.bx e he).1.lt
    · exact h.ap e he e' he'
theorem StF.made (h : StF w0 w L) (hb : Below w.heap.size w w') (hg : Fg w' k x r) (f1 : Fresh w r.A1 r.n1) (f2 : Fresh w r.A2 r.n2) : StF w0 (w'.alloc (.cells (frC r) 26)) (⟨w'.heap.size, k, x, r⟩ :: L) :=
  (h.add (b := w'.heap.size) (w' := w'.alloc (.cells (frC r) 26)) (hb.trans ((bal (Below.refl w'.heap.size w')).mono hb.size)) (Blk.new _ _ _) hb.size (hg.off_new (Nat.le_refl _)) hg.al f1 f2)
theorem StF.set_mem {L : List FxR} {i : Nat} {q : FxR} {e e' : FxR} (nd : L.Pairwise (fun e e' => e.b ≠ e'.b)) (hi : L[i]? = some q) (he : e ∈ L.set i e') : e = e' ∨ (e ∈ L ∧ e.b ≠ q.b) := by
  obtain ⟨j, hj⟩ := List.mem_iff_getElem?.1 he
  by_cases h : i = j
  · subst h
    rw [List.getElem?_set_self (List.getElem?_eq_some_iff.1 hi).1] at hj
    exact .inl (Option.some.inj hj).symm
  · rw [List.getElem?_set_ne h] at hj
    refine .inr ⟨List.mem_of_getElem? hj, ?_⟩
    obtain ⟨hi1, hi2⟩ := List.getElem?_eq_some_iff.1 hi
    obtain ⟨hj1, hj2⟩ := List.getElem?_eq_some_iff.1 hj
    rcases Nat.lt_or_gt_of_ne h with hlt | hlt
    · have := List.pairwise_iff_getElem.1 nd i j hi1 hj1 hlt
      rw [hi2, hj2] at this
      exact this.symm
    · have := List.pairwise_iff_getElem.1 nd j i hj1 hi1 hlt
      rw [hi2, hj2] at this
      exact this
theorem StF.put (h : StF w0 w L) (hb : Below w.heap.size w w') (hg : Fg w' k x r) (f1 : Fresh w r.A1 r.n1) (f2 : Fresh w r.A2 r.n2) {i : Nat} {q : FxR} (hi : L[i]? = some q) :
    StF w0 ((((w'.setCell ⟨q.b, 0, none⟩ (.int .i64 r.s1)).setCell ⟨q.b, 1, none⟩ (.slice r.A1 r.n1 r.c1)).setCell ⟨q.b, 2, none⟩ (.int .i64 r.s2)).setCell ⟨q.b, 3, none⟩ (.slice r.A2 r.n2 r.c2)) (L.set i ⟨q.b, k, x, r⟩) := by
  have h1 := h.call hb
  have hq := List.mem_of_getElem? hi
  have hlo := h.lo q hq
  have hoff : ∀ e ∈ L, Off r e.b := fun e he => off_old f1 f2 (h.bx e he).1.lt
  have hm : (L.set i ⟨q.b, k, x, r⟩).map (·.b) = L.map (·.b) := by
    rw [List.map_set]
    apply List.ext_getElem?
    intro j
    by_cases e : i = j
    · subst e
      rw [List.getElem?_set_self (by rw [List.length_map]; exact (List.getElem?_eq_some_iff.1 hi).1), List.getElem?_map, hi]
      rfl
    · rw [List.getElem?_set_ne e]
  refine ⟨below_4 h1.bl hlo, fun e he => ?_, fun e he => ?_, ?_, fun e he e' he' => ?_⟩
  · rcases StF.set_mem h.nd hi he with rfl | ⟨h2, h3⟩
    · exact ⟨(h1.bx q hq).1.set4, hg.far4 (hoff q hq)⟩
    · exact ⟨(h1.bx e h2).1.far4 h3, (h1.bx e h2).2.far4 (h.ap q hq e h2)⟩
  · rcases StF.set_mem h.nd hi he with rfl | ⟨h2, -⟩
    · exact hlo
    · exact h.lo e h2
  · have h4 : (L.map (·.b)).Pairwise (· ≠ ·) := List.pairwise_map.2 h.nd
    rw [← hm] at h4
    exact List.pairwise_map.1 h4
  · have hb1 : e.b = q.b ∨ e ∈ L := by
      rcases StF.set_mem h.nd hi he with rfl | ⟨h2, -⟩
      · exact .inl rfl
      · exact .inr h2
    rcases StF.set_mem h.nd hi he' with rfl | ⟨h3, -⟩
    · rcases hb1 with e1 | h2
      · rw [e1]; exact hoff q hq
      · exact hoff e h2
    · rcases hb1 with e1 | h2
      · rw [e1]; exact h.ap q hq e' h3
      · exact h.ap e h2 e' h3
theorem StF.zero (h : StF w0 w L) {i : Nat} {q : FxR} (hi : L[i]? = some q) :
    StF w0 ((((w.setCell ⟨q.b, 0, none⟩ (.int .i64 0)).setCell ⟨q.b, 1, none⟩ (.slice none 0 0)).setCell ⟨q.b, 2, none⟩ (.int .i64 0)).setCell ⟨q.b, 3, none⟩ (.slice none 0 0)) (L.eraseIdx i) := by
  have hq := List.mem_of_getElem? hi
  have hm : ∀ e ∈ L.eraseIdx i, e ∈ L ∧ e.b ≠ q.b := fun e he => by
    obtain ⟨j, hji, hj⟩ := List.mem_eraseIdx_iff_getElem?.1 he
    refine ⟨List.mem_of_getElem? hj, ?_⟩
    obtain ⟨hi1, hi2⟩ := List.getElem?_eq_some_iff.1 hi
    obtain ⟨hj1, hj2⟩ := List.getElem?_eq_some_iff.1 hj
    rcases Nat.lt_or_gt_of_ne hji with hlt | hlt
    · have := List.pairwise_iff_getElem.1 h.nd j i hj1 hi1 hlt
      rw [hi2, hj2] at this
      exact this
    · have := List.pairwise_iff_getElem.1 h.nd i j hi1 hj1 hlt
      rw [hi2, hj2] at this
      exact this.symm
  exact ⟨below_4 h.bl (h.lo q hq), fun e he => ⟨(h.bx e (hm e he).1).1.far4 (hm e he).2, (h.bx e (hm e he).1).2.far4 (h.ap q hq e (hm e he).1)⟩, fun e he => h.lo e (hm e he).1, h.nd.sublist (List.eraseIdx_sublist _ _), fun e he e' he' => h.ap e (hm e he).1 e' (hm e' he').1⟩
theorem StF.args3 {W : World} {a b c : FrR} {k : Nat} {xa xb xc : Rat} (hb : Below w.heap.size w W) (ka : Blk W w.heap.size 26 (frC a)) (kb : Blk W (w.heap.size + 1) 26 (frC b)) (kc : Blk W (w.heap.size + 1 + 1) 26 (frC c))
    (ga : Fg w k xa a) (gb : Fg w k xb b) (gc : Fg w k xc c) : StF w W [⟨w.heap.size, k, xa, a⟩, ⟨w.heap.size + 1, k, xb, b⟩, ⟨w.heap.size + 1 + 1, k, xc, c⟩] := by
  refine ⟨hb, fun e he => ?_, fun e he => ?_, ?_, fun e he e' he' => ?_⟩
  · simp only [List.mem_cons, List.not_mem_nil, or_false] at he
    rcases he with rfl | rfl | rfl
    · exact ⟨ka, ga.past hb⟩
    · exact ⟨kb, gb.past hb⟩
    · exact ⟨kc, gc.past hb⟩
  · simp only [List.mem_cons, List.not_mem_nil, or_false] at he
    rcases he with rfl | rfl | rfl <;> dsimp only <;> omega
  · simp; omega
  · have hl : w.heap.size ≤ e.b := by
      simp only [List.mem_cons, List.not_mem_nil, or_false] at he
      rcases he with rfl | rfl | rfl <;> dsimp only <;> omega
    simp only [List.mem_cons, List.not_mem_nil, or_false] at he'
    rcases he' with rfl | rfl | rfl
    · exact ga.off_new hl
    · exact gb.off_new hl
    · exact gc.off_new hl
end
/-- One box with a fraction that a region has made. -/
def OneF (W wc : World) (b k : Nat) (x : Rat) : Prop := ∃ r : FrR, Blk wc b 26 (frC r) ∧ W.heap.size ≤ b ∧ Fg wc k x r ∧ Fresh W r.A1 r.n1 ∧ Fresh W r.A2 r.n2 ∧ Off r b ∧ Below W.heap.size W wc
theorem ratio01 : ratio 0 1 = 0 := by decide +kernel
theorem ratio11 : ratio 1 1 = 1 := by decide +kernel
theorem few_sz {w : World} {k j : Nat} {x s : Int} {A : Option Addr} {n : Nat} (h : Bg w k x s A n) (hn : n ≤ j) : Sz j x := by
  obtain ⟨-, l, hl, hr, -⟩ := h
  exact hr.sz.mono (by omega)
end Go.Proofs.YtmkhoofeekollaaGreatDoor
