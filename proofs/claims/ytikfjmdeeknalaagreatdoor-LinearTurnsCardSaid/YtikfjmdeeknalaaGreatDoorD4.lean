/- The walks of big's isDecimal, and of Read at texts that no big integer has. Conditions: lengths. -/
import Derived.Test.YtikfjmdeeknalaaGreatDoorC8
import Derived.Lib.ItoaMem
import Derived.Deep.DeepCutAuto
import Derived.ProofKit
import Derived.Deep.Slices
import Derived.Deep.Fields
import Derived.ChangeSame
import Derived.Lib.SmallJoins
namespace Go.Proofs.YtikfjmdeeknalaaGreatDoor
set_option maxRecDepth 8000
open Go.RowKit

end Go.Proofs.YtikfjmdeeknalaaGreatDoor

/- The decimal text of a number by groups of twelve digits, plainly: the groups' texts behind the first one's are the whole number's. No condition. -/
namespace Go.Proofs.YtikfjmdeeknalaaGreatDoor
set_option maxRecDepth 8000
open Go.RowKit Go.Lib

end Go.Proofs.YtikfjmdeeknalaaGreatDoor

/- The law's function pair, where both are the integers that are asked for. Conditions: the bounds of an int, lengths. -/
namespace Go.Proofs.YtikfjmdeeknalaaGreatDoor
set_option maxRecDepth 8000
open Go.RowKit

end Go.Proofs.YtikfjmdeeknalaaGreatDoor

/- A big integer as a law's argument: what it reads as, and where its digits lie. No condition. -/
namespace Go.Proofs.YtikfjmdeeknalaaGreatDoor
set_option maxRecDepth 8000
open Go.ChangeShapes Go.WideShapes Go.Deep Go.Joins Go.RowKit

section
variable {H : Type} {enc : TypeId × Value → H} {P : Program} {w : World} {base : Nat} {spare : Nat → Bool} {held : Bool}
end
theorem wfI64 {n : Int} (h : (Lit.int .i64 n).wf = true) : -9223372036854775808 ≤ n ∧ n ≤ 9223372036854775807 := by
  have e1 : IntKind.i64.min = -9223372036854775808 := rfl
  have e2 : IntKind.i64.max = 9223372036854775807 := rfl
  simp [Lit.wf, e1, e2] at h
  omega
theorem mapAt {α : Type} {f : α → Value} {l : List α} {j : Nat} {u : Value} (h : (l.map f)[j]? = some u) : ∃ hj : j < l.length, u = f l[j] := by
  rw [List.getElem?_map] at h
  cases h2 : l[j]? with
  | none => rw [h2] at h; cases h
  | some x =>
    rw [h2] at h
    obtain ⟨hj, rfl⟩ := List.getElem?_eq_some_iff.1 h2
    simp at h
    exact ⟨hj, h.symm⟩
theorem cellsI : Tryz.prog.cellsOf 3 = 1 := by kernel_rfl
theorem cellsBig : Tryz.prog.cellsOf 24 = 2 := by kernel_rfl
section
variable {H : Type} {enc : TypeId × Value → H} {W : World}
theorem digits_in {fuel : Nat} {v : Value} {y : DataW H × List MemPlace} (h : DataW.trod enc Tryz.prog W 0 (fun _ => true) true fuel 22 [v] = some y) :
    ∃ (A : Option Addr) (l : List Int) (c : Nat), v = .slice A l.length c ∧ Reads W W.heap.size 1 A l.length (iv l) ∧ (∀ z ∈ l, -9223372036854775808 ≤ z ∧ z ≤ 9223372036854775807) ∧ l.length ≤ c ∧ c ≤ 9223372036854775807 := by
  rcases open_ints Tryz.underlying22 Tryz.underlying3 cellsI h with ⟨hcs, _⟩ | ⟨a, len, cap, zs, hcs, _, hl, hm, hz, _, hcell, hwz⟩
  · simp only [List.cons.injEq, and_true] at hcs
    exact ⟨none, [], 0, hcs, Reads.none_, by simp, by simp, by simp⟩
  · simp only [List.cons.injEq, and_true] at hcs
    have hz' : zs.length = cap := by simpa using hz
    have hlen : (zs.take len).length = len := by rw [List.length_take]; omega
    unfold maxLen at hm
    refine ⟨some a, zs.take len, cap, by rw [hcs, hlen], ?_, fun z hz => wfI64 (hwz z (List.mem_of_mem_take hz)), by rw [hlen]; omega, by omega⟩
    rw [hlen]
    refine ⟨by unfold iv; rw [List.length_map, hlen]; omega, fun hpos => ⟨a, rfl, ?_, fun j u hu => ?_⟩⟩
    · have := World.block_lt_of_cell? W _ (hcell 0 (by omega))
      rwa [block_of_add] at this
    · obtain ⟨hj, rfl⟩ := mapAt hu
      rw [hlen] at hj
      rw [hcell j (by omega)]
      congr 2
      simp [List.getD, List.getElem?_eq_getElem (show j < zs.length by omega)]
end
end Go.Proofs.YtikfjmdeeknalaaGreatDoor

/- The walk of big's Compare at right big integers. Conditions: lengths. -/
namespace Go.Proofs.YtikfjmdeeknalaaGreatDoor
set_option maxRecDepth 8000
open Go.RowKit

/-- -1, 0 or 1, as two integers stand. -/
def ordZ (x y : Int) : Int := if x < y then -1 else if x = y then 0 else 1
theorem cmp_ordZ (x y : Int) : Lib.compareInt x y = ordZ x y := by
  unfold Lib.compareInt ordZ
  split
  · rfl
  · split <;> split <;> omega
theorem ordZ_signs {s1 s2 x y : Int} {l1 l2 : List Nat} (r1 : Rep s1 l1 x) (r2 : Rep s2 l2 y) (h : s1 ≠ s2) : ordZ s1 s2 = ordZ x y := by
  have e : (s1 < s2 ↔ x < y) ∧ (s1 = s2 ↔ x = y) := by
    rcases r1.cases with ⟨a, -, b, -⟩ | ⟨a, -, b, -⟩ | ⟨a, -, b⟩ <;> rcases r2.cases with ⟨c, -, d, -⟩ | ⟨c, -, d, -⟩ | ⟨c, -, d⟩ <;> omega
  unfold ordZ
  simp only [e.1, e.2]
theorem ordZ_digits {s x y : Int} {l1 l2 : List Nat} (r1 : Rep s l1 x) (r2 : Rep s l2 y) : s * ordN (dval l1) (dval l2) = ordZ x y := by
  unfold ordN ordZ
  rcases r1.cases with ⟨a, -, b, b2⟩ | ⟨a, -, b, b2⟩ | ⟨a, -, b⟩ <;> rcases r2.cases with ⟨c, -, d, d2⟩ | ⟨c, -, d, d2⟩ | ⟨c, -, d⟩ <;> subst a <;> first
    | omega
    | (split <;> split <;> first | omega | (split <;> first | omega | (split <;> omega)))
    | (rw [Int.zero_mul]; split <;> first | omega | (split <;> omega))
set_option maxHeartbeats 4000000 in
theorem Compare_any (s1 s2 x y : Int) (A1 A2 : Option Addr) (n1 n2 c1 c2 B1 B2 : Nat) (l1 l2 : List Nat) (w : World) (h1 : Reads w B1 1 A1 n1 (dv l1)) (h2 : Reads w B2 1 A2 n2 (dv l2)) (hn1 : n1 ≤ 1073741824) (hn2 : n2 ≤ 1073741824)
    (r1 : Rep s1 l1 x) (r2 : Rep s2 l2 y) {r : Int} (hr : ordZ x y = r) :
    Calls Tryz.prog 32 #[.agg #[.int .i64 s1, .slice A1 n1 c1], .agg #[.int .i64 s2, .slice A2 n2 c2]] w fun e w' => e = .returned (.int .i64 r) ∧ Below w.heap.size w w' := by
  obtain ⟨kb1, kb2, kbl⟩ := TwoC.new w s1 A1 n1 c1 s2 A2 n2 c2
  have R1 := Lib.hid r1
  have R2 := Lib.hid r2
  have HR := Lib.hid hr
  have H1 := Lib.hid (h1.past kbl)
  have H2 := Lib.hid (h2.past kbl)
  clear h1 h2 r1 r2 hr
  obtain ⟨wb, hwb⟩ : ∃ wb, wb = ((w.alloc (.cells #[.int .i64 s1, .slice A1 n1 c1] 24)).alloc (.cells #[.int .i64 s2, .slice A2 n2 c2] 24)) := ⟨_, rfl⟩
  go_enter Tryz.func32, Tryz.ntmps32
  go_wp2_with fail
  rw [← hwb] at kb1 kb2 kbl H1 H2 ⊢
  clear hwb
  have HBL := Lib.hid kbl
  refine (right_rep R1.out A1 n1 c1 _ wb H1.out hn1).mono ?_
  rintro e w4 ⟨rfl, b4⟩
  have j1 := kb1.below b4 kb1.lt
  have j2 := kb2.below b4 kb2.lt
  have y2 : w4.cell? ⟨w.heap.size + 1, 0, none⟩ = some (.int .i64 s2) := (j2.cell 0).trans rfl
  have y3 : w4.cell? ⟨w.heap.size + 1, 1, none⟩ = some (.slice A2 n2 c2) := (j2.cell 1).trans rfl
  have H3 := Lib.hid (H1.out.past b4)
  have H4 := Lib.hid (H2.out.past b4)
  have B4 := Lib.hid (HBL.out.trans (b4.mono HBL.out.size))
  clear b4 kb1 kb2 H1 H2 kbl HBL
  go_wp2_with fail
  refine (right_rep R2.out A2 n2 c2 _ w4 H4.out hn2).mono ?_
  rintro e w5 ⟨rfl, b5⟩
  have k1 := j1.below b5 j1.lt
  have k2 := j2.below b5 j2.lt
  have z0 : w5.cell? ⟨w.heap.size, 0, none⟩ = some (.int .i64 s1) := (k1.cell 0).trans rfl
  have z1 : w5.cell? ⟨w.heap.size, 1, none⟩ = some (.slice A1 n1 c1) := (k1.cell 1).trans rfl
  have z2 : w5.cell? ⟨w.heap.size + 1, 0, none⟩ = some (.int .i64 s2) := (k2.cell 0).trans rfl
  have z3 : w5.cell? ⟨w.heap.size + 1, 1, none⟩ = some (.slice A2 n2 c2) := (k2.cell 1).trans rfl
  have H5 := Lib.hid (H3.out.past b5)
  have H6 := Lib.hid (H4.out.past b5)
  have B5 := Lib.hid (B4.out.trans (b5.mono B4.out.size))
  clear b5 j1 j2 k1 k2 y2 y3 H3 H4 B4
  by_cases hs : s1 = s2
  · subst hs
    have hv : Hid (s1 * ordN (dval l1) (dval l2) = r) := (ordZ_digits R1.out R2.out).trans HR.out
    obtain ⟨o, ho⟩ : ∃ o, ordN (dval l1) (dval l2) = o := ⟨_, rfl⟩
    have HC : Hid (∀ d, Calls Tryz.prog 140 #[.slice A1 n1 c1, .slice A2 n2 c2] (w5.drewN d) fun e w' => e = .returned (.int .i64 o) ∧ ∃ n, w' = w5.drewN n) := fun d => by
      refine (compare_any A1 A2 n1 n2 c1 c2 _ _ l1 l2 _ (H5.out.drewN d) (H6.out.drewN d) R1.out.norm R2.out.norm hn1 hn2 ho).mono ?_
      rintro e w' ⟨rfl, hd⟩
      obtain ⟨d2, rfl⟩ := hd
      exact ⟨rfl, Drew.more ⟨d, rfl⟩⟩
    have hsg : -1 ≤ s1 ∧ s1 ≤ 1 := by rcases R1.out.sign with ⟨e, -⟩ | ⟨e, -⟩ | ⟨e, -⟩ <;> omega
    have hob : -1 ≤ o ∧ o ≤ 1 := by rw [← ho]; unfold ordN; split <;> first | omega | (split <;> omega)
    have hwr : IntKind.i64.wrap (s1 * o) = s1 * o := by
      have : s1 = -1 ∨ s1 = 0 ∨ s1 = 1 := by omega
      rcases this with e | e | e <;> rw [e, IntKind.wrap_i64] <;> omega
    rw [ho] at hv
    clear ho R1 R2 HR H5 H6
    go_wp2_with fail
    go_quiet ((go_at_call 140; exact (HC.out _).mono fun _ _ h => h))
    go_wp2_with fail
    rw [hv.out]
    go_ret
    exact ⟨rfl, below_drewN B5.out _⟩
  · have hs' : ¬ s1 = s2 := hs
    have hv : Hid (Lib.compareInt s1 s2 = r) := (cmp_ordZ _ _).trans ((ordZ_signs R1.out R2.out hs).trans HR.out)
    clear R1 R2 HR H5 H6 hs
    go_wp2_with fail
    refine (Tryz.cmp_Compare_int s1 s2 w5).mono ?_
    rintro e w' ⟨rfl, rfl⟩
    rw [hv.out]
    go_wp2_with fail
    go_ret
    exact ⟨rfl, B5.out⟩
end Go.Proofs.YtikfjmdeeknalaaGreatDoor
