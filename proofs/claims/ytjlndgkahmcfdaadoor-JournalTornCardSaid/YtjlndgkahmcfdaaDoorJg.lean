/- The journal laws' arguments opened: a slice of operations, of strings, of ints: what they read as, and where they lie. The law on structs is the guide's word to copy. No condition. -/
import Derived.Test.YtjlndgkahmcfdaaDoorJq
import Derived.ProofKit
import Derived.SliceStrings
import Derived.Deep.Slices
import Derived.Deep.Fields
import Derived.ChangeSame
import Derived.Lib.SmallJoins
namespace Go.Proofs.YtjlndgkahmcfdaaDoor
set_option maxRecDepth 8000
open Go.ChangeShapes Go.WideShapes Go.Deep Go.Joins Go.RowKit

section
variable {H : Type} {enc : TypeId × Value → H} {P : Program} {w : World} {base : Nat} {spare : Nat → Bool} {held : Bool}
theorem open_slice_fields {t e : TypeId} {fs : Array Field} {fuel : Nat} {cs : List Value} {x : DataW H × List MemPlace} (ht : P.underlying t = some (.slice e)) (he : P.underlying e = some (.struct fs))
    (hone : oneCellFields P fs = true) (hC : P.cellsOf e = fs.size) (h : DataW.trod enc P w base spare held fuel t cs = some x) :
    (cs = [.slice none 0 0] ∧ x = (.nil, [])) ∨
    ∃ (a : Addr) (len cap m : Nat) (D : Nat → DataW H) (Pl : Nat → List MemPlace), cs = [.slice (some a) len cap] ∧ base ≤ a.block ∧ len ≤ cap ∧ cap ≤ maxLen ∧ m = (if spare a.block then cap else len) ∧
      x = (.slice ((List.range len).map D) ((List.range (m - len)).map fun j => D (len + j)), MemPlace.row a (m * fs.size) ++ (List.range m).flatMap Pl) ∧
      ∀ i, i < m → ∃ (ys : List (DataW H × List MemPlace)) (n : Nat), D i = .agg (ys.map (·.1)) ∧ Pl i = ys.flatMap (·.2) ∧ ys.length = fs.size ∧
        ∀ (j : Nat) (f : Field), fs[j]? = some f → ∃ (v : Value) (y : DataW H × List MemPlace), w.cell? (a.add (i * fs.size + j)) = some v ∧ ys[j]? = some y ∧ DataW.trod enc P w base spare held n f.type [v] = some y := by
  rcases open_slice ht h with h0 | ⟨a, len, cap, m, n, D, Pl, hcs, hb, hl, hm, hmm, hx, hi⟩
  · exact .inl h0
  · refine .inr ⟨a, len, cap, m, D, Pl, hcs, hb, hl, hm, hmm, by rw [hC] at hx; exact hx, fun i him => ?_⟩
    obtain ⟨cs', hc, ht'⟩ := hi i him
    rw [hC] at hc
    obtain ⟨ys, n', hn', hy, hlen, hyl, hf⟩ := DataW.trod_struct he ht'
    obtain ⟨_, hcl, hat⟩ := World.cells?_some hc
    simp only [Prod.mk.injEq] at hy
    refine ⟨ys, n', hy.1, hy.2, hyl, fun j f hj => ?_⟩
    obtain ⟨ho, hk⟩ := hone_of hone j f hj
    have hjl : j < fs.size := (Array.getElem?_eq_some_iff.1 hj).1
    have hcell := hat j hjl
    have hv : cs'[j]? = some (cs'[j]'(by omega)) := List.getElem?_eq_getElem (by omega)
    have h1 := hf j f hj
    rw [ho, hk] at h1
    have hone' : (cs'.drop j).take 1 = [cs'[j]'(by omega)] := by
      rw [List.drop_eq_getElem_cons (by omega)]
      rfl
    rw [hone'] at h1
    have hys : ys[j]? = some (ys[j]'(by omega)) := List.getElem?_eq_getElem (by omega)
    refine ⟨_, _, ?_, hys, h1.trans hys⟩
    rw [← Go.Deep.add_add, hcell, hv]
end

theorem map_at {α : Type} {f : α → Value} {l : List α} {j : Nat} {u : Value} (h : (l.map f)[j]? = some u) : ∃ hj : j < l.length, u = f l[j] := by
  rw [List.getElem?_map] at h
  cases h2 : l[j]? with
  | none => rw [h2] at h; cases h
  | some x =>
    rw [h2] at h
    obtain ⟨hj, rfl⟩ := List.getElem?_eq_some_iff.1 h2
    simp at h
    exact ⟨hj, h.symm⟩
theorem wf_i64 {n : Int} (h : (Lit.int .i64 n).wf = true) : -9223372036854775808 ≤ n ∧ n ≤ 9223372036854775807 := by
  have e1 : IntKind.i64.min = -9223372036854775808 := rfl
  have e2 : IntKind.i64.max = 9223372036854775807 := rfl
  simp [Lit.wf, e1, e2] at h
  omega
theorem cellsString : Tryd.prog.cellsOf 9 = 1 := by kernel_rfl
theorem cellsAc : Tryd.prog.cellsOf 34 = 4 := by kernel_rfl

section
variable {H : Type} {enc : TypeId × Value → H} {W : World}
theorem ints_in {fuel : Nat} {v : Value} {y : DataW H × List MemPlace} (h : DataW.trod enc Tryd.prog W 0 (fun _ => true) true fuel 23 [v] = some y) :
    ∃ (A : Option Addr) (l : List Int) (c : Nat), v = .slice A l.length c ∧ Reads W W.heap.size 1 A l.length (l.map (Value.int .i64)) ∧ (∀ z ∈ l, -9223372036854775808 ≤ z ∧ z ≤ 9223372036854775807) ∧ l.length ≤ 9223372036854775807 := by
  rcases open_ints Tryd.underlying23 Tryd.underlying3 cellsInt h with ⟨hcs, _⟩ | ⟨a, len, cap, zs, hcs, _, hl, hm, hz, _, hcell, hwz⟩
  · simp only [List.cons.injEq, and_true] at hcs
    exact ⟨none, [], 0, hcs, Reads.none_, by simp, by simp⟩
  · simp only [List.cons.injEq, and_true] at hcs
    have hz' : zs.length = cap := by simpa using hz
    have hlen : (zs.take len).length = len := by rw [List.length_take]; omega
    unfold maxLen at hm
    refine ⟨some a, zs.take len, cap, by rw [hcs, hlen], ?_, fun z hz => wf_i64 (hwz z (List.mem_of_mem_take hz)), by rw [hlen]; omega⟩
    rw [hlen]
    refine ⟨by rw [List.length_map, hlen]; omega, fun hpos => ⟨a, rfl, ?_, fun j u hu => ?_⟩⟩
    · have := World.block_lt_of_cell? W _ (hcell 0 (by omega))
      rwa [block_of_add] at this
    · obtain ⟨hj, rfl⟩ := map_at hu
      rw [hlen] at hj
      rw [hcell j (by omega)]
      congr 2
      simp [List.getD, List.getElem?_eq_getElem (show j < zs.length by omega)]

theorem texts_in {fuel : Nat} {v : Value} {y : DataW H × List MemPlace} (h : DataW.trod enc Tryd.prog W 0 (fun _ => true) true fuel 32 [v] = some y) :
    ∃ (A : Option Addr) (l : List ByteArray) (c : Nat), v = .slice A l.length c ∧ Reads W W.heap.size 1 A l.length (l.map Value.string) ∧ (∀ z ∈ l, z.size ≤ 9223372036854775807) ∧ l.length ≤ 9223372036854775807 := by
  rcases open_strings Tryd.underlying32 Tryd.underlying9 cellsString h with ⟨hcs, _⟩ | ⟨a, len, cap, zs, hcs, _, hl, hm, hz, _, hcell, hwz⟩
  · simp only [List.cons.injEq, and_true] at hcs
    exact ⟨none, [], 0, hcs, Reads.none_, by simp, by simp⟩
  · simp only [List.cons.injEq, and_true] at hcs
    have hz' : zs.length = cap := by simpa using hz
    have hlen : (zs.take len).length = len := by rw [List.length_take]; omega
    unfold maxLen at hm
    refine ⟨some a, zs.take len, cap, by rw [hcs, hlen], ?_, fun z hz => hwz z (List.mem_of_mem_take hz), by rw [hlen]; omega⟩
    rw [hlen]
    refine ⟨by rw [List.length_map, hlen]; omega, fun hpos => ⟨a, rfl, ?_, fun j u hu => ?_⟩⟩
    · have := World.block_lt_of_cell? W _ (hcell 0 (by omega))
      rwa [block_of_add] at this
    · obtain ⟨hj, rfl⟩ := map_at hu
      rw [hlen] at hj
      rw [hcell j (by omega)]
      congr 2
      simp [List.getD, List.getElem?_eq_getElem (show j < zs.length by omega)]

/-- Four cells that read as an operation's fields are an operation's. -/
theorem oq_in {n0 n1 n2 n3 : Nat} {v0 v1 v2 v3 : Value} {y0 y1 y2 y3 : DataW H × List MemPlace}
    (h0 : DataW.trod enc Tryd.prog W 0 (fun _ => true) true n0 3 [v0] = some y0) (h1 : DataW.trod enc Tryd.prog W 0 (fun _ => true) true n1 9 [v1] = some y1)
    (h2 : DataW.trod enc Tryd.prog W 0 (fun _ => true) true n2 3 [v2] = some y2) (h3 : DataW.trod enc Tryd.prog W 0 (fun _ => true) true n3 23 [v3] = some y3) : ∃ x : Oq, x.Fits ∧ OqIs W W.heap.size x v0 v1 v2 v3 := by
  obtain ⟨d, e0, _, wd⟩ := DataW.trod_int Tryd.underlying3 h0
  obtain ⟨s, e1, _, hs⟩ := DataW.trod_string Tryd.underlying9 h1
  obtain ⟨n, e2, _, wn⟩ := DataW.trod_int Tryd.underlying3 h2
  obtain ⟨A1, l, c1, e3, hr1, _, hl⟩ := ints_in h3
  simp only [List.cons.injEq, and_true] at e0 e1 e2
  unfold maxLen at hs
  exact ⟨⟨d, s, n, l⟩, ⟨wf_i64 wd, wf_i64 wn, hs, hl⟩, A1, c1, e0, e1, e2, e3, hr1⟩
/-- A slice of strings, as lists of bytes. -/
theorem texts_inB {fuel : Nat} {v : Value} {y : DataW H × List MemPlace} (h : DataW.trod enc Tryd.prog W 0 (fun _ => true) true fuel 32 [v] = some y) :
    ∃ (A : Option Addr) (n : Nat) (l : List (List UInt8)) (c : Nat), v = .slice A n c ∧ Reads W W.heap.size 1 A n (l.map strV) ∧ (∀ z ∈ l, z.length ≤ 9223372036854775807) ∧ n ≤ 9223372036854775807 := by
  obtain ⟨A, l, c, e, hr, hz, hl⟩ := texts_in h
  refine ⟨A, l.length, l.map (fun s => s.data.toList), c, e, ?_, fun z hm => ?_, hl⟩
  · have : (l.map fun s => s.data.toList).map strV = l.map Value.string := by
      rw [List.map_map]
      refine List.map_congr_left (fun s _ => ?_)
      show Value.string (bStr s.data.toList) = Value.string s
      cases s with
      | mk d => simp [bStr]
    rw [this]
    exact hr
  · obtain ⟨s, hs, rfl⟩ := List.mem_map.1 hm
    exact hz s hs

theorem list_of {P : Nat → Oq → Prop} : ∀ n : Nat, (∀ i, i < n → ∃ x, P i x) → ∃ xs : List Oq, xs.length = n ∧ ∀ i (h : i < xs.length), P i xs[i]
  | 0, _ => ⟨[], rfl, fun i h => by simp at h⟩
  | n + 1, h => by
    obtain ⟨xs, hl, hx⟩ := list_of n (fun i hi => h i (by omega))
    obtain ⟨x, hp⟩ := h n (by omega)
    refine ⟨xs ++ [x], by simp [hl], fun i hi => ?_⟩
    by_cases hin : i < xs.length
    · rw [List.getElem_append_left hin]
      exact hx i hin
    · have hie : i = n := by simp at hi; omega
      subst hie
      rw [List.getElem_append_right (by omega)]
      simpa using hp

theorem oneAc : oneCellFields Tryd.prog #[{ name := "Kind", type := 3, offset := 0, embedded := false, tag := "", pkgPath := "", byteOffset := 0 }, { name := "S", type := 9, offset := 1, embedded := false, tag := "", pkgPath := "", byteOffset := 8 }, { name := "N", type := 3, offset := 2, embedded := false, tag := "", pkgPath := "", byteOffset := 24 }, { name := "Keep", type := 23, offset := 3, embedded := false, tag := "", pkgPath := "", byteOffset := 32 }] = true := by kernel_rfl

/-- A slice of operations, opened. -/
theorem os_in {fuel : Nat} {v : Value} {y : DataW H × List MemPlace} (h : DataW.trod enc Tryd.prog W 0 (fun _ => true) true fuel 22 [v] = some y) :
    ∃ (A : Option Addr) (n c : Nat) (xs : List Oq), v = .slice A n c ∧ OsIs W W.heap.size A n xs ∧ (∀ x ∈ xs, x.Fits) ∧ n ≤ 9223372036854775807 := by
  rcases open_slice_fields Tryd.underlying22 Tryd.underlying34 oneAc cellsAc h with ⟨hcs, _⟩ | ⟨a, len, cap, m, D, Pl, hcs, _, hl, hm, hmm, _, hi⟩
  · simp only [List.cons.injEq, and_true] at hcs
    exact ⟨none, 0, 0, [], hcs, ⟨rfl, fun h => absurd h (by omega)⟩, by simp, by omega⟩
  · simp only [List.cons.injEq, and_true] at hcs
    have hm' : m = cap := by simpa using hmm
    unfold maxLen at hm
    obtain ⟨xs, hx1, hx2⟩ := list_of (P := fun i x => x.Fits ∧ ∃ v0 v1 v2 v3, OqIs W W.heap.size x v0 v1 v2 v3 ∧ W.cell? (a.add (i * 4)) = some v0 ∧ W.cell? (a.add (i * 4 + 1)) = some v1 ∧ W.cell? (a.add (i * 4 + 2)) = some v2 ∧ W.cell? (a.add (i * 4 + 3)) = some v3) len (fun i hil => by
      obtain ⟨ys, n, _, _, _, hf⟩ := hi i (by omega)
      obtain ⟨v0, y0, g0, _, t0⟩ := hf 0 _ rfl
      obtain ⟨v1, y1, g1, _, t1⟩ := hf 1 _ rfl
      obtain ⟨v2, y2, g2, _, t2⟩ := hf 2 _ rfl
      obtain ⟨v3, y3, g3, _, t3⟩ := hf 3 _ rfl
      obtain ⟨x, hx, hv⟩ := oq_in t0 t1 t2 t3
      exact ⟨x, hx, v0, v1, v2, v3, hv, g0, g1, g2, g3⟩)
    refine ⟨some a, len, cap, xs, hcs, ⟨hx1, fun hpos => ⟨a, rfl, ?_, fun i hil => (hx2 i hil).2⟩⟩, fun x hx => ?_, by omega⟩
    · obtain ⟨_, v0, _, _, _, _, g0, _⟩ := hx2 0 (by omega)
      have := World.block_lt_of_cell? W _ g0
      rwa [block_of_add] at this
    · obtain ⟨i, hil, rfl⟩ := List.mem_iff_getElem.1 hx
      exact (hx2 i hil).1
end
end Go.Proofs.YtjlndgkahmcfdaaDoor
