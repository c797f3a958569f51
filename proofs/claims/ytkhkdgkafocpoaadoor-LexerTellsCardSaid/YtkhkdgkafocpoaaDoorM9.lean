/- The walk of LexerTells, and its second argument opened: a slice of tokens. Conditions: the variables that the calls read; the arguments' lengths are Go's. The law on slices of structs is the guide's words to copy. -/
import Derived.Test.YtkhkdgkafocpoaaDoorMf
import Derived.ProofKit
import Derived.SliceStrings
import Derived.Deep.Slices
import Derived.Deep.Fields
import Derived.ChangeSame
import Derived.Lib.SmallJoins
namespace Go.Proofs.YtkhkdgkafocpoaaDoor
set_option maxRecDepth 20000
open Go.ChangeShapes Go.WideShapes Go.Deep Go.Joins Go.RowKit

section
variable {H : Type} {enc : TypeId × Value → H} {P : Program} {w : World} {base : Nat} {spare : Nat → Bool} {held : Bool}
theorem open_slice_fields {t e : TypeId} {fs : Array Field} {fuel : Nat} {cs : List Value} {x : DataW H × List MemPlace} (ht : P.underlying t = some (.slice e)) (he : P.underlying e = some (.struct fs))
    (hone : oneCellFields P fs = true) (hC : P.cellsOf e = fs.size) (h : DataW.trod enc P w base spare held fuel t cs = some x) :
    (cs = [.slice none 0 0] ∧ x = (.nil, [])) ∨
    ∃ (a : Addr) (len cap m : Nat) (D : Nat → DataW H) (Pl : Nat → List MemPlace), cs = [.slice (some a) len cap] ∧ base ≤ a.block ∧ len ≤ cap ∧ cap ≤ maxLen ∧ m = (if spare a.block then cap else len) ∧
      x = (.slice ((List.range len).map D) ((List.range (m - len)).map fun j => D (len + j)), MemPlace.row a (m * fs.size) ++ (List.range m).flatMap Pl) ∧
      ∀ i, i < m → ∃ (ys : List (DataW H × List MemPlace)) (n : Nat), D i = .agg (ys.map (·.1)) ∧ Pl i = ys.flatMap (·.2) ∧ ys.length = fs.size ∧
        ∀ (j : Nat) (f : Field), fs[j]? = some f → ∃ (v : Value) (y : DataW H × List MemPlace), w.cell? (a.add (i * fs.size + j)) = some v ∧ ys[j]? = some y ∧ DataW.trod enc P w base spare held n f.type [v] = some y := by
  rcases open_slice ht h with h0 | ⟨a, len, cap, m, n, D, Pl, hcs, hb, hl, hm, hmm, hx, hi⟩
  · exact .inl h0
  · refine .inr ⟨a, len, cap, m, D, Pl, hcs, hb, hl, hm, hmm, by rw [hC] at hx; exact hx, fun i him => ?_⟩
    obtain ⟨cs', hc, ht'⟩ := hi i him
    rw [hC] at hc
    obtain ⟨ys, n', hn', hy, hlen, hyl, hf⟩ := DataW.trod_struct he ht'
    obtain ⟨_, hcl, hat⟩ := World.cells?_some hc
    simp only [Prod.mk.injEq] at hy
    refine ⟨ys, n', hy.1, hy.2, hyl, fun j f hj => ?_⟩
    obtain ⟨ho, hk⟩ := hone_of hone j f hj
    have hjl : j < fs.size := (Array.getElem?_eq_some_iff.1 hj).1
    have hcell := hat j hjl
    have hv : cs'[j]? = some (cs'[j]'(by omega)) := List.getElem?_eq_getElem (by omega)
    have h1 := hf j f hj
    rw [ho, hk] at h1
    have hone' : (cs'.drop j).take 1 = [cs'[j]'(by omega)] := by
      rw [List.drop_eq_getElem_cons (by omega)]
      rfl
    rw [hone'] at h1
    have hys : ys[j]? = some (ys[j]'(by omega)) := List.getElem?_eq_getElem (by omega)
    refine ⟨_, _, ?_, hys, h1.trans hys⟩
    rw [← Go.Deep.add_add, hcell, hv]
end
theorem wf_i64 {n : Int} (h : (Lit.int .i64 n).wf = true) : -9223372036854775808 ≤ n ∧ n ≤ 9223372036854775807 := by
  have e1 : IntKind.i64.min = -9223372036854775808 := rfl
  have e2 : IntKind.i64.max = 9223372036854775807 := rfl
  simp [Lit.wf, e1, e2] at h
  omega
theorem list_of {P : Nat → ATok → Prop} : ∀ n : Nat, (∀ i, i < n → ∃ x, P i x) → ∃ xs : List ATok, xs.length = n ∧ ∀ i (h : i < xs.length), P i xs[i]
  | 0, _ => ⟨[], rfl, fun i h => by simp at h⟩
  | n + 1, h => by
    obtain ⟨xs, hl, hx⟩ := list_of n (fun i hi => h i (by omega))
    obtain ⟨x, hp⟩ := h n (by omega)
    refine ⟨xs ++ [x], by simp [hl], fun i hi => ?_⟩
    by_cases hin : i < xs.length
    · rw [List.getElem_append_left hin]
      exact hx i hin
    · have hie : i = n := by simp at hi; omega
      subst hie
      rw [List.getElem_append_right (by omega)]
      simpa using hp

theorem oneTok : oneCellFields Tryd.prog #[{ name := "Kind", type := 3, offset := 0, embedded := false, tag := "", pkgPath := "", byteOffset := 0 }, { name := "Text", type := 9, offset := 1, embedded := false, tag := "", pkgPath := "", byteOffset := 8 }, { name := "N", type := 3, offset := 2, embedded := false, tag := "", pkgPath := "", byteOffset := 24 }, { name := "Pos", type := 3, offset := 3, embedded := false, tag := "", pkgPath := "", byteOffset := 32 }] = true := by kernel_rfl
theorem cellsTok : Tryd.prog.cellsOf 25 = 4 := by kernel_rfl
theorem arC_get : ∀ (l : List ATok) (j : Nat) (u : Value), (arC l)[j]? = some u → ∃ (k r : Nat) (h : k < l.length), j = k * 4 + r ∧ r < 4 ∧ (aC l[k])[r]? = some u := by
  intro l
  induction l with
  | nil => intro j u h; cases h
  | cons t l ih =>
    intro j u h
    have e : arC (t :: l) = aC t ++ arC l := rfl
    rw [e] at h
    by_cases hj : j < 4
    · rw [List.getElem?_append_left (by show j < 4; exact hj)] at h
      exact ⟨0, j, by simp, by omega, hj, h⟩
    · rw [List.getElem?_append_right (by show 4 ≤ j; omega)] at h
      obtain ⟨k, r, hk, hjr, hr, hu⟩ := ih (j - 4) u h
      exact ⟨k + 1, r, by simp; omega, by omega, hr, hu⟩
section
variable {H : Type} {enc : TypeId × Value → H} {W : World}
/-- A slice of tokens, opened. -/
theorem toks_in {fuel : Nat} {v : Value} {y : DataW H × List MemPlace} (h : DataW.trod enc Tryd.prog W 0 (fun _ => true) true fuel 22 [v] = some y) :
    ∃ (A : Option Addr) (l : List ATok) (c : Nat), v = .slice A l.length c ∧ Reads W W.heap.size 4 A l.length (arC l) ∧ l.length ≤ 9223372036854775807 ∧ ∀ t ∈ l, t.text.length ≤ 9223372036854775807 := by
  rcases open_slice_fields Tryd.underlying22 Tryd.underlying25 oneTok cellsTok h with ⟨hcs, _⟩ | ⟨a, len, cap, m, D, Pl, hcs, _, hl, hm, hmm, _, hi⟩
  · simp only [List.cons.injEq, and_true] at hcs
    exact ⟨none, [], 0, hcs, Reads.none_, by simp, fun t ht => by cases ht⟩
  · simp only [List.cons.injEq, and_true] at hcs
    have hm' : m = cap := by simpa using hmm
    unfold maxLen at hm
    obtain ⟨xs, hx1, hx2⟩ := list_of (P := fun i x => W.cell? (a.add (i * 4)) = some (.int .i64 x.kind) ∧ W.cell? (a.add (i * 4 + 1)) = some (.string ⟨x.text.toArray⟩) ∧ W.cell? (a.add (i * 4 + 2)) = some (.int .i64 x.n) ∧ W.cell? (a.add (i * 4 + 3)) = some (.int .i64 x.pos) ∧ x.text.length ≤ 9223372036854775807) len (fun i hil => by
      obtain ⟨ys, n, _, _, _, hf⟩ := hi i (by omega)
      obtain ⟨v0, y0, g0, _, t0⟩ := hf 0 _ rfl
      obtain ⟨v1, y1, g1, _, t1⟩ := hf 1 _ rfl
      obtain ⟨v2, y2, g2, _, t2⟩ := hf 2 _ rfl
      obtain ⟨v3, y3, g3, _, t3⟩ := hf 3 _ rfl
      obtain ⟨k, e0, _, _⟩ := DataW.trod_int Tryd.underlying3 t0
      obtain ⟨s, e1, _, hs⟩ := DataW.trod_string Tryd.underlying9 t1
      obtain ⟨n2, e2, _, _⟩ := DataW.trod_int Tryd.underlying3 t2
      obtain ⟨n3, e3, _, _⟩ := DataW.trod_int Tryd.underlying3 t3
      simp only [List.cons.injEq, and_true] at e0 e1 e2 e3
      subst e0 e1 e2 e3
      unfold maxLen at hs
      refine ⟨⟨k, s.data.toList, n2, n3⟩, g0, ?_, g2, g3, ?_⟩
      · rw [str_mk]; exact g1
      · show s.data.toList.length ≤ _
        rw [show s.data.toList.length = s.size by simp]; exact hs)
    refine ⟨some a, xs, cap, by rw [hcs, hx1], ?_, by omega, fun t ht => ?_⟩
    · refine ⟨arC_len xs, fun hpos => ⟨a, rfl, ?_, fun j u hu => ?_⟩⟩
      · obtain ⟨g0, _⟩ := hx2 0 hpos
        have := World.block_lt_of_cell? W _ g0
        rwa [block_of_add] at this
      · obtain ⟨k, r, hk, hj, hr, hu2⟩ := arC_get xs j u hu
        obtain ⟨g0, g1, g2, g3, _⟩ := hx2 k hk
        clear hu
        subst hj
        have h4 : r = 0 ∨ r = 1 ∨ r = 2 ∨ r = 3 := by omega
        rcases h4 with rfl | rfl | rfl | rfl
        · have e : Value.int .i64 xs[k].kind = u := by simpa [aC] using hu2
          rw [← e]; exact g0
        · have e : Value.string ⟨xs[k].text.toArray⟩ = u := by simpa [aC] using hu2
          rw [← e]; exact g1
        · have e : Value.int .i64 xs[k].n = u := by simpa [aC] using hu2
          rw [← e]; exact g2
        · have e : Value.int .i64 xs[k].pos = u := by simpa [aC] using hu2
          rw [← e]; exact g3
    · obtain ⟨i, hil, rfl⟩ := List.mem_iff_getElem.1 ht
      exact (hx2 i hil).2.2.2.2
end
/-- Both scans end in the same values. -/
theorem scan_val (r : Res) (B : Nat) (hr : ∀ ts, r = .ok ts → ts.length ≤ B) : ∃ (ts : List Tok) (n : Nat) (i x : Int), n ≤ B ∧ ts.length = n ∧ ∀ w e w', ScanEnd r w e w' → ∃ A c, e = .returned (.tuple #[.slice A n c, .int .i64 i, .int .i64 x]) ∧ w'.ownsRow w.heap.size 25 4 (.slice A n c) n (tokC ts) ∧ Below w.heap.size w w' := by
  cases r with
  | ok ts =>
    refine ⟨ts, ts.length, 0, 0, hr ts rfl, rfl, fun w e w' h => ?_⟩
    obtain ⟨⟨A, c, h1, h2⟩, hb⟩ := h
    exact ⟨A, c, h1, h2, hb⟩
  | err a x =>
    refine ⟨[], 0, a, x, Nat.zero_le _, rfl, fun w e w' h => ?_⟩
    exact ⟨none, 0, h.1, World.ownsRow_nil _ _ _ _, h.2⟩
theorem num_val (l : List UInt8) : ∃ (z : Int) (b : Bool), (∀ w e w', NumEnd l w e w' → e = .returned (.tuple #[.int .i64 z, .bool b]) ∧ Below w.heap.size w w') ∧ (∀ w e w', NumSame l w e w' → e = .returned (.tuple #[.int .i64 z, .bool b]) ∧ w = w') := by
  unfold NumEnd NumSame
  cases numP l with
  | none => exact ⟨0, false, fun w e w' h => h, fun w e w' h => h⟩
  | some n => exact ⟨n, true, fun w e w' h => h, fun w e w' h => h⟩
theorem quote_val (l : List UInt8) : ∃ (q : ByteArray) (b : Bool), (∀ w e w', QuoteEnd l w e w' → e = .returned (.tuple #[.string q, .bool b]) ∧ Below w.heap.size w w') ∧ (quoteV l = .tuple #[.string q, .bool b]) := by
  unfold QuoteEnd quoteV
  cases valueP l with
  | true => exact ⟨_, true, fun w e w' h => h, rfl⟩
  | false => exact ⟨_, false, fun w e w' h => h, rfl⟩
theorem below_reads {w w' : World} {B n : Nat} {A : Option Addr} {xs : List Value} (h : Reads w B 4 A n xs) (hB : B ≤ w.heap.size) (hb : Below w.heap.size w w') : Reads w' B 4 A n xs := h.keep fun p hp => hb.cell (p := p) (by omega)
set_option maxHeartbeats 16000000 in
theorem tells_walk (s : ByteArray) (A : Option Addr) (n c : Nat) (l : List ATok) (w : World) (hE : Hid (Env w)) (hs : s.size ≤ 9223372036854775807) (hr : Hid (Reads w w.heap.size 4 A n (arC l))) (hn : Hid (l.length = n)) (hn6 : n ≤ 9223372036854775807) (ht : Hid (∀ t ∈ l, t.text.length ≤ 9223372036854775807)) :
    Calls Tryd.prog 3 #[.string s, .slice A n c] w fun e w' => e = .returned (.bool true) ∧ Below w.heap.size w w' := by
  have C1 := Lib.hid (sane_any w hE)
  have C2 := Lib.hid (fun w => cut_any s w hs)
  by_cases h100 : (100 : Int) < (n : Int)
  · go_enter Tryd.func3, Tryd.ntmps3
    go_wp2_with fail
    refine C1.out.mono ?_
    rintro e w1 ⟨rfl, hb⟩
    have HB1 := Lib.hid hb
    clear hb
    go_wp2_with fail
    go_ret
    exact ⟨rfl, HB1.out⟩
  · have hn1 : n ≤ 100 := by omega
    have hxs0 : (cutB s).size ≤ 900 := by rw [cutB_size]; omega
    have hxl0 := cutB_len s
    have hsx0 := cutB_scan s
    obtain ⟨x, hx⟩ : ∃ x, x = cutB s := ⟨_, rfl⟩
    rw [← hx] at C2 hxs0 hxl0 hsx0
    have hxs : x.size ≤ 900 := hxs0
    obtain ⟨ts, m, i, z, hm9, hts, hSV⟩ := scan_val (scanT x.data.toList) 900 (fun ts h => by
      rw [hsx0] at h
      exact (text_le (B := 900) hxl0 h).2)
    have HTS := Lib.hid hts
    have SV := Lib.hid hSV
    obtain ⟨nz, nb, hN1, hN2⟩ := num_val x.data.toList
    have NV1 := Lib.hid hN1
    have NV2 := Lib.hid hN2
    obtain ⟨q, qb, hQ1, hQ2⟩ := quote_val x.data.toList
    have QV1 := Lib.hid hQ1
    have QV2 := Lib.hid hQ2
    obtain ⟨nm, hnm⟩ : ∃ b, nameP x.data.toList = b := ⟨_, rfl⟩
    have NM := Lib.hid hnm
    obtain ⟨P, hP⟩ : ∃ P : ByteArray, P = ⟨(printA l).toArray⟩ := ⟨_, rfl⟩
    have HP := Lib.hid hP
    clear hx hxs0 hxl0 hsx0 hts hSV hN1 hN2 hQ1 hQ2 hnm hP h100
    go_enter Tryd.func3, Tryd.ntmps3
    go_wp2_with fail
    refine C1.out.mono ?_
    rintro e w1 ⟨rfl, hb⟩
    have HB1 := Lib.hid hb
    have HR1 := Lib.hid (below_reads hr.out (Nat.le_refl _) hb)
    have hw1 : w.heap.size ≤ w1.heap.size := hb.size
    clear hb
    go_wp2_with fail
    go_loop [6] (fun iv => ∃ k : Nat, k ≤ n ∧ iv = .int .i64 k ∧ Hid (∀ (j : Nat) (t : ATok), j < k → l[j]? = some t → t.text.length ≤ 100)) (fun iv => n - (RowKit.intOf iv).toNat)
    case atStart => exact ⟨0, Nat.zero_le _, rfl, fun j t h => by omega⟩
    case round =>
      obtain ⟨k, hk, rfl, HA⟩ := hrel
      by_cases hlt : k < n
      · have hkc : (k : Int) < (n : Int) := by omega
        obtain ⟨ad, t, rfl, hab, htl, q0, q1, q2, q3⟩ := tok_at' HR1.out hn.out hlt
        obtain ⟨tt, htt⟩ : ∃ tt : ByteArray, ⟨t.text.toArray⟩ = tt := ⟨_, rfl⟩
        have htz : tt.size = t.text.length := by rw [← htt]; exact size_mk _
        have htm := ht.out t (List.mem_of_getElem? htl)
        have htx : tt.size ≤ 9223372036854775807 := by rw [htz]; exact htm
        rw [htt] at q1
        by_cases h1 : (100 : Int) < (tt.size : Int)
        · clear htl htt htz htm q0 q2 q3
          by_cases hk0 : k = 0
          · subst hk0
            have q1a : w1.cell? ⟨ad.block, ad.off + 1, none⟩ = some (.string tt) := q1
            go_wp2_with fail
            go_ret
            exact ⟨rfl, HB1.out⟩
          · go_wp2_with fail
            go_ret
            exact ⟨rfl, HB1.out⟩
        · have hnx : Hid (∀ (j : Nat) (t : ATok), j < k + 1 → l[j]? = some t → t.text.length ≤ 100) := by
            intro j u hj hu
            by_cases e : j = k
            · subst e
              rw [htl] at hu
              injection hu with hu
              rw [← hu]; omega
            · exact HA.out j u (by omega) hu
          have h1' : (tt.size : Int) ≤ 100 := by omega
          clear htl htt htz htm q0 q2 q3 h1
          by_cases hk0 : k = 0
          · subst hk0
            have q1a : w1.cell? ⟨ad.block, ad.off + 1, none⟩ = some (.string tt) := q1
            go_wp2_with fail
            go_round
            case rel => exact ⟨0 + 1, by omega, by go_num, hnx⟩
            case measure => simp [RowKit.intOf]; omega
          · go_wp2_with fail
            go_round
            case rel => exact ⟨k + 1, by omega, by go_num, hnx⟩
            case measure => simp [RowKit.intOf]; omega
      · obtain rfl : k = n := by omega
        have HT : Hid (∀ t ∈ l, t.text.length ≤ 100) := by
          intro t htm
          obtain ⟨j, hj, e⟩ := List.mem_iff_getElem.1 htm
          have hjn : j < k := by rw [← hn.out]; exact hj
          exact HA.out j t hjn (by rw [List.getElem?_eq_getElem hj, e])
        clear HA hk hlt
        go_wp2_with fail
        refine (C2.out _).mono ?_
        rintro e w' ⟨rfl, rfl⟩
        go_wp2_with fail
        refine (Scan_any x _ (hE.out.on HB1.out)).mono ?_
        rintro e w2 he
        obtain ⟨A1, c1, rfl, ho, hb⟩ := SV.out _ _ _ he
        have HO2 := Lib.hid ho
        have HB2 : Hid (Below w.heap.size w w2) := HB1.out.trans (hb.mono HB1.out.size)
        clear he ho hb
        go_wp2_with fail
        refine (refScan_any x _).mono ?_
        rintro e w3 he
        obtain ⟨A2, c2, rfl, ho, hb⟩ := SV.out _ _ _ he
        have HO3 := Lib.hid (own_on HO2.out hb)
        have HQ3 := Lib.hid ho
        have HB3 : Hid (Below w.heap.size w w3) := HB2.out.trans (hb.mono HB2.out.size)
        clear he ho hb HO2
        go_wp2_with fail
        refine (Number_any x _ (by omega) (hE.out.on HB3.out)).mono ?_
        rintro e w4 he
        obtain ⟨rfl, hb⟩ := NV1.out _ _ _ he
        have HO4 := Lib.hid (own_on HO3.out hb)
        have HQ4 := Lib.hid (own_on HQ3.out hb)
        have HB4 : Hid (Below w.heap.size w w4) := HB3.out.trans (hb.mono HB3.out.size)
        clear he hb HO3 HQ3
        go_wp2_with fail
        refine (refNumber_any x _ (by omega)).mono ?_
        rintro e w' he
        obtain ⟨rfl, rfl⟩ := NV2.out _ _ _ he
        clear he
        go_wp2_with fail
        refine (Quote_any x _ (by omega) (hE.out.on HB4.out)).mono ?_
        rintro e w5 he
        obtain ⟨rfl, hb⟩ := QV1.out _ _ _ he
        have HO5 := Lib.hid (own_on HO4.out hb)
        have HQ5 := Lib.hid (own_on HQ4.out hb)
        have HB5 : Hid (Below w.heap.size w w5) := HB4.out.trans (hb.mono HB4.out.size)
        clear he hb HO4 HQ4
        go_wp2_with fail
        refine (refQuote_any x _ (by omega)).mono ?_
        rintro e w' ⟨rfl, rfl⟩
        rw [QV2.out]
        go_wp2_with fail
        refine (Same_yes A1 A2 m c1 c2 w5.heap.size (ts.map toA) w5 (own_reads HO5.out) (own_reads HQ5.out) (Nat.le_refl _) (by show (ts.map toA).length = m; rw [List.length_map]; exact HTS.out) (by omega)).mono ?_
        rintro e w6 ⟨rfl, hb⟩
        have HB6 : Hid (Below w.heap.size w w6) := HB5.out.trans (hb.mono HB5.out.size)
        clear hb HO5 HQ5
        go_wp2_with fail
        refine (Name_any x w6 (by omega)).mono ?_
        rintro e w' ⟨rfl, rfl⟩
        rw [NM.out]
        go_wp2_with fail
        refine (refName_any x w6 (by omega)).mono ?_
        rintro e w' ⟨rfl, rfl⟩
        rw [NM.out]
        go_wp2_with fail
        refine (Print_any A k c w.heap.size l w6 (below_reads hr.out (Nat.le_refl _) HB6.out) HB6.out.size hn.out (by omega) (fun t ht => by have := HT.out t ht; omega) (hE.out.on HB6.out)).mono ?_
        rintro e w7 ⟨rfl, hb⟩
        rw [← HP.out]
        have HB7 : Hid (Below w.heap.size w w7) := HB6.out.trans (hb.mono HB6.out.size)
        clear hb
        go_wp2_with fail
        refine (refPrint_any A k c w.heap.size l w7 (below_reads hr.out (Nat.le_refl _) HB7.out) hn.out (by omega) HT).mono ?_
        rintro e w' ⟨rfl, rfl⟩
        rw [← HP.out]
        go_wp2_with fail
        go_ret
        exact ⟨by simp, HB7.out⟩
end Go.Proofs.YtkhkdgkafocpoaaDoor
