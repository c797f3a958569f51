/- The walk of the statement WirePrefix: no encoding begins with another one. Conditions: the table of strconv holds what its text lays. -/
import Derived.Test.YtkkaancpokahcaaDoorBack
namespace Go.Proofs.YtkkaancpokahcaaDoor
open Go.RowKit Go.Lib

theorem vs_one {w : World} {x : Va} {A1 : Option Addr} {c1 : Nat} {A2 : Option Addr} {c2 : Nat} {N B : Nat} (hN : Blk w N 25 #[.int .i64 x.k, .int .i64 x.n, .string x.s, .slice A1 x.l.length c1, .slice A2 x.t.length c2]) (hNB : N < B)
    (hr1 : Reads w B 1 A1 x.l.length (x.l.map (Value.int .i64))) (hr2 : Reads w B 1 A2 x.t.length (x.t.map Value.string)) : VsIs w B (some ⟨N, 0, none⟩) 1 [x] := by
  refine ⟨rfl, fun _ => ⟨_, rfl, hNB, fun i hi => ?_⟩⟩
  have hi0 : i = 0 := by simp at hi; omega
  subst hi0
  exact ⟨_, _, _, _, _, ⟨A1, c1, A2, c2, rfl, rfl, rfl, rfl, rfl, hr1, hr2⟩, Blk.cell hN 0, Blk.cell hN 1, Blk.cell hN 2, Blk.cell hN 3, Blk.cell hN 4⟩

theorem few_one {b : Bool} (x : Va) {A1 : Option Addr} {c1 : Nat} {A2 : Option Addr} {c2 : Nat} (W : World) (N B : Nat) (hN : Blk W N 25 #[.int .i64 x.k, .int .i64 x.n, .string x.s, .slice A1 x.l.length c1, .slice A2 x.t.length c2])
    (hr1 : Reads W B 1 A1 x.l.length (x.l.map (Value.int .i64))) (hr2 : Reads W B 1 A2 x.t.length (x.t.map Value.string)) (hNB : N < B) (hf : x.Fits) (hfe : fewB [x] = b) :
    Calls Tryd.prog 10 #[.slice (some ⟨N, 0, none⟩) 1 1] W fun e w' => e = .returned (.bool b) ∧ Drawn W w' := by
  subst hfe
  exact few_any _ 1 1 B [x] W (vs_one hN hNB hr1 hr2) (by omega) (fun z hz => by
    have : z = x := by simpa using hz
    rw [this]
    exact hf)
theorem blk_heap {w W : World} {g : Nat} {t : TypeId} {cs : Array Value} (h : W.heap = w.heap) (hb : Blk w g t cs) : Blk W g t cs := by
  unfold Blk at *
  rw [h]
  exact hb
theorem cell_heap {w W : World} (h : W.heap = w.heap) (a : Addr) : W.cell? a = w.cell? a := World.cell?_of_block (by rw [h])
theorem reads_heap {w W : World} {B size n : Nat} {A : Option Addr} {xs : List Value} (h : W.heap = w.heap) (hb : Reads w B size A n xs) : Reads W B size A n xs := hb.keep fun p _ => cell_heap h p
theorem okx {x : Va} (h : fewB [x] = true) : x.okB = true := (few_parts h).2 x (by simp)
theorem take_beq {t s : ByteArray} {k : Nat} : ((t.extract 0 k).toList == s.toList) = (t.data.toList.take k == s.data.toList) := by
  rw [Lib.toList_data, Lib.toList_data, Lib.extract_from_zero]
theorem pre_no' {t s : ByteArray} (h : ¬ t.data.toList.take s.size = s.data.toList) (hle : s.size ≤ t.size) : ((t.extract 0 (min (s.size : Int) (t.size : Int)).toNat).toList == s.toList) = false := by
  rw [take_beq, show (min (s.size : Int) (t.size : Int)).toNat = s.size by omega]
  simpa using h
theorem pre_no2 {t s : ByteArray} (h : ¬ t.data.toList.take s.size = s.data.toList) (hle : s.size ≤ t.size) : ((t.extract 0 (min (s.size : Int) (t.size : Int)).toNat).toList != s.toList) = true := by
  rw [bne, pre_no' h hle]
  rfl
theorem enc_prefix {x y : Va} {r : List UInt8} (hx : x.Fits) (hy : y.Fits) (hk : x.k % 5 = y.k % 5) (h : encV y = encV x ++ r) : encV y = encV x := by
  have key {α : Type} {p : List UInt8 → Option (α × List UInt8)} {enc : α → List UInt8} {ok : α → Prop} (hc : Codec p enc ok) (a b : α) (ha : ok a) (hb : ok b) (he : enc b = enc a ++ r) : r = [] := by
    have h1 := (hc (enc b) b []).2 ⟨hb, by simp⟩
    have h2 := (hc (enc b) a r).2 ⟨ha, he⟩
    rw [h1] at h2
    simp only [Option.some.injEq, Prod.mk.injEq] at h2
    exact h2.2.symm
  have hr : r = [] := by
    have h5 : y.k % 5 = 0 ∨ y.k % 5 = 1 ∨ y.k % 5 = 2 ∨ y.k % 5 = 3 ∨ y.k % 5 = 4 := by omega
    unfold encV at h
    rw [hk] at h
    rcases h5 with h5 | h5 | h5 | h5 | h5
    · rw [if_pos h5, if_pos h5] at h
      have h1 := numberP_in hx.n0 hx.n1
      have h2 := numberP_in hy.n0 hy.n1
      exact key int_codec (numberP x.n) (numberP y.n) (by omega) (by omega) h
    · rw [if_neg (by omega), if_pos h5, if_neg (by omega), if_pos h5] at h
      exact key int_codec x.n y.n ⟨hx.n0, hx.n1⟩ ⟨hy.n0, hy.n1⟩ h
    · rw [if_neg (by omega), if_neg (by omega), if_pos h5, if_neg (by omega), if_neg (by omega), if_pos h5] at h
      exact key text_codec x.s.data.toList y.s.data.toList (show x.s.data.toList.length ≤ _ by rw [len_eq]; exact hx.s1) (show y.s.data.toList.length ≤ _ by rw [len_eq]; exact hy.s1) h
    · rw [if_neg (by omega), if_neg (by omega), if_neg (by omega), if_pos h5, if_neg (by omega), if_neg (by omega), if_neg (by omega), if_pos h5] at h
      exact key (list_codec int_codec) x.l y.l ⟨hx.l1, hx.li⟩ ⟨hy.l1, hy.li⟩ h
    · rw [if_neg (by omega), if_neg (by omega), if_neg (by omega), if_neg (by omega), if_neg (by omega), if_neg (by omega), if_neg (by omega), if_neg (by omega), ← texts_enc', ← texts_enc'] at h
      have hm (z : Va) (hz : z.Fits) : (z.t.map (·.data.toList)).length ≤ 9223372036854775807 ∧ ∀ u ∈ z.t.map (·.data.toList), u.length ≤ 9223372036854775807 := ⟨by rw [List.length_map]; exact hz.t1, fun u hu => by
        obtain ⟨v, hv, rfl⟩ := List.mem_map.1 hu
        show v.data.toList.length ≤ _
        rw [len_eq]
        exact hz.ti v hv⟩
      exact key (list_codec text_codec) (x.t.map (·.data.toList)) (y.t.map (·.data.toList)) (hm x hx) (hm y hy) h
  rw [h, hr, List.append_nil]
theorem push_heap {w v : World} {o : Obj} (h : w.heap = v.heap) : (w.alloc o).heap = (v.alloc o).heap := by
  show w.heap.push o = v.heap.push o
  rw [h]
theorem push_size {w v : World} {o : Obj} (h : w.heap = (v.alloc o).heap) : w.heap.size = v.heap.size + 1 := by
  rw [h]
  simp
theorem two_size {w v : World} {o1 o2 : Obj} {N : Nat} (h : w.heap = ((v.alloc o1).alloc o2).heap) (hN : N + 1 < v.heap.size) : N + 2 ≤ w.heap.size := by
  rw [h]
  simp
  omega
theorem below_thru {w v v' w4 : World} {B : Nat} (h : Below B w v) (hd : Drawn v' w4) (he : v'.os = v.os ∧ v'.tape = v.tape ∧ v'.output = v.output ∧ v'.heap = v.heap) : Below B w w4 := by
  obtain ⟨d, rfl⟩ := hd
  obtain ⟨e1, e2, e3, e4⟩ := he
  exact ⟨e1.trans h.os, e2.trans h.tape, e3.trans h.output, by show w.heap.size ≤ v'.heap.size; rw [e4]; exact h.size, fun k hk => by show v'.heap[k]? = _; rw [e4]; exact h.block k hk⟩
theorem two_heap {w w' : World} {x y : Va} {A1 A2 B1 B2 : Option Addr} {c1 c2 e1 e2 N : Nat} (hh : w'.heap = w.heap) (h : w.cell? ⟨N, 0, none⟩ = some (.int .i64 x.k) ∧ w.cell? ⟨N, 1, none⟩ = some (.int .i64 x.n) ∧ w.cell? ⟨N, 2, none⟩ = some (.string x.s) ∧ w.cell? ⟨N, 3, none⟩ = some (.slice A1 x.l.length c1) ∧ w.cell? ⟨N, 4, none⟩ = some (.slice A2 x.t.length c2) ∧ w.cell? ⟨N + 1, 0, none⟩ = some (.int .i64 y.k) ∧ w.cell? ⟨N + 1, 1, none⟩ = some (.int .i64 y.n) ∧ w.cell? ⟨N + 1, 2, none⟩ = some (.string y.s) ∧ w.cell? ⟨N + 1, 3, none⟩ = some (.slice B1 y.l.length e1) ∧ w.cell? ⟨N + 1, 4, none⟩ = some (.slice B2 y.t.length e2)) : w'.cell? ⟨N, 0, none⟩ = some (.int .i64 x.k) ∧ w'.cell? ⟨N, 1, none⟩ = some (.int .i64 x.n) ∧ w'.cell? ⟨N, 2, none⟩ = some (.string x.s) ∧ w'.cell? ⟨N, 3, none⟩ = some (.slice A1 x.l.length c1) ∧ w'.cell? ⟨N, 4, none⟩ = some (.slice A2 x.t.length c2) ∧ w'.cell? ⟨N + 1, 0, none⟩ = some (.int .i64 y.k) ∧ w'.cell? ⟨N + 1, 1, none⟩ = some (.int .i64 y.n) ∧ w'.cell? ⟨N + 1, 2, none⟩ = some (.string y.s) ∧ w'.cell? ⟨N + 1, 3, none⟩ = some (.slice B1 y.l.length e1) ∧ w'.cell? ⟨N + 1, 4, none⟩ = some (.slice B2 y.t.length e2) := by
  obtain ⟨g0, g1, g2, g3, g4, k0, k1, k2, k3, k4⟩ := h
  exact ⟨(cell_heap hh _).trans g0, (cell_heap hh _).trans g1, (cell_heap hh _).trans g2, (cell_heap hh _).trans g3, (cell_heap hh _).trans g4, (cell_heap hh _).trans k0, (cell_heap hh _).trans k1, (cell_heap hh _).trans k2, (cell_heap hh _).trans k3, (cell_heap hh _).trans k4⟩
theorem two_cells {w : World} {x y : Va} {A1 A2 B1 B2 : Option Addr} {c1 c2 e1 e2 N : Nat} (hX : Blk w N 25 #[.int .i64 x.k, .int .i64 x.n, .string x.s, .slice A1 x.l.length c1, .slice A2 x.t.length c2])
    (hY : Blk w (N + 1) 25 #[.int .i64 y.k, .int .i64 y.n, .string y.s, .slice B1 y.l.length e1, .slice B2 y.t.length e2]) :
    w.cell? ⟨N, 0, none⟩ = some (.int .i64 x.k) ∧ w.cell? ⟨N, 1, none⟩ = some (.int .i64 x.n) ∧ w.cell? ⟨N, 2, none⟩ = some (.string x.s) ∧ w.cell? ⟨N, 3, none⟩ = some (.slice A1 x.l.length c1) ∧ w.cell? ⟨N, 4, none⟩ = some (.slice A2 x.t.length c2) ∧ w.cell? ⟨N + 1, 0, none⟩ = some (.int .i64 y.k) ∧ w.cell? ⟨N + 1, 1, none⟩ = some (.int .i64 y.n) ∧ w.cell? ⟨N + 1, 2, none⟩ = some (.string y.s) ∧ w.cell? ⟨N + 1, 3, none⟩ = some (.slice B1 y.l.length e1) ∧ w.cell? ⟨N + 1, 4, none⟩ = some (.slice B2 y.t.length e2) :=
  ⟨Blk.cell hX 0, Blk.cell hX 1, Blk.cell hX 2, Blk.cell hX 3, Blk.cell hX 4, Blk.cell hY 0, Blk.cell hY 1, Blk.cell hY 2, Blk.cell hY 3, Blk.cell hY 4⟩
theorem two_below {w w' : World} {x y : Va} {A1 A2 B1 B2 : Option Addr} {c1 c2 e1 e2 N : Nat} {B : Nat} (h : w.cell? ⟨N, 0, none⟩ = some (.int .i64 x.k) ∧ w.cell? ⟨N, 1, none⟩ = some (.int .i64 x.n) ∧ w.cell? ⟨N, 2, none⟩ = some (.string x.s) ∧ w.cell? ⟨N, 3, none⟩ = some (.slice A1 x.l.length c1) ∧ w.cell? ⟨N, 4, none⟩ = some (.slice A2 x.t.length c2) ∧ w.cell? ⟨N + 1, 0, none⟩ = some (.int .i64 y.k) ∧ w.cell? ⟨N + 1, 1, none⟩ = some (.int .i64 y.n) ∧ w.cell? ⟨N + 1, 2, none⟩ = some (.string y.s) ∧ w.cell? ⟨N + 1, 3, none⟩ = some (.slice B1 y.l.length e1) ∧ w.cell? ⟨N + 1, 4, none⟩ = some (.slice B2 y.t.length e2)) (hN : N + 2 ≤ B) (hb : Below B w w') : w'.cell? ⟨N, 0, none⟩ = some (.int .i64 x.k) ∧ w'.cell? ⟨N, 1, none⟩ = some (.int .i64 x.n) ∧ w'.cell? ⟨N, 2, none⟩ = some (.string x.s) ∧ w'.cell? ⟨N, 3, none⟩ = some (.slice A1 x.l.length c1) ∧ w'.cell? ⟨N, 4, none⟩ = some (.slice A2 x.t.length c2) ∧ w'.cell? ⟨N + 1, 0, none⟩ = some (.int .i64 y.k) ∧ w'.cell? ⟨N + 1, 1, none⟩ = some (.int .i64 y.n) ∧ w'.cell? ⟨N + 1, 2, none⟩ = some (.string y.s) ∧ w'.cell? ⟨N + 1, 3, none⟩ = some (.slice B1 y.l.length e1) ∧ w'.cell? ⟨N + 1, 4, none⟩ = some (.slice B2 y.t.length e2) := by
  obtain ⟨g0, g1, g2, g3, g4, k0, k1, k2, k3, k4⟩ := h
  exact ⟨(hb.cell (p := ⟨N, 0, none⟩) (by show N < B; omega)).trans g0, (hb.cell (p := ⟨N, 1, none⟩) (by show N < B; omega)).trans g1, (hb.cell (p := ⟨N, 2, none⟩) (by show N < B; omega)).trans g2, (hb.cell (p := ⟨N, 3, none⟩) (by show N < B; omega)).trans g3, (hb.cell (p := ⟨N, 4, none⟩) (by show N < B; omega)).trans g4, (hb.cell (p := ⟨N + 1, 0, none⟩) (by show N + 1 < B; omega)).trans k0, (hb.cell (p := ⟨N + 1, 1, none⟩) (by show N + 1 < B; omega)).trans k1, (hb.cell (p := ⟨N + 1, 2, none⟩) (by show N + 1 < B; omega)).trans k2, (hb.cell (p := ⟨N + 1, 3, none⟩) (by show N + 1 < B; omega)).trans k3, (hb.cell (p := ⟨N + 1, 4, none⟩) (by show N + 1 < B; omega)).trans k4⟩

set_option maxHeartbeats 2000000 in
theorem prefix_d (x y : Va) (A1 : Option Addr) (c1 : Nat) (A2 : Option Addr) (c2 : Nat) (B1 : Option Addr) (e1 : Nat) (B2 : Option Addr) (e2 : Nat) (w : World) (ht : Tab w) (hx : x.Fits) (hy : y.Fits)
    (hx1 : Reads w w.heap.size 1 A1 x.l.length (x.l.map (Value.int .i64))) (hx2 : Reads w w.heap.size 1 A2 x.t.length (x.t.map Value.string))
    (hy1 : Reads w w.heap.size 1 B1 y.l.length (y.l.map (Value.int .i64))) (hy2 : Reads w w.heap.size 1 B2 y.t.length (y.t.map Value.string))
    (hfx : fewB [x] = true) (hfy : fewB [y] = true) (hk : x.k % 5 = y.k % 5) :
    Calls Tryd.prog 7 #[aggV x A1 c1 A2 c2, aggV y B1 e1 B2 e2] w fun e w' => e = .returned (.bool true) ∧ Below w.heap.size w w' := by
  have b1 : Below w.heap.size w (w.alloc (boxV x A1 c1 A2 c2)) := (Below.refl _ _).alloc (Nat.le_refl _) _
  have b2 : Below w.heap.size w ((w.alloc (boxV x A1 c1 A2 c2)).alloc (boxV y B1 e1 B2 e2)) := b1.alloc b1.size _
  have hX : Blk ((w.alloc (boxV x A1 c1 A2 c2)).alloc (boxV y B1 e1 B2 e2)) w.heap.size 25 #[.int .i64 x.k, .int .i64 x.n, .string x.s, .slice A1 x.l.length c1, .slice A2 x.t.length c2] := (Blk.new _ _ _).alloc _
  have hY : Blk ((w.alloc (boxV x A1 c1 A2 c2)).alloc (boxV y B1 e1 B2 e2)) (w.heap.size + 1) 25 #[.int .i64 y.k, .int .i64 y.n, .string y.s, .slice B1 y.l.length e1, .slice B2 y.t.length e2] := by
    have := Blk.new (w.alloc (boxV x A1 c1 A2 c2)) 25 #[.int .i64 y.k, .int .i64 y.n, .string y.s, .slice B1 y.l.length e1, .slice B2 y.t.length e2]
    simpa [boxV] using this
  have HFX := Lib.hid hfx
  have HFY := Lib.hid hfy
  have HK := Lib.hid hk
  have ht2 := ht.on b2
  clear hfx hfy hk
  unfold aggV
  go_enter Tryd.func7, Tryd.ntmps7
  go_wp2_with fail
  refine (small_any _ ht2).mono ?_
  rintro e w3 ⟨rfl, b3⟩
  have hX3 := Blk.below hX b3 (Blk.lt hX)
  have hY3 := Blk.below hY b3 (Blk.lt hY)
  have q3 := blw b2 b3
  clear hX hY b3 b1 b2
  have hq3 : w.heap.size + 1 < w3.heap.size := Blk.lt hY3
  have hs3 := two_cells hX3 hY3
  have bA : Below w3.heap.size w3 (w3.alloc (boxV x A1 c1 A2 c2)) := (Below.refl _ _).alloc (Nat.le_refl _) _
  have bB : Below w3.heap.size w3 ((w3.alloc (boxV x A1 c1 A2 c2)).alloc (boxV y B1 e1 B2 e2)) := bA.alloc bA.size _
  have hsA := two_below hs3 hq3 bA
  have hsB := two_below hs3 hq3 bB
  have hbx : Blk (w3.alloc (boxV x A1 c1 A2 c2)) w3.heap.size 25 #[.int .i64 x.k, .int .i64 x.n, .string x.s, .slice A1 x.l.length c1, .slice A2 x.t.length c2] := Blk.new _ _ _
  have hby : Blk ((w3.alloc (boxV x A1 c1 A2 c2)).alloc (boxV y B1 e1 B2 e2)) (w3.heap.size + 1) 25 #[.int .i64 y.k, .int .i64 y.n, .string y.s, .slice B1 y.l.length e1, .slice B2 y.t.length e2] := by
    have := Blk.new (w3.alloc (boxV x A1 c1 A2 c2)) 25 #[.int .i64 y.k, .int .i64 y.n, .string y.s, .slice B1 y.l.length e1, .slice B2 y.t.length e2]
    simpa [boxV] using this
  have hle := q3.size
  have rx1 := (hx1.below (q3.trans (bA.mono hle))).more (show w.heap.size ≤ w3.heap.size + 2 by omega)
  have rx2 := (hx2.below (q3.trans (bA.mono hle))).more (show w.heap.size ≤ w3.heap.size + 2 by omega)
  have ry1 := (hy1.below (q3.trans (bB.mono hle))).more (show w.heap.size ≤ w3.heap.size + 2 by omega)
  have ry2 := (hy2.below (q3.trans (bB.mono hle))).more (show w.heap.size ≤ w3.heap.size + 2 by omega)
  have HX1 := Lib.hid hx1
  have HX2 := Lib.hid hx2
  have HY1 := Lib.hid hy1
  have HY2 := Lib.hid hy2
  have HOX := Lib.hid (okx HFX.out)
  have HOY := Lib.hid (okx HFY.out)
  have hkk : (x.k % 5 != y.k % 5) = false := by rw [HK.out]; simp
  have C1 := hide (show ∀ W : World, W.heap = (w3.alloc (boxV x A1 c1 A2 c2)).heap → Calls Tryd.prog 10 #[.slice (some ⟨w3.heap.size, 0, none⟩) 1 1] W fun e w' => e = .returned (.bool true) ∧ Drawn W w' from
    fun W hW => few_one x W w3.heap.size (w3.heap.size + 2) (blk_heap hW hbx) (reads_heap hW rx1) (reads_heap hW rx2) (by omega) hx HFX.out)
  have C2 := hide (show ∀ (W : World) (N : Nat), W.heap = ((w3.alloc (boxV x A1 c1 A2 c2)).alloc (boxV y B1 e1 B2 e2)).heap → N = w3.heap.size + 1 → Calls Tryd.prog 10 #[.slice (some ⟨N, 0, none⟩) 1 1] W fun e w' => e = .returned (.bool true) ∧ Drawn W w' from
    fun W N hW hN => by
      subst hN
      exact few_one y W (w3.heap.size + 1) (w3.heap.size + 2) (blk_heap hW hby) (reads_heap hW ry1) (reads_heap hW ry2) (by omega) hy HFY.out)
  obtain ⟨g0, g1, g2, g3, g4, k0, k1, k2, k3, k4⟩ := hs3
  have HSA := Lib.hid hsA
  have HSB := Lib.hid hsB
  have HT3 := Lib.hid ht
  have qA : Below w.heap.size w (w3.alloc (boxV x A1 c1 A2 c2)) := q3.trans (bA.mono hle)
  clear bA ht hX3 hY3 hx1 hx2 hy1 hy2 hbx hby rx1 rx2 ry1 ry2 hsA hsB
  go_wp2_with fail
  go_region_with (first | (go_at_call 10; ((with_reducible refine ((unhide C1) _ ?_).mono ?_); (next => rfl)); rintro e w4 ⟨rfl, hd4⟩; have hh4 := Lib.hid (show w4.heap = (w3.alloc (boxV x A1 c1 A2 c2)).heap from hd4.heap); have q4 := below_thru qA hd4 ⟨rfl, rfl, rfl, rfl⟩; obtain ⟨p0, p1, p2, p3, p4, r0, r1, r2, r3, r4⟩ := two_heap hd4.heap HSA.out; clear hd4 g0 g1 g2 g3 g4 k0 k1 k2 k3 k4) | (go_at_call 10; ((with_reducible refine ((unhide C2) _ _ ?_ ?_).mono ?_); (next => exact push_heap hh4.out); (next => exact push_size hh4.out)); rintro e w5 ⟨rfl, hd5⟩; have hh5 := Lib.hid (hd5.heap.trans (push_heap hh4.out)); have q5 := below_thru (q4.alloc q4.size (boxV y B1 e1 B2 e2)) hd5 ⟨rfl, rfl, rfl, rfl⟩; have HS5 := Lib.hid (two_heap hh5.out HSB.out); obtain ⟨s0, s1, s2, s3, s4, t0, t1, t2, t3, t4⟩ := HS5.out; clear hd5 p0 p1 p2 p3 p4 r0 r1 r2 r3 r4) | (go_at_call 23; with_reducible refine (kind_any x.k _ _ _ _ _).mono ?_; rintro e w6 ⟨rfl, b6⟩; have p6 : Below w5.heap.size w5 w6 := ⟨b6.os, b6.tape, b6.output, b6.size, b6.block⟩; have q6 := blw q5 p6; obtain ⟨_, _, _, _, _, u0, u1, u2, u3, u4⟩ := two_below HS5.out (two_size hh5.out hq3) p6; clear b6) | (go_at_call 23; with_reducible refine (kind_any y.k _ _ _ _ _).mono ?_; rintro e w7 ⟨rfl, b7⟩; have p7 : Below w5.heap.size w5 w7 := blw p6 ⟨b7.os, b7.tape, b7.output, b7.size, b7.block⟩; have q7 := blw q5 p7; obtain ⟨s0, s1, s2, s3, s4, t0, t1, t2, t3, t4⟩ := two_below HS5.out (two_size hh5.out hq3) p7; clear b7))
  all_goals
    have ht7 := HT3.out.on q7
    have r1 := (HX1.out.below q7).more q7.size
    have r2 := (HX2.out.below q7).more q7.size
    go_wp2_with fail
    refine (write_any x A1 c1 A2 c2 _ ht7 hx HOX.out r1 r2).mono ?_
    rintro e w8 ⟨rfl, b8⟩
    have q8 := blw q7 b8
    have p8 := blw p7 b8
    clear s0 s1 s2 s3 s4 t0 t1 t2 t3 t4 r1 r2
    obtain ⟨_, _, _, _, _, t0, t1, t2, t3, t4⟩ := two_below HS5.out (two_size hh5.out hq3) p8
    have ht8 := HT3.out.on q8
    have r1 := (HY1.out.below q8).more q8.size
    have r2 := (HY2.out.below q8).more q8.size
    obtain ⟨s, hs⟩ : ∃ s : ByteArray, s = ⟨(encV x).toArray⟩ := ⟨_, rfl⟩
    rw [← hs]
    have HS := Lib.hid hs
    clear hs
    go_wp2_with fail
    refine (write_any y B1 e1 B2 e2 _ ht8 hy HOY.out r1 r2).mono ?_
    rintro e w9 ⟨rfl, b9⟩
    have q9 := blw q8 b9
    have p9 := blw p8 b9
    clear t0 t1 t2 t3 t4 r1 r2
    obtain ⟨t, htt⟩ : ∃ t : ByteArray, t = ⟨(encV y).toArray⟩ := ⟨_, rfl⟩
    rw [← htt]
    have HT := Lib.hid htt
    clear htt
    by_cases hlen : t.size < s.size
    · go_wp2_with fail
      go_ret
      exact ⟨rfl, q9⟩
    · have hle' : s.size ≤ t.size := by omega
      have hsm : s.size ≤ 9223372036854775807 := by rw [HS.out, size_of_list]; have := encV_len hx HOX.out; omega
      have htm : t.size ≤ 1099511627776 := by rw [HT.out, size_of_list]; have := encV_len hy HOY.out; omega
      by_cases hpre : t.data.toList.take s.size = s.data.toList
      · have hst : t = s := by
          have h1 : encV y = encV x ++ t.data.toList.drop s.size := by
            have h2 : t.data.toList = encV y := by rw [HT.out]
            have h3 : s.data.toList = encV x := by rw [HS.out]
            rw [← h2, ← h3, ← hpre, List.take_append_drop]
          have h4 := enc_prefix hx hy HK.out h1
          rw [HT.out, HS.out, h4]
        subst hst
        clear hpre hlen hle'
        have p9s := p9.size
        go_wp2_with fail
        refine (open_any _ _).mono ?_
        rintro e w10 ⟨rfl, hR10, b10⟩
        have q10 := blw q9 b10
        have p10 := blw p9 b10
        obtain ⟨_, _, _, _, _, t0, t1, t2, t3, t4⟩ := two_below HS5.out (two_size hh5.out hq3) p10
        have r1 := HY1.out.below q10
        have r2 := HY2.out.below q10
        go_wp2_with fail
        refine (equal_yes _ w.heap.size _ [] y B1 e1 B2 e2 _ hR10 htm hy q9.size r1 r2 (by rw [HT.out]; simp)).mono ?_
        rintro e w11 ⟨rfl, hR11, g11⟩
        have q11 := q10.trans (below_of_only g11 (by have := q9.size; have := q10.size; omega))
        clear t0 t1 t2 t3 t4
        go_wp2
        go_ret
        exact ⟨rfl, q11⟩
      · have hx1 := pre_no' hpre hle'
        have hx2 := pre_no2 hpre hle'
        clear hpre
        go_wp2_with fail
        go_ret
        exact ⟨rfl, q9⟩

set_option maxHeartbeats 2000000 in
theorem prefix_c (x y : Va) (A1 : Option Addr) (c1 : Nat) (A2 : Option Addr) (c2 : Nat) (B1 : Option Addr) (e1 : Nat) (B2 : Option Addr) (e2 : Nat) (w : World) (ht : Tab w) (hx : x.Fits) (hy : y.Fits)
    (hx1 : Reads w w.heap.size 1 A1 x.l.length (x.l.map (Value.int .i64))) (hx2 : Reads w w.heap.size 1 A2 x.t.length (x.t.map Value.string))
    (hy1 : Reads w w.heap.size 1 B1 y.l.length (y.l.map (Value.int .i64))) (hy2 : Reads w w.heap.size 1 B2 y.t.length (y.t.map Value.string))
    (hfx : fewB [x] = true) (hfy : fewB [y] = true) (hk : ¬ x.k % 5 = y.k % 5) :
    Calls Tryd.prog 7 #[aggV x A1 c1 A2 c2, aggV y B1 e1 B2 e2] w fun e w' => e = .returned (.bool true) ∧ Below w.heap.size w w' := by
  have b1 : Below w.heap.size w (w.alloc (boxV x A1 c1 A2 c2)) := (Below.refl _ _).alloc (Nat.le_refl _) _
  have b2 : Below w.heap.size w ((w.alloc (boxV x A1 c1 A2 c2)).alloc (boxV y B1 e1 B2 e2)) := b1.alloc b1.size _
  have hX : Blk ((w.alloc (boxV x A1 c1 A2 c2)).alloc (boxV y B1 e1 B2 e2)) w.heap.size 25 #[.int .i64 x.k, .int .i64 x.n, .string x.s, .slice A1 x.l.length c1, .slice A2 x.t.length c2] := (Blk.new _ _ _).alloc _
  have hY : Blk ((w.alloc (boxV x A1 c1 A2 c2)).alloc (boxV y B1 e1 B2 e2)) (w.heap.size + 1) 25 #[.int .i64 y.k, .int .i64 y.n, .string y.s, .slice B1 y.l.length e1, .slice B2 y.t.length e2] := by
    have := Blk.new (w.alloc (boxV x A1 c1 A2 c2)) 25 #[.int .i64 y.k, .int .i64 y.n, .string y.s, .slice B1 y.l.length e1, .slice B2 y.t.length e2]
    simpa [boxV] using this
  have HFX := Lib.hid hfx
  have HFY := Lib.hid hfy
  have HK := Lib.hid hk
  have ht2 := ht.on b2
  clear hfx hfy hk
  unfold aggV
  go_enter Tryd.func7, Tryd.ntmps7
  go_wp2_with fail
  refine (small_any _ ht2).mono ?_
  rintro e w3 ⟨rfl, b3⟩
  have hX3 := Blk.below hX b3 (Blk.lt hX)
  have hY3 := Blk.below hY b3 (Blk.lt hY)
  have q3 := blw b2 b3
  clear hX hY b3 b1 b2
  have hq3 : w.heap.size + 1 < w3.heap.size := Blk.lt hY3
  have hs3 := two_cells hX3 hY3
  have bA : Below w3.heap.size w3 (w3.alloc (boxV x A1 c1 A2 c2)) := (Below.refl _ _).alloc (Nat.le_refl _) _
  have bB : Below w3.heap.size w3 ((w3.alloc (boxV x A1 c1 A2 c2)).alloc (boxV y B1 e1 B2 e2)) := bA.alloc bA.size _
  have hsA := two_below hs3 hq3 bA
  have hsB := two_below hs3 hq3 bB
  have hbx : Blk (w3.alloc (boxV x A1 c1 A2 c2)) w3.heap.size 25 #[.int .i64 x.k, .int .i64 x.n, .string x.s, .slice A1 x.l.length c1, .slice A2 x.t.length c2] := Blk.new _ _ _
  have hby : Blk ((w3.alloc (boxV x A1 c1 A2 c2)).alloc (boxV y B1 e1 B2 e2)) (w3.heap.size + 1) 25 #[.int .i64 y.k, .int .i64 y.n, .string y.s, .slice B1 y.l.length e1, .slice B2 y.t.length e2] := by
    have := Blk.new (w3.alloc (boxV x A1 c1 A2 c2)) 25 #[.int .i64 y.k, .int .i64 y.n, .string y.s, .slice B1 y.l.length e1, .slice B2 y.t.length e2]
    simpa [boxV] using this
  have hle := q3.size
  have rx1 := (hx1.below (q3.trans (bA.mono hle))).more (show w.heap.size ≤ w3.heap.size + 2 by omega)
  have rx2 := (hx2.below (q3.trans (bA.mono hle))).more (show w.heap.size ≤ w3.heap.size + 2 by omega)
  have ry1 := (hy1.below (q3.trans (bB.mono hle))).more (show w.heap.size ≤ w3.heap.size + 2 by omega)
  have ry2 := (hy2.below (q3.trans (bB.mono hle))).more (show w.heap.size ≤ w3.heap.size + 2 by omega)
  have HX1 := Lib.hid hx1
  have HX2 := Lib.hid hx2
  have HY1 := Lib.hid hy1
  have HY2 := Lib.hid hy2
  have HOX := Lib.hid (okx HFX.out)
  have HOY := Lib.hid (okx HFY.out)
  have hkk : (x.k % 5 != y.k % 5) = true := by simpa using HK.out
  have C1 := hide (show ∀ W : World, W.heap = (w3.alloc (boxV x A1 c1 A2 c2)).heap → Calls Tryd.prog 10 #[.slice (some ⟨w3.heap.size, 0, none⟩) 1 1] W fun e w' => e = .returned (.bool true) ∧ Drawn W w' from
    fun W hW => few_one x W w3.heap.size (w3.heap.size + 2) (blk_heap hW hbx) (reads_heap hW rx1) (reads_heap hW rx2) (by omega) hx HFX.out)
  have C2 := hide (show ∀ (W : World) (N : Nat), W.heap = ((w3.alloc (boxV x A1 c1 A2 c2)).alloc (boxV y B1 e1 B2 e2)).heap → N = w3.heap.size + 1 → Calls Tryd.prog 10 #[.slice (some ⟨N, 0, none⟩) 1 1] W fun e w' => e = .returned (.bool true) ∧ Drawn W w' from
    fun W N hW hN => by
      subst hN
      exact few_one y W (w3.heap.size + 1) (w3.heap.size + 2) (blk_heap hW hby) (reads_heap hW ry1) (reads_heap hW ry2) (by omega) hy HFY.out)
  obtain ⟨g0, g1, g2, g3, g4, k0, k1, k2, k3, k4⟩ := hs3
  have HSA := Lib.hid hsA
  have HSB := Lib.hid hsB
  have HT3 := Lib.hid ht
  have qA : Below w.heap.size w (w3.alloc (boxV x A1 c1 A2 c2)) := q3.trans (bA.mono hle)
  clear bA ht hX3 hY3 hx1 hx2 hy1 hy2 hbx hby rx1 rx2 ry1 ry2 hsA hsB
  go_wp2_with fail
  go_region_with (first | (go_at_call 10; ((with_reducible refine ((unhide C1) _ ?_).mono ?_); (next => rfl)); rintro e w4 ⟨rfl, hd4⟩; have hh4 := Lib.hid (show w4.heap = (w3.alloc (boxV x A1 c1 A2 c2)).heap from hd4.heap); have q4 := below_thru qA hd4 ⟨rfl, rfl, rfl, rfl⟩; obtain ⟨p0, p1, p2, p3, p4, r0, r1, r2, r3, r4⟩ := two_heap hd4.heap HSA.out; clear hd4 g0 g1 g2 g3 g4 k0 k1 k2 k3 k4) | (go_at_call 10; ((with_reducible refine ((unhide C2) _ _ ?_ ?_).mono ?_); (next => exact push_heap hh4.out); (next => exact push_size hh4.out)); rintro e w5 ⟨rfl, hd5⟩; have hh5 := Lib.hid (hd5.heap.trans (push_heap hh4.out)); have q5 := below_thru (q4.alloc q4.size (boxV y B1 e1 B2 e2)) hd5 ⟨rfl, rfl, rfl, rfl⟩; have HS5 := Lib.hid (two_heap hh5.out HSB.out); obtain ⟨s0, s1, s2, s3, s4, t0, t1, t2, t3, t4⟩ := HS5.out; clear hd5 p0 p1 p2 p3 p4 r0 r1 r2 r3 r4) | (go_at_call 23; with_reducible refine (kind_any x.k _ _ _ _ _).mono ?_; rintro e w6 ⟨rfl, b6⟩; have p6 : Below w5.heap.size w5 w6 := ⟨b6.os, b6.tape, b6.output, b6.size, b6.block⟩; have q6 := blw q5 p6; obtain ⟨_, _, _, _, _, u0, u1, u2, u3, u4⟩ := two_below HS5.out (two_size hh5.out hq3) p6; clear b6) | (go_at_call 23; with_reducible refine (kind_any y.k _ _ _ _ _).mono ?_; rintro e w7 ⟨rfl, b7⟩; have p7 : Below w5.heap.size w5 w7 := blw p6 ⟨b7.os, b7.tape, b7.output, b7.size, b7.block⟩; have q7 := blw q5 p7; obtain ⟨s0, s1, s2, s3, s4, t0, t1, t2, t3, t4⟩ := two_below HS5.out (two_size hh5.out hq3) p7; clear b7))
  all_goals
    go_wp2
    go_ret
    exact ⟨rfl, q7⟩

set_option maxHeartbeats 2000000 in
theorem prefix_b (x y : Va) (A1 : Option Addr) (c1 : Nat) (A2 : Option Addr) (c2 : Nat) (B1 : Option Addr) (e1 : Nat) (B2 : Option Addr) (e2 : Nat) (w : World) (ht : Tab w) (hx : x.Fits) (hy : y.Fits)
    (hx1 : Reads w w.heap.size 1 A1 x.l.length (x.l.map (Value.int .i64))) (hx2 : Reads w w.heap.size 1 A2 x.t.length (x.t.map Value.string))
    (hy1 : Reads w w.heap.size 1 B1 y.l.length (y.l.map (Value.int .i64))) (hy2 : Reads w w.heap.size 1 B2 y.t.length (y.t.map Value.string))
    (hfx : fewB [x] = true) (hfy : fewB [y] = false) :
    Calls Tryd.prog 7 #[aggV x A1 c1 A2 c2, aggV y B1 e1 B2 e2] w fun e w' => e = .returned (.bool true) ∧ Below w.heap.size w w' := by
  have b1 : Below w.heap.size w (w.alloc (boxV x A1 c1 A2 c2)) := (Below.refl _ _).alloc (Nat.le_refl _) _
  have b2 : Below w.heap.size w ((w.alloc (boxV x A1 c1 A2 c2)).alloc (boxV y B1 e1 B2 e2)) := b1.alloc b1.size _
  have hX : Blk ((w.alloc (boxV x A1 c1 A2 c2)).alloc (boxV y B1 e1 B2 e2)) w.heap.size 25 #[.int .i64 x.k, .int .i64 x.n, .string x.s, .slice A1 x.l.length c1, .slice A2 x.t.length c2] := (Blk.new _ _ _).alloc _
  have hY : Blk ((w.alloc (boxV x A1 c1 A2 c2)).alloc (boxV y B1 e1 B2 e2)) (w.heap.size + 1) 25 #[.int .i64 y.k, .int .i64 y.n, .string y.s, .slice B1 y.l.length e1, .slice B2 y.t.length e2] := by
    have := Blk.new (w.alloc (boxV x A1 c1 A2 c2)) 25 #[.int .i64 y.k, .int .i64 y.n, .string y.s, .slice B1 y.l.length e1, .slice B2 y.t.length e2]
    simpa [boxV] using this
  have HFX := Lib.hid hfx
  have HFY := Lib.hid hfy
  have ht2 := ht.on b2
  clear hfx hfy
  unfold aggV
  go_enter Tryd.func7, Tryd.ntmps7
  go_wp2_with fail
  refine (small_any _ ht2).mono ?_
  rintro e w3 ⟨rfl, b3⟩
  have hX3 := Blk.below hX b3 (Blk.lt hX)
  have hY3 := Blk.below hY b3 (Blk.lt hY)
  have q3 := blw b2 b3
  clear hX hY b3 b1 b2
  have hq3 : w.heap.size + 1 < w3.heap.size := Blk.lt hY3
  have hs3 := two_cells hX3 hY3
  have bA : Below w3.heap.size w3 (w3.alloc (boxV x A1 c1 A2 c2)) := (Below.refl _ _).alloc (Nat.le_refl _) _
  have bB : Below w3.heap.size w3 ((w3.alloc (boxV x A1 c1 A2 c2)).alloc (boxV y B1 e1 B2 e2)) := bA.alloc bA.size _
  have hsA := two_below hs3 hq3 bA
  have hsB := two_below hs3 hq3 bB
  have hbx : Blk (w3.alloc (boxV x A1 c1 A2 c2)) w3.heap.size 25 #[.int .i64 x.k, .int .i64 x.n, .string x.s, .slice A1 x.l.length c1, .slice A2 x.t.length c2] := Blk.new _ _ _
  have hby : Blk ((w3.alloc (boxV x A1 c1 A2 c2)).alloc (boxV y B1 e1 B2 e2)) (w3.heap.size + 1) 25 #[.int .i64 y.k, .int .i64 y.n, .string y.s, .slice B1 y.l.length e1, .slice B2 y.t.length e2] := by
    have := Blk.new (w3.alloc (boxV x A1 c1 A2 c2)) 25 #[.int .i64 y.k, .int .i64 y.n, .string y.s, .slice B1 y.l.length e1, .slice B2 y.t.length e2]
    simpa [boxV] using this
  have hle := q3.size
  have rx1 := (hx1.below (q3.trans (bA.mono hle))).more (show w.heap.size ≤ w3.heap.size + 2 by omega)
  have rx2 := (hx2.below (q3.trans (bA.mono hle))).more (show w.heap.size ≤ w3.heap.size + 2 by omega)
  have ry1 := (hy1.below (q3.trans (bB.mono hle))).more (show w.heap.size ≤ w3.heap.size + 2 by omega)
  have ry2 := (hy2.below (q3.trans (bB.mono hle))).more (show w.heap.size ≤ w3.heap.size + 2 by omega)
  have C1 := hide (show ∀ W : World, W.heap = (w3.alloc (boxV x A1 c1 A2 c2)).heap → Calls Tryd.prog 10 #[.slice (some ⟨w3.heap.size, 0, none⟩) 1 1] W fun e w' => e = .returned (.bool true) ∧ Drawn W w' from
    fun W hW => few_one x W w3.heap.size (w3.heap.size + 2) (blk_heap hW hbx) (reads_heap hW rx1) (reads_heap hW rx2) (by omega) hx HFX.out)
  have C2 := hide (show ∀ (W : World) (N : Nat), W.heap = ((w3.alloc (boxV x A1 c1 A2 c2)).alloc (boxV y B1 e1 B2 e2)).heap → N = w3.heap.size + 1 → Calls Tryd.prog 10 #[.slice (some ⟨N, 0, none⟩) 1 1] W fun e w' => e = .returned (.bool false) ∧ Drawn W w' from
    fun W N hW hN => by
      subst hN
      exact few_one y W (w3.heap.size + 1) (w3.heap.size + 2) (blk_heap hW hby) (reads_heap hW ry1) (reads_heap hW ry2) (by omega) hy HFY.out)
  obtain ⟨g0, g1, g2, g3, g4, k0, k1, k2, k3, k4⟩ := hs3
  have HSA := Lib.hid hsA
  have HSB := Lib.hid hsB
  have HT3 := Lib.hid ht
  have qA : Below w.heap.size w (w3.alloc (boxV x A1 c1 A2 c2)) := q3.trans (bA.mono hle)
  clear bA ht hX3 hY3 hx1 hx2 hy1 hy2 hbx hby rx1 rx2 ry1 ry2 hsA hsB
  go_wp2_with fail
  go_region_with (first | (go_at_call 10; ((with_reducible refine ((unhide C1) _ ?_).mono ?_); (next => rfl)); rintro e w4 ⟨rfl, hd4⟩; have hh4 := Lib.hid (show w4.heap = (w3.alloc (boxV x A1 c1 A2 c2)).heap from hd4.heap); have q4 := below_thru qA hd4 ⟨rfl, rfl, rfl, rfl⟩; obtain ⟨p0, p1, p2, p3, p4, r0, r1, r2, r3, r4⟩ := two_heap hd4.heap HSA.out; clear hd4 g0 g1 g2 g3 g4 k0 k1 k2 k3 k4) | (go_at_call 10; ((with_reducible refine ((unhide C2) _ _ ?_ ?_).mono ?_); (next => exact push_heap hh4.out); (next => exact push_size hh4.out)); rintro e w5 ⟨rfl, hd5⟩; have hh5 := Lib.hid (hd5.heap.trans (push_heap hh4.out)); have q5 := below_thru (q4.alloc q4.size (boxV y B1 e1 B2 e2)) hd5 ⟨rfl, rfl, rfl, rfl⟩; have HS5 := Lib.hid (two_heap hh5.out HSB.out); obtain ⟨s0, s1, s2, s3, s4, t0, t1, t2, t3, t4⟩ := HS5.out; clear hd5 p0 p1 p2 p3 p4 r0 r1 r2 r3 r4))
  all_goals
    go_wp2
    go_ret
    exact ⟨rfl, q5⟩

set_option maxHeartbeats 2000000 in
theorem prefix_a (x y : Va) (A1 : Option Addr) (c1 : Nat) (A2 : Option Addr) (c2 : Nat) (B1 : Option Addr) (e1 : Nat) (B2 : Option Addr) (e2 : Nat) (w : World) (ht : Tab w) (hx : x.Fits) (_hy : y.Fits)
    (hx1 : Reads w w.heap.size 1 A1 x.l.length (x.l.map (Value.int .i64))) (hx2 : Reads w w.heap.size 1 A2 x.t.length (x.t.map Value.string))
    (hy1 : Reads w w.heap.size 1 B1 y.l.length (y.l.map (Value.int .i64))) (hy2 : Reads w w.heap.size 1 B2 y.t.length (y.t.map Value.string))
    (hfx : fewB [x] = false) :
    Calls Tryd.prog 7 #[aggV x A1 c1 A2 c2, aggV y B1 e1 B2 e2] w fun e w' => e = .returned (.bool true) ∧ Below w.heap.size w w' := by
  have b1 : Below w.heap.size w (w.alloc (boxV x A1 c1 A2 c2)) := (Below.refl _ _).alloc (Nat.le_refl _) _
  have b2 : Below w.heap.size w ((w.alloc (boxV x A1 c1 A2 c2)).alloc (boxV y B1 e1 B2 e2)) := b1.alloc b1.size _
  have hX : Blk ((w.alloc (boxV x A1 c1 A2 c2)).alloc (boxV y B1 e1 B2 e2)) w.heap.size 25 #[.int .i64 x.k, .int .i64 x.n, .string x.s, .slice A1 x.l.length c1, .slice A2 x.t.length c2] := (Blk.new _ _ _).alloc _
  have hY : Blk ((w.alloc (boxV x A1 c1 A2 c2)).alloc (boxV y B1 e1 B2 e2)) (w.heap.size + 1) 25 #[.int .i64 y.k, .int .i64 y.n, .string y.s, .slice B1 y.l.length e1, .slice B2 y.t.length e2] := by
    have := Blk.new (w.alloc (boxV x A1 c1 A2 c2)) 25 #[.int .i64 y.k, .int .i64 y.n, .string y.s, .slice B1 y.l.length e1, .slice B2 y.t.length e2]
    simpa [boxV] using this
  have HFX := Lib.hid hfx
  have ht2 := ht.on b2
  clear hfx
  unfold aggV
  go_enter Tryd.func7, Tryd.ntmps7
  go_wp2_with fail
  refine (small_any _ ht2).mono ?_
  rintro e w3 ⟨rfl, b3⟩
  have hX3 := Blk.below hX b3 (Blk.lt hX)
  have hY3 := Blk.below hY b3 (Blk.lt hY)
  have q3 := blw b2 b3
  clear hX hY b3 b1 b2
  have hq3 : w.heap.size + 1 < w3.heap.size := Blk.lt hY3
  have hs3 := two_cells hX3 hY3
  have bA : Below w3.heap.size w3 (w3.alloc (boxV x A1 c1 A2 c2)) := (Below.refl _ _).alloc (Nat.le_refl _) _
  have bB : Below w3.heap.size w3 ((w3.alloc (boxV x A1 c1 A2 c2)).alloc (boxV y B1 e1 B2 e2)) := bA.alloc bA.size _
  have hsA := two_below hs3 hq3 bA
  have hsB := two_below hs3 hq3 bB
  have hbx : Blk (w3.alloc (boxV x A1 c1 A2 c2)) w3.heap.size 25 #[.int .i64 x.k, .int .i64 x.n, .string x.s, .slice A1 x.l.length c1, .slice A2 x.t.length c2] := Blk.new _ _ _
  have hby : Blk ((w3.alloc (boxV x A1 c1 A2 c2)).alloc (boxV y B1 e1 B2 e2)) (w3.heap.size + 1) 25 #[.int .i64 y.k, .int .i64 y.n, .string y.s, .slice B1 y.l.length e1, .slice B2 y.t.length e2] := by
    have := Blk.new (w3.alloc (boxV x A1 c1 A2 c2)) 25 #[.int .i64 y.k, .int .i64 y.n, .string y.s, .slice B1 y.l.length e1, .slice B2 y.t.length e2]
    simpa [boxV] using this
  have hle := q3.size
  have rx1 := (hx1.below (q3.trans (bA.mono hle))).more (show w.heap.size ≤ w3.heap.size + 2 by omega)
  have rx2 := (hx2.below (q3.trans (bA.mono hle))).more (show w.heap.size ≤ w3.heap.size + 2 by omega)
  have ry1 := (hy1.below (q3.trans (bB.mono hle))).more (show w.heap.size ≤ w3.heap.size + 2 by omega)
  have ry2 := (hy2.below (q3.trans (bB.mono hle))).more (show w.heap.size ≤ w3.heap.size + 2 by omega)
  have C1 := hide (show ∀ W : World, W.heap = (w3.alloc (boxV x A1 c1 A2 c2)).heap → Calls Tryd.prog 10 #[.slice (some ⟨w3.heap.size, 0, none⟩) 1 1] W fun e w' => e = .returned (.bool false) ∧ Drawn W w' from
    fun W hW => few_one x W w3.heap.size (w3.heap.size + 2) (blk_heap hW hbx) (reads_heap hW rx1) (reads_heap hW rx2) (by omega) hx HFX.out)
  obtain ⟨g0, g1, g2, g3, g4, k0, k1, k2, k3, k4⟩ := hs3
  have HSA := Lib.hid hsA
  have HSB := Lib.hid hsB
  have HT3 := Lib.hid ht
  have qA : Below w.heap.size w (w3.alloc (boxV x A1 c1 A2 c2)) := q3.trans (bA.mono hle)
  clear bA ht hX3 hY3 hx1 hx2 hy1 hy2 hbx hby rx1 rx2 ry1 ry2 hsA hsB
  go_wp2_with fail
  go_region_with (first | (go_at_call 10; ((with_reducible refine ((unhide C1) _ ?_).mono ?_); (next => rfl)); rintro e w4 ⟨rfl, hd4⟩; have hh4 := Lib.hid (show w4.heap = (w3.alloc (boxV x A1 c1 A2 c2)).heap from hd4.heap); have q4 := below_thru qA hd4 ⟨rfl, rfl, rfl, rfl⟩; obtain ⟨p0, p1, p2, p3, p4, r0, r1, r2, r3, r4⟩ := two_heap hd4.heap HSA.out; clear hd4 g0 g1 g2 g3 g4 k0 k1 k2 k3 k4))
  all_goals
    go_wp2
    go_ret
    exact ⟨rfl, q4⟩

theorem prefix_walk (x y : Va) (A1 : Option Addr) (c1 : Nat) (A2 : Option Addr) (c2 : Nat) (B1 : Option Addr) (e1 : Nat) (B2 : Option Addr) (e2 : Nat) (w : World) (ht : Tab w) (hx : x.Fits) (hy : y.Fits)
    (hx1 : Reads w w.heap.size 1 A1 x.l.length (x.l.map (Value.int .i64))) (hx2 : Reads w w.heap.size 1 A2 x.t.length (x.t.map Value.string))
    (hy1 : Reads w w.heap.size 1 B1 y.l.length (y.l.map (Value.int .i64))) (hy2 : Reads w w.heap.size 1 B2 y.t.length (y.t.map Value.string)) :
    Calls Tryd.prog 7 #[aggV x A1 c1 A2 c2, aggV y B1 e1 B2 e2] w fun e w' => e = .returned (.bool true) ∧ Below w.heap.size w w' := by
  cases hfx : fewB [x] with
  | false => exact prefix_a x y A1 c1 A2 c2 B1 e1 B2 e2 w ht hx hy hx1 hx2 hy1 hy2 hfx
  | true =>
    cases hfy : fewB [y] with
    | false => exact prefix_b x y A1 c1 A2 c2 B1 e1 B2 e2 w ht hx hy hx1 hx2 hy1 hy2 hfx hfy
    | true =>
      by_cases hk : x.k % 5 = y.k % 5
      · exact prefix_d x y A1 c1 A2 c2 B1 e1 B2 e2 w ht hx hy hx1 hx2 hy1 hy2 hfx hfy hk
      · exact prefix_c x y A1 c1 A2 c2 B1 e1 B2 e2 w ht hx hy hx1 hx2 hy1 hy2 hfx hfy hk

end Go.Proofs.YtkkaancpokahcaaDoor
