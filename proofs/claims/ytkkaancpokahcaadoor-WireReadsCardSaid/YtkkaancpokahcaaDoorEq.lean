/- The walk of the statements' equal, where the value's encoding stands ahead of the reader: it returns true, and what follows is left. Conditions: the value's lists lie below the reader's block; the reader's text has at most 2^40 bytes. -/
import Derived.Test.YtkkaancpokahcaaDoorVal
namespace Go.Proofs.YtkkaancpokahcaaDoor
open Go.RowKit Go.Lib

theorem numberP_nat {n : Int} (h0 : -9223372036854775808 ≤ n) (h1 : n ≤ 9223372036854775807) : ∃ m : Nat, numberP n = (m : Int) ∧ m ≤ 9223372036854775807 := by
  have := numberP_in h0 h1
  exact ⟨(numberP n).toNat, by omega, by omega⟩
theorem undrew {w w' : World} {row : Option Nat} (g : w.drew.grownBy w' row) : w.grownBy w' row := ⟨g.os, g.tape, g.output, g.size, g.block⟩
theorem only_drawn {a w w' : World} {row : Option Nat} (g : a.grownBy w row) (h : Drawn w w') : a.grownBy w' row := by
  obtain ⟨d, rfl⟩ := h
  exact only_drewN g d
theorem Drawn.heap {w w' : World} (h : Drawn w w') : w'.heap = w.heap := by
  obtain ⟨d, rfl⟩ := h
  rfl
theorem Rd.drawn {w w' : World} {b : Nat} {s : ByteArray} {f : Bool} (h : Rd w b s f) (hd : Drawn w w') : Rd w' b s f := by
  unfold Rd Blk
  rw [hd.heap]
  exact h
theorem bytes_eq {x : ByteArray} : (ByteArray.mk x.data.toList.toArray).toList == x.toList := by
  rw [Lib.toList_data]
  simp
/-- The strings that a list's bytes are, once more as strings. -/
theorem texts_back (t : List ByteArray) : (t.map (·.data.toList)).map (fun l : List UInt8 => (⟨l.toArray⟩ : ByteArray)) = t := by
  rw [List.map_map]
  have : ((fun l : List UInt8 => (⟨l.toArray⟩ : ByteArray)) ∘ fun x : ByteArray => x.data.toList) = id := by
    funext x
    cases x
    simp
  rw [this, List.map_id]
theorem texts_enc' (t : List ByteArray) : wList wText (t.map (·.data.toList)) = wList wTextB t := by
  rw [← texts_enc, texts_back]

theorem drawn_cell {w w' : World} (h : Drawn w w') {a : Addr} {v : Value} (hc : w.cell? a = some v) : w'.cell? a = some v := by
  obtain ⟨d, rfl⟩ := h
  exact hc
theorem texts_rd_yes' {b : Nat} {s : ByteArray} {f : Bool} {w : World} {t : List ByteArray} {r : List UInt8} (h : Rd w b s f) (hff : f = true → s.data.toList = []) (hs : s.size ≤ 1099511627776) (ho : listP textP s.data.toList = some (t.map (·.data.toList), r)) :
    Calls Tryd.prog 34 #[.pointer (some ⟨b, 0, none⟩)] w fun e w' => ∃ A c, e = .returned (.slice A t.length c) ∧ Reads w' w'.heap.size 1 A t.length (t.map Value.string) ∧ RdL w' b r false ∧ w.grownBy w' (some b) :=
  (texts_rd_yes h hff hs ho).mono fun e w' ⟨A, c, he, hR, hr, hg⟩ => by
    rw [List.length_map] at he hR
    rw [texts_back] at hR
    exact ⟨A, c, he, hR, hr, hg⟩

set_option maxHeartbeats 1000000 in
theorem equal_0 (b B : Nat) (s : ByteArray) (r : List UInt8) (x : Va) (A1 : Option Addr) (c1 : Nat) (A2 : Option Addr) (c2 : Nat) (w : World) (h : Rd w b s false) (hs : s.size ≤ 1099511627776) (hf : x.Fits) (hBb : B ≤ b)
    (_hr1 : Reads w B 1 A1 x.l.length (x.l.map (Value.int .i64))) (_hr2 : Reads w B 1 A2 x.t.length (x.t.map Value.string)) (hk : x.k % 5 = 0) (hl : s.data.toList = encV x ++ r) :
    Calls Tryd.prog 43 #[.pointer (some ⟨b, 0, none⟩), aggV x A1 c1 A2 c2] w fun e w' => e = .returned (.bool true) ∧ RdL w' b r false ∧ w.grownBy w' (some b) := by
  have hn0 := hf.n0
  have hn1 := hf.n1
  obtain ⟨m, hm, hm1⟩ := numberP_nat hn0 hn1
  have HM := Lib.hid hm
  have HP := Lib.hid ((num_codec s.data.toList m r).2 ⟨hm1, by rw [hl]; unfold encV; rw [if_pos hk, hm]⟩)
  clear hm
  have HQ := Lib.hid hk
  have hbw : b < w.heap.size := Blk.lt h
  have hBw : B ≤ w.heap.size := by omega
  have b0 : Below w.heap.size w (w.alloc (boxV x A1 c1 A2 c2)) := (Below.refl _ _).alloc (Nat.le_refl _) _
  have hsz : w.heap.size < (w.alloc (boxV x A1 c1 A2 c2)).heap.size := by simp
  clear hk hl
  unfold aggV
  go_enter Tryd.func43, Tryd.ntmps43
  go_wp2_with fail
  refine (kind_eq _ _ HQ.out _ _ _ _ _).mono ?_
  rintro e w1 ⟨rfl, b1⟩
  have g1 : w1.cell? ⟨w.heap.size, 1, none⟩ = some (.int .i64 x.n) := by
    rw [b1.cell (p := ⟨w.heap.size, 1, none⟩) hsz]
    simp
  have q1 := blw b0 b1
  have hR1 : Rd w1 b s false := Blk.below h q1 hbw
  have hne : some (⟨w.heap.size, 1, none⟩ : Addr).block ≠ some b := by
    intro e
    have : w.heap.size = b := Option.some.inj e
    omega
  go_wp2_with fail
  go_region_held3 (fun w' => w'.cell? ⟨w.heap.size, 1, none⟩ = some (.int .i64 x.n)) (first | assumption | simp [*]) (first | (go_at_call 24; refine (num_yes (by exact hR1) (fun h => by cases h) (by omega) HP.out).mono ?_; rintro e w2 ⟨rfl, hR2, g2⟩; have hs2 := g2.cell g1 hne) | (go_at_call 58; refine (number_any _ _ hn0 hn1).mono ?_; rintro e w3 ⟨rfl, rfl⟩))
  go_wp2
  go_ret
  exact ⟨ret_b (by rw [HM.out]; simp), hR2, (only_of_below q1 (some b)).trans (undrew g2)⟩

set_option maxHeartbeats 1000000 in
theorem equal_1 (b B : Nat) (s : ByteArray) (r : List UInt8) (x : Va) (A1 : Option Addr) (c1 : Nat) (A2 : Option Addr) (c2 : Nat) (w : World) (h : Rd w b s false) (hs : s.size ≤ 1099511627776) (hf : x.Fits) (hBb : B ≤ b)
    (_hr1 : Reads w B 1 A1 x.l.length (x.l.map (Value.int .i64))) (_hr2 : Reads w B 1 A2 x.t.length (x.t.map Value.string)) (hk : x.k % 5 = 1) (hl : s.data.toList = encV x ++ r) :
    Calls Tryd.prog 43 #[.pointer (some ⟨b, 0, none⟩), aggV x A1 c1 A2 c2] w fun e w' => e = .returned (.bool true) ∧ RdL w' b r false ∧ w.grownBy w' (some b) := by
  have hn0 := hf.n0
  have hn1 := hf.n1
  have HP := Lib.hid ((int_codec s.data.toList x.n r).2 ⟨⟨hn0, hn1⟩, by rw [hl]; unfold encV; rw [if_neg (by omega), if_pos hk]⟩)
  have HQ := Lib.hid hk
  have hbw : b < w.heap.size := Blk.lt h
  have hBw : B ≤ w.heap.size := by omega
  have b0 : Below w.heap.size w (w.alloc (boxV x A1 c1 A2 c2)) := (Below.refl _ _).alloc (Nat.le_refl _) _
  have hsz : w.heap.size < (w.alloc (boxV x A1 c1 A2 c2)).heap.size := by simp
  clear hk hl
  unfold aggV
  go_enter Tryd.func43, Tryd.ntmps43
  go_wp2_with fail
  refine (kind_eq _ _ HQ.out _ _ _ _ _).mono ?_
  rintro e w1 ⟨rfl, b1⟩
  have g1 : w1.cell? ⟨w.heap.size, 1, none⟩ = some (.int .i64 x.n) := by
    rw [b1.cell (p := ⟨w.heap.size, 1, none⟩) hsz]
    simp
  have q1 := blw b0 b1
  have hR1 : Rd w1 b s false := Blk.below h q1 hbw
  have hne : some (⟨w.heap.size, 1, none⟩ : Addr).block ≠ some b := by
    intro e
    have : w.heap.size = b := Option.some.inj e
    omega
  go_wp2_with fail
  go_region_held3 (fun w' => w'.cell? ⟨w.heap.size, 1, none⟩ = some (.int .i64 x.n)) (first | assumption | simp [*]) (first | (go_at_call 26; refine (int_yes (by exact hR1) (fun h => by cases h) (by omega) HP.out).mono ?_; rintro e w2 ⟨rfl, hR2, g2⟩; have hs2 := g2.cell g1 hne))
  go_wp2
  go_ret
  exact ⟨ret_b (by simp), hR2, (only_of_below q1 (some b)).trans (undrew g2)⟩

set_option maxHeartbeats 1000000 in
theorem equal_2 (b B : Nat) (s : ByteArray) (r : List UInt8) (x : Va) (A1 : Option Addr) (c1 : Nat) (A2 : Option Addr) (c2 : Nat) (w : World) (h : Rd w b s false) (hs : s.size ≤ 1099511627776) (hf : x.Fits) (hBb : B ≤ b)
    (_hr1 : Reads w B 1 A1 x.l.length (x.l.map (Value.int .i64))) (_hr2 : Reads w B 1 A2 x.t.length (x.t.map Value.string)) (hk : x.k % 5 = 2) (hl : s.data.toList = encV x ++ r) :
    Calls Tryd.prog 43 #[.pointer (some ⟨b, 0, none⟩), aggV x A1 c1 A2 c2] w fun e w' => e = .returned (.bool true) ∧ RdL w' b r false ∧ w.grownBy w' (some b) := by
  have hn0 := hf.n0
  have hn1 := hf.n1
  have HP := Lib.hid ((text_codec s.data.toList x.s.data.toList r).2 ⟨show x.s.data.toList.length ≤ _ by rw [len_eq]; exact hf.s1, by rw [hl]; unfold encV; rw [if_neg (by omega), if_neg (by omega), if_pos hk]⟩)
  have HQ := Lib.hid hk
  have hbw : b < w.heap.size := Blk.lt h
  have hBw : B ≤ w.heap.size := by omega
  have b0 : Below w.heap.size w (w.alloc (boxV x A1 c1 A2 c2)) := (Below.refl _ _).alloc (Nat.le_refl _) _
  have hsz : w.heap.size < (w.alloc (boxV x A1 c1 A2 c2)).heap.size := by simp
  clear hk hl
  unfold aggV
  go_enter Tryd.func43, Tryd.ntmps43
  go_wp2_with fail
  refine (kind_eq _ _ HQ.out _ _ _ _ _).mono ?_
  rintro e w1 ⟨rfl, b1⟩
  have g1 : w1.cell? ⟨w.heap.size, 2, none⟩ = some (.string x.s) := by
    rw [b1.cell (p := ⟨w.heap.size, 2, none⟩) hsz]
    simp
  have q1 := blw b0 b1
  have hR1 : Rd w1 b s false := Blk.below h q1 hbw
  have hne : some (⟨w.heap.size, 2, none⟩ : Addr).block ≠ some b := by
    intro e
    have : w.heap.size = b := Option.some.inj e
    omega
  go_wp2_with fail
  go_region_held3 (fun w' => w'.cell? ⟨w.heap.size, 2, none⟩ = some (.string x.s)) (first | assumption | simp [*]) (first | (go_at_call 28; refine (text_yes (by exact hR1) (fun h => by cases h) (by omega) HP.out).mono ?_; rintro e w2 ⟨rfl, hR2, g2⟩; have hs2 := g2.cell g1 hne))
  go_wp2
  go_ret
  exact ⟨rfl, hR2, (only_of_below q1 (some b)).trans (undrew g2)⟩

set_option maxHeartbeats 1000000 in
theorem equal_3 (b B : Nat) (s : ByteArray) (r : List UInt8) (x : Va) (A1 : Option Addr) (c1 : Nat) (A2 : Option Addr) (c2 : Nat) (w : World) (h : Rd w b s false) (hs : s.size ≤ 1099511627776) (hf : x.Fits) (hBb : B ≤ b)
    (hr1 : Reads w B 1 A1 x.l.length (x.l.map (Value.int .i64))) (_hr2 : Reads w B 1 A2 x.t.length (x.t.map Value.string)) (hk : x.k % 5 = 3) (hl : s.data.toList = encV x ++ r) :
    Calls Tryd.prog 43 #[.pointer (some ⟨b, 0, none⟩), aggV x A1 c1 A2 c2] w fun e w' => e = .returned (.bool true) ∧ RdL w' b r false ∧ w.grownBy w' (some b) := by
  have hn0 := hf.n0
  have hn1 := hf.n1
  have HP := Lib.hid ((list_codec int_codec s.data.toList x.l r).2 ⟨⟨hf.l1, hf.li⟩, by rw [hl]; unfold encV; rw [if_neg (by omega), if_neg (by omega), if_neg (by omega), if_pos hk]⟩)
  have HQ := Lib.hid hk
  have hbw : b < w.heap.size := Blk.lt h
  have hBw : B ≤ w.heap.size := by omega
  have b0 : Below w.heap.size w (w.alloc (boxV x A1 c1 A2 c2)) := (Below.refl _ _).alloc (Nat.le_refl _) _
  have hsz : w.heap.size < (w.alloc (boxV x A1 c1 A2 c2)).heap.size := by simp
  clear hk hl
  unfold aggV
  go_enter Tryd.func43, Tryd.ntmps43
  go_wp2_with fail
  refine (kind_eq _ _ HQ.out _ _ _ _ _).mono ?_
  rintro e w1 ⟨rfl, b1⟩
  have g1 : w1.cell? ⟨w.heap.size, 3, none⟩ = some (.slice A1 x.l.length c1) := by
    rw [b1.cell (p := ⟨w.heap.size, 3, none⟩) hsz]
    simp
  have q1 := blw b0 b1
  have hR1 : Rd w1 b s false := Blk.below h q1 hbw
  have hne : some (⟨w.heap.size, 3, none⟩ : Addr).block ≠ some b := by
    intro e
    have : w.heap.size = b := Option.some.inj e
    omega
  go_wp2_with fail
  go_region_held3 (fun w' => w'.cell? ⟨w.heap.size, 3, none⟩ = some (.slice A1 x.l.length c1)) (first | assumption | simp [*]) (first | (go_at_call 31; refine (nums_rd_yes (by exact hR1) (fun h => by cases h) hs HP.out).mono ?_; rintro e w2 ⟨A, c, rfl, hRe, hR2, g2⟩; have hs2 := g2.cell g1 hne; have hra := ((hr1.below (q1.mono hBw)).grown (undrew g2) (by have := q1.size; omega) (fun g e => by have := Option.some.inj e; omega)).more (show B ≤ w2.heap.size by have := q1.size; have := (undrew g2).size; omega)) | (go_at_call 30; refine (sameNums_yes _ _ _ _ _ _ x.l _ hf.l1 (by exact hRe) (by exact hra)).mono ?_; rintro e w3 ⟨rfl, hd3⟩; have hs3 : w3.cell? ⟨w.heap.size, 3, none⟩ = some (.slice A1 x.l.length c1) := drawn_cell hd3 hs2))
  go_wp2
  go_ret
  exact ⟨rfl, Rd.drawn hR2 hd3, only_drawn ((only_of_below q1 (some b)).trans (undrew g2)) hd3⟩

set_option maxHeartbeats 1000000 in
theorem equal_4 (b B : Nat) (s : ByteArray) (r : List UInt8) (x : Va) (A1 : Option Addr) (c1 : Nat) (A2 : Option Addr) (c2 : Nat) (w : World) (h : Rd w b s false) (hs : s.size ≤ 1099511627776) (hf : x.Fits) (hBb : B ≤ b)
    (_hr1 : Reads w B 1 A1 x.l.length (x.l.map (Value.int .i64))) (hr2 : Reads w B 1 A2 x.t.length (x.t.map Value.string)) (hk : x.k % 5 = 4) (hl : s.data.toList = encV x ++ r) :
    Calls Tryd.prog 43 #[.pointer (some ⟨b, 0, none⟩), aggV x A1 c1 A2 c2] w fun e w' => e = .returned (.bool true) ∧ RdL w' b r false ∧ w.grownBy w' (some b) := by
  have hn0 := hf.n0
  have hn1 := hf.n1
  have HP := Lib.hid ((list_codec text_codec s.data.toList (x.t.map (·.data.toList)) r).2 ⟨⟨by rw [List.length_map]; exact hf.t1, fun z hz => by
    obtain ⟨y, hy, rfl⟩ := List.mem_map.1 hz
    show y.data.toList.length ≤ _
    rw [len_eq]
    exact hf.ti y hy⟩, by rw [hl, texts_enc']; unfold encV; rw [if_neg (by omega), if_neg (by omega), if_neg (by omega), if_neg (by omega)]⟩)
  have HQ := Lib.hid hk
  have hbw : b < w.heap.size := Blk.lt h
  have hBw : B ≤ w.heap.size := by omega
  have b0 : Below w.heap.size w (w.alloc (boxV x A1 c1 A2 c2)) := (Below.refl _ _).alloc (Nat.le_refl _) _
  have hsz : w.heap.size < (w.alloc (boxV x A1 c1 A2 c2)).heap.size := by simp
  clear hk hl
  unfold aggV
  go_enter Tryd.func43, Tryd.ntmps43
  go_wp2_with fail
  refine (kind_eq _ _ HQ.out _ _ _ _ _).mono ?_
  rintro e w1 ⟨rfl, b1⟩
  have g1 : w1.cell? ⟨w.heap.size, 4, none⟩ = some (.slice A2 x.t.length c2) := by
    rw [b1.cell (p := ⟨w.heap.size, 4, none⟩) hsz]
    simp
  have q1 := blw b0 b1
  have hR1 : Rd w1 b s false := Blk.below h q1 hbw
  have hne : some (⟨w.heap.size, 4, none⟩ : Addr).block ≠ some b := by
    intro e
    have : w.heap.size = b := Option.some.inj e
    omega
  go_wp2_with fail
  go_region_held3 (fun w' => w'.cell? ⟨w.heap.size, 4, none⟩ = some (.slice A2 x.t.length c2)) (first | assumption | simp [*]) (first | (go_at_call 34; refine (texts_rd_yes' (by exact hR1) (fun h => by cases h) hs HP.out).mono ?_; rintro e w2 ⟨A, c, rfl, hRe, hR2, g2⟩; have hs2 := g2.cell g1 hne; have hra := ((hr2.below (q1.mono hBw)).grown (undrew g2) (by have := q1.size; omega) (fun g e => by have := Option.some.inj e; omega)).more (show B ≤ w2.heap.size by have := q1.size; have := (undrew g2).size; omega)) | (go_at_call 33; refine (sameTexts_yes _ _ _ _ _ _ x.t _ hf.t1 (by exact hRe) (by exact hra)).mono ?_; rintro e w3 ⟨rfl, hd3⟩; have hs3 : w3.cell? ⟨w.heap.size, 4, none⟩ = some (.slice A2 x.t.length c2) := drawn_cell hd3 hs2))
  go_wp2
  go_ret
  exact ⟨rfl, Rd.drawn hR2 hd3, only_drawn ((only_of_below q1 (some b)).trans (undrew g2)) hd3⟩

theorem equal_yes (b B : Nat) (s : ByteArray) (r : List UInt8) (x : Va) (A1 : Option Addr) (c1 : Nat) (A2 : Option Addr) (c2 : Nat) (w : World) (h : Rd w b s false) (hs : s.size ≤ 1099511627776) (hf : x.Fits) (hBb : B ≤ b)
    (hr1 : Reads w B 1 A1 x.l.length (x.l.map (Value.int .i64))) (hr2 : Reads w B 1 A2 x.t.length (x.t.map Value.string)) (hl : s.data.toList = encV x ++ r) :
    Calls Tryd.prog 43 #[.pointer (some ⟨b, 0, none⟩), aggV x A1 c1 A2 c2] w fun e w' => e = .returned (.bool true) ∧ RdL w' b r false ∧ w.grownBy w' (some b) := by
  have h5 : x.k % 5 = 0 ∨ x.k % 5 = 1 ∨ x.k % 5 = 2 ∨ x.k % 5 = 3 ∨ x.k % 5 = 4 := by omega
  rcases h5 with hk | hk | hk | hk | hk
  · exact equal_0 b B s r x A1 c1 A2 c2 w h hs hf hBb hr1 hr2 hk hl
  · exact equal_1 b B s r x A1 c1 A2 c2 w h hs hf hBb hr1 hr2 hk hl
  · exact equal_2 b B s r x A1 c1 A2 c2 w h hs hf hBb hr1 hr2 hk hl
  · exact equal_3 b B s r x A1 c1 A2 c2 w h hs hf hBb hr1 hr2 hk hl
  · exact equal_4 b B s r x A1 c1 A2 c2 w h hs hf hBb hr1 hr2 hk hl

end Go.Proofs.YtkkaancpokahcaaDoor
