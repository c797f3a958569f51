/- The walks of the statements' write, SameNums, SameTexts and equal. Conditions: the value has at most 400 bytes and elements; the table of strconv holds what its text lays; equal is walked where the value's encoding stands ahead of the reader. -/
import Derived.Test.YtkkaancpokahcaaDoorFew
import Derived.Deep.RegionHeld3
namespace Go.Proofs.YtkkaancpokahcaaDoor
open Go.RowKit Go.Lib

/-- The number of a value. -/
def numberP (n : Int) : Int := if n < 0 then -(n + 1) else n
theorem numberP_in {n : Int} (h0 : -9223372036854775808 ≤ n) (h1 : n ≤ 9223372036854775807) : 0 ≤ numberP n ∧ numberP n ≤ 9223372036854775807 := by
  unfold numberP
  split <;> omega

set_option maxHeartbeats 400000 in
theorem number_any (n : Int) (w : World) (h0 : -9223372036854775808 ≤ n) (h1 : n ≤ 9223372036854775807) :
    Calls Tryd.prog 58 #[.int .i64 n] w fun e w' => e = .returned (.int .i64 (numberP n)) ∧ w = w' := by
  by_cases hn : n < 0
  · have HN := Lib.hid (show numberP n = -(n + 1) from if_pos hn)
    go_enter Tryd.func58, Tryd.ntmps58
    go_wp2
    go_ret
    exact ⟨congrArg (fun x => Ending.returned (.int .i64 x)) HN.out.symm, rfl⟩
  · have HN := Lib.hid (show numberP n = n from if_neg hn)
    go_enter Tryd.func58, Tryd.ntmps58
    go_wp2
    go_ret
    exact ⟨congrArg (fun x => Ending.returned (.int .i64 x)) HN.out.symm, rfl⟩

/-- The encoding of a value. -/
def encV (x : Va) : List UInt8 :=
  if x.k % 5 = 0 then wInt (numberP x.n) else if x.k % 5 = 1 then wInt x.n else if x.k % 5 = 2 then wText x.s.data.toList else if x.k % 5 = 3 then wList wInt x.l else wList wTextB x.t

theorem dec_len {n : Nat} (h : n ≤ 9223372036854775807) : (decDigits n).length ≤ 21 := by
  have := itoa_length_le (n : Int) (by omega) (by omega)
  rwa [itoa_nonneg] at this
theorem flat_len {α : Type} {f : α → List UInt8} {m : Nat} : ∀ {l : List α}, (∀ x ∈ l, (f x).length ≤ m) → (l.flatMap f).length ≤ l.length * m
  | [], _ => by simp
  | a :: l, h => by
    have h1 := flat_len (l := l) (fun x hx => h x (List.mem_cons_of_mem a hx))
    have h2 := h a List.mem_cons_self
    rw [List.flatMap_cons, List.length_append, List.length_cons, Nat.add_mul]
    omega
theorem okB_parts {x : Va} (h : x.okB = true) : x.l.length ≤ 400 ∧ x.t.length ≤ 400 ∧ x.s.size ≤ 400 ∧ ∀ z ∈ x.t, z.size ≤ 400 := by
  unfold Va.okB at h
  rw [Bool.and_eq_true] at h
  obtain ⟨h1, h2⟩ := h
  have h1 := of_decide_eq_true h1
  refine ⟨h1.1, h1.2.1, h1.2.2, fun z hz => ?_⟩
  have := List.all_eq_true.1 h2 z hz
  simpa using this
theorem ints_len {x : Va} (hf : x.Fits) (h : x.okB = true) : (wList wInt x.l).length ≤ 10000 := by
  obtain ⟨h1, _⟩ := okB_parts h
  have h2 := flat_len (f := wInt) (m := 22) (l := x.l) (fun z hz => by
    unfold wInt
    have := itoa_length_le z (hf.li z hz).1 (hf.li z hz).2
    simp
    omega)
  have h3 := dec_len (n := x.l.length) (by omega)
  unfold wList
  simp only [List.length_append, List.length_cons, List.length_nil]
  omega
theorem texts_len {x : Va} (h : x.okB = true) : (wList wTextB x.t).length ≤ 200000 := by
  obtain ⟨_, h1, _, h4⟩ := okB_parts h
  have h2 := flat_len (f := wTextB) (m := 423) (l := x.t) (fun z hz => by
    unfold wTextB wText
    have h5 := h4 z hz
    have := dec_len (n := z.data.toList.length) (by rw [len_eq]; omega)
    have h6 := len_eq z
    simp at this ⊢
    simp at h6
    omega)
  have h3 := dec_len (n := x.t.length) (by omega)
  unfold wList
  simp only [List.length_append, List.length_cons, List.length_nil]
  omega

/-- A value as an argument. -/
def aggV (x : Va) (A1 : Option Addr) (c1 : Nat) (A2 : Option Addr) (c2 : Nat) : Value := .agg #[.int .i64 x.k, .int .i64 x.n, .string x.s, .slice A1 x.l.length c1, .slice A2 x.t.length c2]
def boxV (x : Va) (A1 : Option Addr) (c1 : Nat) (A2 : Option Addr) (c2 : Nat) : Obj := .cells #[.int .i64 x.k, .int .i64 x.n, .string x.s, .slice A1 x.l.length c1, .slice A2 x.t.length c2] 25

set_option maxHeartbeats 1000000 in
theorem write_any (x : Va) (A1 : Option Addr) (c1 : Nat) (A2 : Option Addr) (c2 : Nat) (w : World) (ht : Tab w) (hf : x.Fits) (hok : x.okB = true) (hr1 : Reads w w.heap.size 1 A1 x.l.length (x.l.map (Value.int .i64))) (hr2 : Reads w w.heap.size 1 A2 x.t.length (x.t.map Value.string)) :
    Calls Tryd.prog 42 #[aggV x A1 c1 A2 c2] w fun e w' => e = .returned (.string ⟨(encV x).toArray⟩) ∧ Below w.heap.size w w' := by
  obtain ⟨o1, o2, o3, o4⟩ := okB_parts hok
  have hil := ints_len hf hok
  have htl := texts_len hok
  have hn0 := hf.n0
  have hn1 := hf.n1
  have b0 : Below w.heap.size w (w.alloc (boxV x A1 c1 A2 c2)) := (Below.refl _ _).alloc (Nat.le_refl _) _
  have h5 : x.k % 5 = 0 ∨ x.k % 5 = 1 ∨ x.k % 5 = 2 ∨ x.k % 5 = 3 ∨ x.k % 5 = 4 := by omega
  have hsz : w.heap.size < (w.alloc (boxV x A1 c1 A2 c2)).heap.size := by simp
  rcases h5 with h | h | h | h | h
  · have HE := Lib.hid (show encV x = wInt (numberP x.n) by unfold encV; rw [if_pos h])
    have hnp := numberP_in hn0 hn1
    have HQ := Lib.hid h
    clear h
    unfold aggV
    go_enter Tryd.func42, Tryd.ntmps42
    go_wp2_with fail
    refine (kind_eq _ _ HQ.out _ _ _ _ _).mono ?_
    rintro e w1 ⟨rfl, b1⟩
    have g1 : w1.cell? ⟨w.heap.size, 1, none⟩ = some (.int .i64 x.n) := by
      rw [b1.cell (p := ⟨w.heap.size, 1, none⟩) hsz]
      simp
    have q1 := blw b0 b1
    have ht1 := ht.on q1
    go_wp2_with fail
    refine (number_any _ _ hn0 hn1).mono ?_
    rintro e w2 ⟨rfl, rfl⟩
    go_wp2_with fail
    refine (wNum_any _ (by omega) hnp.2 _ ht1).mono ?_
    rintro e w3 ⟨rfl, b3⟩
    go_wp2
    go_ret
    exact ⟨ret_bytes (by rw [HE.out]), blw q1 b3⟩
  · have HE := Lib.hid (show encV x = wInt x.n by unfold encV; rw [if_neg (by omega), if_pos h])
    have hnp := numberP_in hn0 hn1
    have HQ := Lib.hid h
    clear h
    unfold aggV
    go_enter Tryd.func42, Tryd.ntmps42
    go_wp2_with fail
    refine (kind_eq _ _ HQ.out _ _ _ _ _).mono ?_
    rintro e w1 ⟨rfl, b1⟩
    have g1 : w1.cell? ⟨w.heap.size, 1, none⟩ = some (.int .i64 x.n) := by
      rw [b1.cell (p := ⟨w.heap.size, 1, none⟩) hsz]
      simp
    have q1 := blw b0 b1
    have ht1 := ht.on q1
    go_wp2_with fail
    refine (wInt_any _ hn0 hn1 _ ht1).mono ?_
    rintro e w3 ⟨rfl, b3⟩
    go_wp2
    go_ret
    exact ⟨ret_bytes (by rw [HE.out]), blw q1 b3⟩
  · have HE := Lib.hid (show encV x = wText x.s.data.toList by unfold encV; rw [if_neg (by omega), if_neg (by omega), if_pos h])
    have hnp := numberP_in hn0 hn1
    have HQ := Lib.hid h
    clear h
    unfold aggV
    go_enter Tryd.func42, Tryd.ntmps42
    go_wp2_with fail
    refine (kind_eq _ _ HQ.out _ _ _ _ _).mono ?_
    rintro e w1 ⟨rfl, b1⟩
    have g1 : w1.cell? ⟨w.heap.size, 2, none⟩ = some (.string x.s) := by
      rw [b1.cell (p := ⟨w.heap.size, 2, none⟩) hsz]
      simp
    have q1 := blw b0 b1
    have ht1 := ht.on q1
    go_wp2_with fail
    refine (wText_any _ (by omega) _ ht1).mono ?_
    rintro e w3 ⟨rfl, b3⟩
    go_wp2
    go_ret
    exact ⟨ret_bytes (by rw [HE.out]), blw q1 b3⟩
  · have HE := Lib.hid (show encV x = wList wInt x.l by unfold encV; rw [if_neg (by omega), if_neg (by omega), if_neg (by omega), if_pos h])
    have hnp := numberP_in hn0 hn1
    have HQ := Lib.hid h
    clear h
    unfold aggV
    go_enter Tryd.func42, Tryd.ntmps42
    go_wp2_with fail
    refine (kind_eq _ _ HQ.out _ _ _ _ _).mono ?_
    rintro e w1 ⟨rfl, b1⟩
    have g1 : w1.cell? ⟨w.heap.size, 3, none⟩ = some (.slice A1 x.l.length c1) := by
      rw [b1.cell (p := ⟨w.heap.size, 3, none⟩) hsz]
      simp
    have q1 := blw b0 b1
    have ht1 := ht.on q1
    go_wp2_with fail
    refine (nums_any A1 _ c1 w.heap.size x.l _ ht1 (hr1.below q1) q1.size hf.l1 hf.li (by omega)).mono ?_
    rintro e w3 ⟨rfl, b3⟩
    go_wp2
    go_ret
    exact ⟨ret_bytes (by rw [HE.out]), blw q1 b3⟩
  · have HE := Lib.hid (show encV x = wList wTextB x.t by unfold encV; rw [if_neg (by omega), if_neg (by omega), if_neg (by omega), if_neg (by omega)])
    have hnp := numberP_in hn0 hn1
    have HQ := Lib.hid h
    clear h
    unfold aggV
    go_enter Tryd.func42, Tryd.ntmps42
    go_wp2_with fail
    refine (kind_eq _ _ HQ.out _ _ _ _ _).mono ?_
    rintro e w1 ⟨rfl, b1⟩
    have g1 : w1.cell? ⟨w.heap.size, 4, none⟩ = some (.slice A2 x.t.length c2) := by
      rw [b1.cell (p := ⟨w.heap.size, 4, none⟩) hsz]
      simp
    have q1 := blw b0 b1
    have ht1 := ht.on q1
    go_wp2_with fail
    refine (texts_any A2 _ c2 w.heap.size x.t _ ht1 (hr2.below q1) q1.size hf.t1 (fun z hz => by have := o4 z hz; omega) (by omega)).mono ?_
    rintro e w3 ⟨rfl, b3⟩
    go_wp2
    go_ret
    exact ⟨ret_bytes (by rw [HE.out]), blw q1 b3⟩

set_option maxHeartbeats 1000000 in
theorem sameNums_yes (A A' : Option Addr) (c c' B n : Nat) (l : List Int) (w : World) (hn : n ≤ 9223372036854775807) (h1 : Reads w B 1 A n (l.map (Value.int .i64))) (h2 : Reads w B 1 A' n (l.map (Value.int .i64))) :
    Calls Tryd.prog 30 #[.slice A n c, .slice A' n c'] w fun e w' => e = .returned (.bool true) ∧ Drawn w w' := by
  have HA := Lib.hid h1
  have HB := Lib.hid h2
  clear h1 h2
  go_enter Tryd.func30, Tryd.ntmps30
  go_wp2_with fail
  go_loopw [5] (fun i wr => ∃ k : Nat, k ≤ n ∧ i = .int .i64 k ∧ Drawn w wr) (fun i _ => n - (RowKit.intOf i).toNat)
  case atStart => exact ⟨0, Nat.zero_le _, rfl, 0, rfl⟩
  case round =>
    obtain ⟨k, hk, rfl, d, rfl⟩ := hrel
    by_cases hlt : k < n
    · obtain ⟨ad, u, rfl, hab, hu, hc⟩ := HA.out.at_ hlt
      obtain ⟨ad', u', rfl, hab', hu', hc'⟩ := HB.out.at_ hlt
      obtain rfl : u = u' := Option.some.inj (hu.symm.trans hu')
      obtain ⟨hkl, rfl⟩ := map_at hu
      generalize l[k] = x at *
      clear hu hu' HA HB
      go_wp2_with fail
      go_quiet (fail)
      go_wp2_with fail
      go_roundw
      case rel => exact ⟨k + 1, by omega, by go_num, _, rfl⟩
      case measure => simp [RowKit.intOf]; omega
    · go_wp2_with fail
      go_ret
      exact ⟨rfl, d, rfl⟩

set_option maxHeartbeats 1000000 in
theorem sameTexts_yes (A A' : Option Addr) (c c' B n : Nat) (l : List ByteArray) (w : World) (hn : n ≤ 9223372036854775807) (h1 : Reads w B 1 A n (l.map Value.string)) (h2 : Reads w B 1 A' n (l.map Value.string)) :
    Calls Tryd.prog 33 #[.slice A n c, .slice A' n c'] w fun e w' => e = .returned (.bool true) ∧ Drawn w w' := by
  have HA := Lib.hid h1
  have HB := Lib.hid h2
  clear h1 h2
  go_enter Tryd.func33, Tryd.ntmps33
  go_wp2_with fail
  go_loopw [5] (fun i wr => ∃ k : Nat, k ≤ n ∧ i = .int .i64 k ∧ Drawn w wr) (fun i _ => n - (RowKit.intOf i).toNat)
  case atStart => exact ⟨0, Nat.zero_le _, rfl, 0, rfl⟩
  case round =>
    obtain ⟨k, hk, rfl, d, rfl⟩ := hrel
    by_cases hlt : k < n
    · obtain ⟨ad, u, rfl, hab, hu, hc⟩ := HA.out.at_ hlt
      obtain ⟨ad', u', rfl, hab', hu', hc'⟩ := HB.out.at_ hlt
      obtain rfl : u = u' := Option.some.inj (hu.symm.trans hu')
      obtain ⟨hkl, rfl⟩ := map_at hu
      generalize l[k] = x at *
      clear hu hu' HA HB
      go_wp2_with fail
      go_quiet (fail)
      go_wp2_with fail
      go_roundw
      case rel => exact ⟨k + 1, by omega, by go_num, _, rfl⟩
      case measure => simp [RowKit.intOf]; omega
    · go_wp2_with fail
      go_ret
      exact ⟨rfl, d, rfl⟩

end Go.Proofs.YtkkaancpokahcaaDoor
