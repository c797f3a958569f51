/- The walks of the writers of lists: a list's encoding is its length, its elements' encodings one after the other, and a bracket. Conditions: the encoding has at most 2^47 bytes; the table of strconv holds what its text lays. -/
import Derived.Test.YtkkaancpokahcaaDoorWr
import Derived.ShutString
namespace Go.Proofs.YtkkaancpokahcaaDoor
open Go.RowKit Go.Lib

/-- The encoding of a list whose elements are encoded by f. -/
def wList {α : Type} (f : α → List UInt8) (l : List α) : List UInt8 := decDigits l.length ++ 91 :: (l.flatMap f ++ [93])

/-- The encoding of a string, as the program holds it. -/
def wTextB (s : ByteArray) : List UInt8 := wText s.data.toList

theorem Bld.lt {B b : Nat} {l : List UInt8} {w : World} (h : Bld B b l w) : b < w.heap.size := by
  rcases h with h | h
  · exact h.lt
  · exact h.lt
theorem Bld.low {B b : Nat} {l : List UInt8} {w : World} (h : Bld B b l w) : B ≤ b := by
  rcases h with h | h
  · exact h.1
  · exact h.1
theorem BldAt.keep {B b : Nat} {p : Value} {l : List Value} {w w' : World} (h : Lib.BuilderAt 69 5 B b p l w) (hb : Below w.heap.size w w') : Lib.BuilderAt 69 5 B b p l w' := by
  have hlt := h.lt
  obtain ⟨hB, v, hv, hown, hne⟩ := h
  exact ⟨hB, v, (hb.block b hlt).trans hv, hown.kept (only_of_below hb none) (by cases hv : v.ownBlock <;> simp), hne⟩
theorem Bld.keep {B b : Nat} {l : List UInt8} {w w' : World} (h : Bld B b l w) (hb : Below w.heap.size w w') : Bld B b l w' := by
  rcases h with h | h
  · exact .inl (BldAt.keep h hb)
  · exact .inr (BldAt.keep h hb)
theorem Bld.new (w : World) : Bld w.heap.size w.heap.size [] (w.alloc (.cells #[.pointer none, .slice none 0 0] 69)) := Lib.fresh_isBuilder _ _ w

theorem map_at {α : Type} {f : α → Value} {l : List α} {k : Nat} {u : Value} (h : (l.map f)[k]? = some u) : ∃ h : k < l.length, u = f l[k] := by
  rw [List.getElem?_map] at h
  cases hl : l[k]? with
  | none => rw [hl] at h; cases h
  | some x =>
    rw [hl] at h
    obtain ⟨hk, hx⟩ := List.getElem?_eq_some_iff.1 hl
    exact ⟨hk, by rw [hx]; exact (Option.some.inj h).symm⟩
theorem take_flat {α : Type} {f : α → List UInt8} {l : List α} {k : Nat} (h : k < l.length) : (l.take (k + 1)).flatMap f = (l.take k).flatMap f ++ f l[k] := by
  rw [List.take_succ_eq_append_getElem h, List.flatMap_append]
  simp
theorem flat_le {α : Type} {f : α → List UInt8} {l : List α} (k : Nat) : ((l.take k).flatMap f).length ≤ (l.flatMap f).length := by
  have h : l.flatMap f = (l.take k).flatMap f ++ (l.drop k).flatMap f := by rw [← List.flatMap_append, List.take_append_drop]
  rw [h, List.length_append]
  omega


set_option maxHeartbeats 1000000 in
theorem listInts_any (A : Option Addr) (n c B0 : Nat) (l : List Int) (w : World) (ht : Tab w) (hr : Reads w B0 1 A n (l.map (Value.int .i64))) (hB0 : B0 ≤ w.heap.size) (hn : n ≤ 9223372036854775807) (hi : ∀ x ∈ l, -9223372036854775808 ≤ x ∧ x ≤ 9223372036854775807)
    (hlen : (wList wInt l).length ≤ 140737488355328) :
    Calls Tryd.prog 46 #[.slice A n c, .func (.func 13) #[] #[]] w fun e w' => e = .returned (.string ⟨(wList wInt l).toArray⟩) ∧ Below w.heap.size w w' := by
  have hln : l.length = n := by have := hr.1; simpa using this
  have hlen' : (decDigits n).length + 1 + (l.flatMap wInt).length + 1 ≤ 140737488355328 := by
    unfold wList at hlen
    simp only [List.length_append, List.length_cons, List.length_nil] at hlen
    rw [hln] at hlen
    omega
  have hB := Bld.new w
  have hb0 : Below w.heap.size w (w.alloc (.cells #[.pointer none, .slice none 0 0] 69)) := (Below.refl _ _).alloc (Nat.le_refl _) _
  have ht1 := ht.on hb0
  have HLN := Lib.hid hln
  clear hln hlen
  go_enter Tryd.func46, Tryd.ntmps46
  go_wp2_with fail
  refine (itoa_any _ (by omega) (by omega) _ ht1).mono ?_
  rintro e w1 ⟨rfl, hb1⟩
  have hB1 := hB.keep hb1
  rw [itoa_nonneg]
  generalize hdg : decDigits n = dg at hlen'
  have HDG := Lib.hid hdg
  clear hdg hB
  have hz1 : w.heap.size ≤ w1.heap.size := by have := hb1.size; simp at this; omega
  have hq1 : Below w.heap.size w w1 := hb0.trans (hb1.mono (by simp))
  go_wp2_with fail
  refine (writeString_any _ _ _ _ _ hB1 (by rw [size_of_list, List.length_nil]; omega) hz1).mono ?_
  rintro e w2 ⟨rfl, hB2, hb2⟩
  have hz2 : w.heap.size ≤ w2.heap.size := by have := hb2.size; omega
  go_wp2_with fail
  refine (writeByte_any _ _ _ 91 _ _ hB2 rfl (by simp; omega) hz2).mono ?_
  rintro e w3 ⟨rfl, hB3, hb3⟩
  have hz3 : w.heap.size ≤ w3.heap.size := by have := hb3.size; omega
  have hq3 := (hq1.trans hb2).trans hb3
  go_wp2_with fail
  go_loopw [15] (fun i wr => ∃ k : Nat, k ≤ n ∧ i = .int .i64 k ∧ Hid (Bld w.heap.size w.heap.size (dg ++ 91 :: (l.take k).flatMap wInt) wr) ∧ Below w.heap.size w wr) (fun i _ => n - (RowKit.intOf i).toNat)
  case atStart => exact ⟨0, Nat.zero_le _, rfl, show Bld _ _ _ _ by simpa using hB3, hq3⟩
  case round =>
    obtain ⟨k, hk, rfl, hBk, hqk⟩ := hrel
    by_cases hlt : k < n
    · obtain ⟨ad, u, rfl, hab, hx, hc⟩ := (hr.below (hqk.mono hB0)).at_ hlt
      obtain ⟨hkl, hu⟩ : ∃ h : k < l.length, u = .int .i64 l[k] := map_at hx
      subst hu
      have hx' := hi l[k] (List.getElem_mem hkl)
      obtain ⟨hx1, hx2⟩ := hx'
      have htk := ht.on hqk
      have HS := Lib.hid (take_flat (f := wInt) hkl)
      have HE := Lib.hid (flat_le (f := wInt) (l := l) (k + 1))
      generalize l[k] = x at hc hx1 hx2 HS
      clear hx
      go_wp2_with fail
      refine (wInt_any x hx1 hx2 _ htk).mono ?_
      rintro e w4 ⟨rfl, hb4⟩
      have hz4 : w.heap.size ≤ w4.heap.size := by have := hqk.size; have := hb4.size; omega
      have hB4 := (hBk.out).keep hb4
      have hq4 := hqk.trans (hb4.mono hqk.size)
      have hlen4 : (dg ++ 91 :: (l.take k).flatMap wInt).length + (wInt x).length ≤ 140737488355328 := by
        have h1 := HE.out
        rw [HS.out, List.length_append] at h1
        simp only [List.length_append, List.length_cons]
        omega
      have hlen5 : (dg ++ 91 :: (l.take k).flatMap wInt).length + (⟨(wInt x).toArray⟩ : ByteArray).size ≤ 140737488355328 := by rw [size_of_list]; exact hlen4
      clear hlen4
      go_wp2_with fail
      refine (writeString_any _ _ _ _ _ hB4 hlen5 hz4).mono ?_
      rintro e w5 ⟨rfl, hB5, hb5⟩
      have hq5 := hq4.trans hb5
      clear hc hr hlen5
      go_wp2_with fail
      go_roundw
      case rel => exact ⟨k + 1, by omega, by go_num, show Bld _ _ _ _ by rw [HS.out]; simpa using hB5, hq5⟩
      case measure => simp [RowKit.intOf]; omega
    · have hkn : n ≤ k := by omega
      have hzk : w.heap.size ≤ wr.heap.size := hqk.size
      have hlen4 : (dg ++ 91 :: (l.take k).flatMap wInt).length + 1 ≤ 140737488355328 := by
        have := flat_le (f := wInt) (l := l) k
        simp only [List.length_append, List.length_cons]
        omega
      have HF := Lib.hid (show l.take k = l from List.take_of_length_le (by rw [HLN.out]; exact hkn))
      clear hr
      go_wp2_with fail
      refine (writeByte_any _ _ _ 93 _ _ hBk.out rfl hlen4 hzk).mono ?_
      rintro e w4 ⟨rfl, hB4, hb4⟩
      have hz4 : w.heap.size ≤ w4.heap.size := by have := hb4.size; omega
      clear hlen4
      go_wp2_with fail
      refine (bldString_any _ _ _ _ hB4 hz4).mono ?_
      rintro e w5 ⟨rfl, hb5⟩
      go_wp2
      go_ret
      exact ⟨ret_bytes (by unfold wList; rw [HF.out, HLN.out, HDG.out]), (hqk.trans hb4).trans hb5⟩

set_option maxHeartbeats 1000000 in
theorem listTexts_any (A : Option Addr) (n c B0 : Nat) (l : List ByteArray) (w : World) (ht : Tab w) (hr : Reads w B0 1 A n (l.map Value.string)) (hB0 : B0 ≤ w.heap.size) (hn : n ≤ 9223372036854775807) (hi : ∀ x ∈ l, x.size ≤ 140737488355328)
    (hlen : (wList wTextB l).length ≤ 140737488355328) :
    Calls Tryd.prog 47 #[.slice A n c, .func (.func 15) #[] #[]] w fun e w' => e = .returned (.string ⟨(wList wTextB l).toArray⟩) ∧ Below w.heap.size w w' := by
  have hln : l.length = n := by have := hr.1; simpa using this
  have hlen' : (decDigits n).length + 1 + (l.flatMap wTextB).length + 1 ≤ 140737488355328 := by
    unfold wList at hlen
    simp only [List.length_append, List.length_cons, List.length_nil] at hlen
    rw [hln] at hlen
    omega
  have hB := Bld.new w
  have hb0 : Below w.heap.size w (w.alloc (.cells #[.pointer none, .slice none 0 0] 69)) := (Below.refl _ _).alloc (Nat.le_refl _) _
  have ht1 := ht.on hb0
  have HLN := Lib.hid hln
  clear hln hlen
  go_enter Tryd.func47, Tryd.ntmps47
  go_wp2_with fail
  refine (itoa_any _ (by omega) (by omega) _ ht1).mono ?_
  rintro e w1 ⟨rfl, hb1⟩
  have hB1 := hB.keep hb1
  rw [itoa_nonneg]
  generalize hdg : decDigits n = dg at hlen'
  have HDG := Lib.hid hdg
  clear hdg hB
  have hz1 : w.heap.size ≤ w1.heap.size := by have := hb1.size; simp at this; omega
  have hq1 : Below w.heap.size w w1 := hb0.trans (hb1.mono (by simp))
  go_wp2_with fail
  refine (writeString_any _ _ _ _ _ hB1 (by rw [size_of_list, List.length_nil]; omega) hz1).mono ?_
  rintro e w2 ⟨rfl, hB2, hb2⟩
  have hz2 : w.heap.size ≤ w2.heap.size := by have := hb2.size; omega
  go_wp2_with fail
  refine (writeByte_any _ _ _ 91 _ _ hB2 rfl (by simp; omega) hz2).mono ?_
  rintro e w3 ⟨rfl, hB3, hb3⟩
  have hz3 : w.heap.size ≤ w3.heap.size := by have := hb3.size; omega
  have hq3 := (hq1.trans hb2).trans hb3
  go_wp2_with fail
  go_loopw [15] (fun i wr => ∃ k : Nat, k ≤ n ∧ i = .int .i64 k ∧ Hid (Bld w.heap.size w.heap.size (dg ++ 91 :: (l.take k).flatMap wTextB) wr) ∧ Below w.heap.size w wr) (fun i _ => n - (RowKit.intOf i).toNat)
  case atStart => exact ⟨0, Nat.zero_le _, rfl, show Bld _ _ _ _ by simpa using hB3, hq3⟩
  case round =>
    obtain ⟨k, hk, rfl, hBk, hqk⟩ := hrel
    by_cases hlt : k < n
    · obtain ⟨ad, u, rfl, hab, hx, hc⟩ := (hr.below (hqk.mono hB0)).at_ hlt
      obtain ⟨hkl, hu⟩ : ∃ h : k < l.length, u = .string l[k] := map_at hx
      subst hu
      have hx' := hi l[k] (List.getElem_mem hkl)
      have hx1 : l[k].size ≤ 140737488355328 := hx'
      clear hx'
      have htk := ht.on hqk
      have HS := Lib.hid (take_flat (f := wTextB) hkl)
      have HE := Lib.hid (flat_le (f := wTextB) (l := l) (k + 1))
      generalize l[k] = x at hc hx1 HS
      clear hx
      go_wp2_with fail
      refine (wText_any x hx1 _ htk).mono ?_
      rintro e w4 ⟨rfl, hb4⟩
      have hz4 : w.heap.size ≤ w4.heap.size := by have := hqk.size; have := hb4.size; omega
      have hB4 := (hBk.out).keep hb4
      have hq4 := hqk.trans (hb4.mono hqk.size)
      have hlen4 : (dg ++ 91 :: (l.take k).flatMap wTextB).length + (wTextB x).length ≤ 140737488355328 := by
        have h1 := HE.out
        rw [HS.out, List.length_append] at h1
        simp only [List.length_append, List.length_cons]
        omega
      have hlen5 : (dg ++ 91 :: (l.take k).flatMap wTextB).length + (⟨(wTextB x).toArray⟩ : ByteArray).size ≤ 140737488355328 := by rw [size_of_list]; exact hlen4
      clear hlen4
      go_wp2_with fail
      refine (writeString_any _ _ _ _ _ hB4 hlen5 hz4).mono ?_
      rintro e w5 ⟨rfl, hB5, hb5⟩
      have hq5 := hq4.trans hb5
      clear hc hr hlen5
      go_wp2_with fail
      go_roundw
      case rel => exact ⟨k + 1, by omega, by go_num, show Bld _ _ _ _ by rw [HS.out]; simpa using hB5, hq5⟩
      case measure => simp [RowKit.intOf]; omega
    · have hkn : n ≤ k := by omega
      have hzk : w.heap.size ≤ wr.heap.size := hqk.size
      have hlen4 : (dg ++ 91 :: (l.take k).flatMap wTextB).length + 1 ≤ 140737488355328 := by
        have := flat_le (f := wTextB) (l := l) k
        simp only [List.length_append, List.length_cons]
        omega
      have HF := Lib.hid (show l.take k = l from List.take_of_length_le (by rw [HLN.out]; exact hkn))
      clear hr
      go_wp2_with fail
      refine (writeByte_any _ _ _ 93 _ _ hBk.out rfl hlen4 hzk).mono ?_
      rintro e w4 ⟨rfl, hB4, hb4⟩
      have hz4 : w.heap.size ≤ w4.heap.size := by have := hb4.size; omega
      clear hlen4
      go_wp2_with fail
      refine (bldString_any _ _ _ _ hB4 hz4).mono ?_
      rintro e w5 ⟨rfl, hb5⟩
      go_wp2
      go_ret
      exact ⟨ret_bytes (by unfold wList; rw [HF.out, HLN.out, HDG.out]), (hqk.trans hb4).trans hb5⟩


theorem nums_any (A : Option Addr) (n c B0 : Nat) (l : List Int) (w : World) (ht : Tab w) (hr : Reads w B0 1 A n (l.map (Value.int .i64))) (hB0 : B0 ≤ w.heap.size) (hn : n ≤ 9223372036854775807) (hi : ∀ x ∈ l, -9223372036854775808 ≤ x ∧ x ≤ 9223372036854775807)
    (hlen : (wList wInt l).length ≤ 140737488355328) :
    Calls Tryd.prog 17 #[.slice A n c] w fun e w' => e = .returned (.string ⟨(wList wInt l).toArray⟩) ∧ Below w.heap.size w w' := by
  go_enter Tryd.func17, Tryd.ntmps17
  go_wp2_with fail
  refine (listInts_any A n c B0 l w ht hr hB0 hn hi hlen).mono ?_
  rintro e w1 ⟨rfl, hb1⟩
  go_wp2
  go_ret
  exact ⟨rfl, hb1⟩
theorem texts_any (A : Option Addr) (n c B0 : Nat) (l : List ByteArray) (w : World) (ht : Tab w) (hr : Reads w B0 1 A n (l.map Value.string)) (hB0 : B0 ≤ w.heap.size) (hn : n ≤ 9223372036854775807) (hi : ∀ x ∈ l, x.size ≤ 140737488355328)
    (hlen : (wList wTextB l).length ≤ 140737488355328) :
    Calls Tryd.prog 19 #[.slice A n c] w fun e w' => e = .returned (.string ⟨(wList wTextB l).toArray⟩) ∧ Below w.heap.size w w' := by
  go_enter Tryd.func19, Tryd.ntmps19
  go_wp2_with fail
  refine (listTexts_any A n c B0 l w ht hr hB0 hn hi hlen).mono ?_
  rintro e w1 ⟨rfl, hb1⟩
  go_wp2
  go_ret
  exact ⟨rfl, hb1⟩

end Go.Proofs.YtkkaancpokahcaaDoor
