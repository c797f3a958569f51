/- The walk of the statement WireNests: encodings as the strings of a list, itself as a string, are read back one in the other. Conditions: the slice reads as the values; the table of strconv holds what its text lays. -/
import Derived.Test.YtkkaancpokahcaaDoorBack
namespace Go.Proofs.YtkkaancpokahcaaDoor
open Go.RowKit Go.Lib

set_option maxHeartbeats 1000000 in
theorem nests_no (A : Option Addr) (n c B : Nat) (xs : List Va) (w : World) (ht : Tab w) (h : VsIs w B A n xs) (hB : B ≤ w.heap.size) (hn : n ≤ 9223372036854775807) (hf : ∀ x ∈ xs, x.Fits) (hno : fewB xs = false) :
    Calls Tryd.prog 8 #[.slice A n c] w fun e w' => e = .returned (.bool true) ∧ Below w.heap.size w w' := by
  go_enter Tryd.func8, Tryd.ntmps8
  go_wp2_with fail
  refine (small_any _ ht).mono ?_
  rintro e w1 ⟨rfl, q1⟩
  have h1 := h.below (q1.mono hB)
  go_wp2_with fail
  refine (few_any _ _ _ _ xs _ h1 hn hf).mono ?_
  rintro e w2 ⟨rfl, hd⟩
  have q2 := blw q1 hd.below
  rw [hno]
  go_wp2
  go_ret
  exact ⟨rfl, q2⟩

/-- The encodings of the first k values, as strings. -/
def encs (xs : List Va) (k : Nat) : List ByteArray := (xs.take k).map fun x => ⟨(encV x).toArray⟩
theorem encs_snoc {xs : List Va} {k : Nat} (h : k < xs.length) : encs xs (k + 1) = encs xs k ++ [⟨(encV xs[k]).toArray⟩] := by
  unfold encs
  rw [List.take_succ_eq_append_getElem h, List.map_append]
  rfl

theorem texts_rd_n {b n : Nat} {s : ByteArray} {f : Bool} {w : World} {t : List ByteArray} {r : List UInt8} (h : Rd w b s f) (hff : f = true → s.data.toList = []) (hs : s.size ≤ 1099511627776) (ho : listP textP s.data.toList = some (t.map (·.data.toList), r)) (hn : t.length = n) :
    Calls Tryd.prog 34 #[.pointer (some ⟨b, 0, none⟩)] w fun e w' => ∃ A c, e = .returned (.slice A n c) ∧ Reads w' w'.heap.size 1 A n (t.map Value.string) ∧ RdL w' b r false ∧ w.grownBy w' (some b) := by
  subst hn
  exact texts_rd_yes' h hff hs ho
theorem own_below {w w' : World} {B n : Nat} {e : TypeId} {v : Value} {xs : List Value} (h : w.ownsRow B e 1 v n xs) (hb : Below w.heap.size w w') : w'.ownsRow B e 1 v n xs := h.kept (only_of_below hb none) (by cases hv : v.ownBlock <;> simp)
theorem encs_size {xs : List Va} {k : Nat} (h : ∀ x ∈ xs, (encV x).length ≤ 200000) : ∀ z ∈ encs xs k, z.size ≤ 200000 := fun z hz => by
  unfold encs at hz
  obtain ⟨x, hx, rfl⟩ := List.mem_map.1 hz
  rw [size_of_list]
  exact h x (List.mem_of_mem_take hx)
theorem encs_get {xs : List Va} {k i : Nat} (h : i < xs.length) (hk : xs.length ≤ k) : (encs xs k)[i]? = some ⟨(encV xs[i]).toArray⟩ := by
  unfold encs
  rw [List.take_of_length_le hk, List.getElem?_map, List.getElem?_eq_getElem h]
  rfl
theorem nest_len {es : List ByteArray} {n : Nat} (hn : es.length = n) (h20 : n ≤ 20) (h : ∀ z ∈ es, z.size ≤ 200000) : (wList wTextB es).length ≤ 5000000 := by
  have h2 := flat_len (f := wTextB) (m := 200023) (l := es) (fun z hz => by
    unfold wTextB wText
    have h5 := h z hz
    have := dec_len (n := z.data.toList.length) (by rw [len_eq]; omega)
    have h6 := len_eq z
    simp at this ⊢
    simp at h6
    omega)
  have h3 := dec_len (n := es.length) (by omega)
  unfold wList
  simp only [List.length_append, List.length_cons, List.length_nil]
  omega

set_option maxHeartbeats 2000000 in
theorem nests_yes (A : Option Addr) (n c B : Nat) (xs : List Va) (w : World) (ht : Tab w) (h : VsIs w B A n xs) (hB : B ≤ w.heap.size) (hf : ∀ x ∈ xs, x.Fits) (hfe : fewB xs = true) :
    Calls Tryd.prog 8 #[.slice A n c] w fun e w' => e = .returned (.bool true) ∧ Below w.heap.size w w' := by
  obtain ⟨i0, hi, hz0, hz1, hz2⟩ := info_parts infoString
  obtain ⟨h20, hok⟩ := few_parts hfe
  have HL := Lib.hid h.1
  have hn20 : n ≤ 20 := by rw [← h.1]; exact h20
  have HOK := Lib.hid hok
  have HFT := Lib.hid hf
  have HFE := Lib.hid hfe
  clear hok hfe h20
  go_enter Tryd.func8, Tryd.ntmps8
  go_wp2_with fail
  refine (small_any _ ht).mono ?_
  rintro e w1 ⟨rfl, q1⟩
  have h1 := h.below (q1.mono hB)
  go_wp2_with fail
  refine (few_any _ _ _ _ xs _ h1 (by omega) hf).mono ?_
  rintro e w2 ⟨rfl, hd⟩
  have q2 := blw q1 hd.below
  rw [HFE.out]
  have HW := Lib.hid h
  clear h h1 hf hd
  go_wp2_with fail
  go_loopw [4, 5] (fun v i wr => ∃ k : Nat, k ≤ n ∧ i = .int .i64 k ∧ wr.ownsRow w.heap.size 9 1 v k ((encs xs k).map Value.string) ∧ Below w.heap.size w wr) (fun _ i _ => n - (RowKit.intOf i).toNat)
  case atStart => exact ⟨0, Nat.zero_le _, rfl, World.ownsRow_nil _ _ _ _, q2⟩
  case round =>
    obtain ⟨k, hk, rfl, hown, hq⟩ := hrel
    by_cases hlt : k < n
    · obtain ⟨ad, hkx, rfl, A1, c1, A2, c2, g0, g1, g2, g3, g4, hr1, hr2⟩ := VsIs.at (HW.out.below (hq.mono hB)) hlt
      have hfx := HFT.out _ (List.getElem_mem hkx)
      have hox := HOK.out _ (List.getElem_mem hkx)
      have HX := Lib.hid (encs_snoc hkx)
      generalize xs[k] = x at *
      have htr := ht.on hq
      go_wp2_with fail
      refine (write_any x A1 c1 A2 c2 _ htr hfx hox (hr1.more (by have := hq.size; omega)) (hr2.more (by have := hq.size; omega))).mono ?_
      rintro e w3 ⟨rfl, b3⟩
      have hq3 := blw hq b3
      have hown3 := own_below hown b3
      have hbase3 : w.heap.size ≤ w3.heap.size := hq3.size
      clear g0 g1 g2 g3 g4 hr1 hr2
      obtain ⟨y, hy⟩ : ∃ y : ByteArray, y = ⟨(encV x).toArray⟩ := ⟨_, rfl⟩
      rw [← hy]
      have HY := Lib.hid hy
      clear hy
      go_wp2_with (at_builtin; refine wpList_append_own _ rfl _ _ 23 rfl w.heap.size 9 i0 (.string ⟨#[]⟩) 1 16 Tryd.underlying23 hi hz0 hz1 hz2 rfl (by decide) _ _ _ rfl (hown3.alloc _) ⟨w3.heap.size, 0, none⟩ 1 1 [.string y] rfl rfl ?c1 ?c2 ?c3 ?c4 ?c5 ?_)
      case c1 =>
        intro j u hj
        match j, hj with
        | 0, hj => simp at hj; subst hj; simp [Addr.add]
      case c2 => intro u hu; simp at hu; subst hu; rfl
      case c3 => unfold maxLen; omega
      case c4 => omega
      case c5 => simp; omega
      intro v' w4 hown4 hgrow _
      have hal : Below w.heap.size w3 (w3.alloc (.cells #[.string y] 9)) := (Below.refl _ _).alloc hbase3 _
      have hq4 : Below w.heap.size w w4 := (hq3.trans hal).grown hgrow (by simp; omega) (fun g e => (hown3.lt g e).1)
      go_wp2_with fail
      go_roundw
      case rel => exact ⟨k + 1, by omega, by go_num, by rw [HX.out, List.map_append, ← HY.out]; exact hown4, hq4⟩
      case measure => simp [RowKit.intOf]; omega
    · have hkn : k = n := by omega
      subst hkn
      obtain ⟨A', c', hv, hRd⟩ := own_reads hown
      rw [hv]
      clear hv hown
      have hel : (encs xs k).length = k := by unfold encs; rw [List.length_map, List.length_take, HL.out]; omega
      have hes : ∀ z ∈ encs xs k, z.size ≤ 200000 := encs_size (fun x hx => encV_len (HFT.out x hx) (HOK.out x hx))
      have hnest := nest_len hel hn20 hes
      have HEL := Lib.hid hel
      have HES := Lib.hid hes
      have HGET := Lib.hid (show ∀ (i : Nat) (h : i < xs.length), (encs xs k)[i]? = some ⟨(encV xs[i]).toArray⟩ from fun i h => encs_get h (by rw [HL.out]; exact Nat.le_refl _))
      generalize encs xs k = es at hRd hnest HEL HES HGET
      clear hel hes
      have hRd' : Reads wr wr.heap.size 1 A' es.length (es.map Value.string) := by rw [HEL.out]; exact hRd
      clear hRd
      have htr := ht.on hq
      have hcod : listP textP (wList wTextB es) = some (es.map (·.data.toList), []) := (list_codec text_codec _ _ _).2 ⟨⟨by rw [List.length_map, HEL.out]; omega, fun z hz => by
        obtain ⟨y, hy, rfl⟩ := List.mem_map.1 hz
        show y.data.toList.length ≤ _
        rw [len_eq]
        have := HES.out y hy
        omega⟩, by rw [texts_enc', List.append_nil]⟩
      have HCOD := Lib.hid hcod
      clear hcod
      have hkl : es.length ≤ 9223372036854775807 := by rw [HEL.out]; omega
      have htx : Calls Tryd.prog 19 #[.slice A' k c'] wr fun e w' => e = .returned (.string ⟨(wList wTextB es).toArray⟩) ∧ Below wr.heap.size wr w' := by
        have h0 := texts_any A' es.length c' wr.heap.size es wr htr hRd' (Nat.le_refl _) hkl (fun z hz => by have := HES.out z hz; omega) (by omega)
        rw [HEL.out] at h0
        exact h0
      have HTX := hide htx
      clear htx hRd' hkl
      go_wp2_with fail
      refine (unhide HTX).mono ?_
      rintro e w3 ⟨rfl, b3⟩
      have hq3 := blw hq b3
      generalize hT : wList wTextB es = T at hnest HCOD
      clear hT HTX
      have ht3 := ht.on hq3
      go_wp2_with fail
      refine (wText_any _ (by rw [size_of_list]; omega) _ ht3).mono ?_
      rintro e w4 ⟨rfl, b4⟩
      have hq4 := blw hq3 b4
      go_wp2_with fail
      refine (open_any _ _).mono ?_
      rintro e w5 ⟨rfl, hR5, b5⟩
      have hq5 := blw hq4 b5
      have hto : textP (ByteArray.mk (wText (ByteArray.mk T.toArray).data.toList).toArray).data.toList = some (T, []) := (text_codec _ _ _).2 ⟨show T.length ≤ _ by omega, by simp⟩
      have HTO := Lib.hid hto
      clear hto
      have hts5 : (ByteArray.mk (wText (ByteArray.mk T.toArray).data.toList).toArray).size ≤ 9223372036854775807 := by
        rw [size_of_list]
        unfold wText
        have := dec_len (n := (ByteArray.mk T.toArray).data.toList.length) (by simp; omega)
        simp at this ⊢
        omega
      go_wp2_with fail
      refine (text_yes hR5 (fun h => by cases h) hts5 HTO.out).mono ?_
      rintro e w6 ⟨rfl, hR6, g6⟩
      have hq6 := hq5.trans (below_of_only g6 (by have := hq4.size; have := hq5.size; omega))
      go_wp2_with fail
      refine (open_any _ _).mono ?_
      rintro e w7 ⟨rfl, hR7, b7⟩
      have hq7 := blw hq6 b7
      have hR67 : Rd w7 w4.heap.size ⟨#[]⟩ false := Blk.below hR6 b7 (Blk.lt hR6)
      go_wp2_with fail
      refine (done_any _ _ _ _ hR67).mono ?_
      rintro e w8 ⟨rfl, rfl⟩
      rw [show (!false && (ByteArray.mk #[]).data.toList.isEmpty) = true from rfl]
      go_wp2_with fail
      refine (texts_rd_n hR7 (fun h => by cases h) (by rw [size_of_list]; omega) (show listP textP (ByteArray.mk T.toArray).data.toList = _ from HCOD.out) HEL.out).mono ?_
      rintro e w8 ⟨A8, c8, rfl, hRe8, hR8, g8⟩
      have hq8 := hq7.trans (below_of_only g8 (by have := hq6.size; have := hq7.size; omega))
      go_wp2_with fail
      refine (done_any _ _ _ _ hR8).mono ?_
      rintro e w9 ⟨rfl, rfl⟩
      rw [show (!false && (ByteArray.mk (List.toArray [])).data.toList.isEmpty) = true from rfl]
      go_wp2_with fail
      go_outline
      go_loopw [9] (fun i wi => ∃ j : Nat, j ≤ k ∧ i = .int .i64 j ∧ Below w.heap.size w wi ∧ Below w8.heap.size w8 wi) (fun i _ => k - (RowKit.intOf i).toNat)
      case atStart => exact ⟨0, Nat.zero_le _, rfl, hq8, Below.refl _ _⟩
      case round =>
        obtain ⟨j, hj, rfl, hqj, hpj⟩ := hrel
        by_cases hjt : j < k
        · obtain ⟨ad, hjx, rfl, A1, c1, A2, c2, g0, g1, g2, g3, g4, hr1, hr2⟩ := VsIs.at (HW.out.below (hqj.mono hB)) hjt
          obtain ⟨a8, u, rfl, hab8, hu, gu⟩ := (hRe8.below hpj).at_ hjt
          have hu' : u = .string ⟨(encV xs[j]).toArray⟩ := by
            rw [List.getElem?_map, HGET.out j hjx] at hu
            exact (Option.some.inj hu).symm
          subst hu'
          have hfx := HFT.out _ (List.getElem_mem hjx)
          have hox := HOK.out _ (List.getElem_mem hjx)
          generalize xs[j] = x at *
          have hlen := encV_len hfx hox
          clear hu HGET
          go_wp2_with fail
          refine (open_any _ _).mono ?_
          rintro e w10 ⟨rfl, hR10, b10⟩
          have hq10 := blw hqj b10
          have hp10 := blw hpj b10
          have d0 := (b10.cell (p := ad.add (j * 5)) (World.block_lt_of_cell? _ _ g0)).trans g0
          have d1 := (b10.cell (World.block_lt_of_cell? _ _ g1)).trans g1
          have d2 := (b10.cell (World.block_lt_of_cell? _ _ g2)).trans g2
          have d3 := (b10.cell (World.block_lt_of_cell? _ _ g3)).trans g3
          have d4 := (b10.cell (World.block_lt_of_cell? _ _ g4)).trans g4
          have hs1 := (hr1.more hB).below (b10.mono hqj.size)
          have hs2 := (hr2.more hB).below (b10.mono hqj.size)
          clear g0 g1 g2 g3 g4 gu hr1 hr2
          go_wp2_with fail
          refine (equal_yes _ w.heap.size _ [] x A1 c1 A2 c2 _ hR10 (by rw [size_of_list]; omega) hfx hqj.size hs1 hs2 (by simp)).mono ?_
          rintro e w11 ⟨rfl, hR11, g11⟩
          have hq11 := hq10.trans (below_of_only g11 (by have := hqj.size; have := hq10.size; omega))
          have hp11 := hp10.trans (below_of_only g11 (by have := hpj.size; have := hp10.size; omega))
          clear d0 d1 d2 d3 d4 hs1 hs2
          go_wp2_with fail
          refine (done_any _ _ _ _ hR11).mono ?_
          rintro e w12 ⟨rfl, rfl⟩
          rw [show (!false && (ByteArray.mk (List.toArray [])).data.toList.isEmpty) = true from rfl]
          go_wp2_with fail
          go_roundw
          case rel => exact ⟨j + 1, by omega, by go_num, hq11, hp11⟩
          case measure => simp [RowKit.intOf]; omega
        · go_wp2_with fail
          go_ret
          exact ⟨rfl, hqj⟩

theorem nests_walk (A : Option Addr) (n c B : Nat) (xs : List Va) (w : World) (ht : Tab w) (h : VsIs w B A n xs) (hB : B ≤ w.heap.size) (hn : n ≤ 9223372036854775807) (hf : ∀ x ∈ xs, x.Fits) :
    Calls Tryd.prog 8 #[.slice A n c] w fun e w' => e = .returned (.bool true) ∧ Below w.heap.size w w' := by
  cases hfe : fewB xs with
  | false => exact nests_no A n c B xs w ht h hB hn hf hfe
  | true => exact nests_yes A n c B xs w ht h hB hf hfe

end Go.Proofs.YtkkaancpokahcaaDoor
