/- The walks of the reference reader's Nums and Texts: each reads exactly a list's encoding that stands ahead, into new memory. Condition: at most 2^40 bytes are left. -/
import Derived.Test.YtkkaancpokahcaaDoorRq3
namespace Go.Proofs.YtkkaancpokahcaaDoor
open Go.RowKit

/-- The state of the loop: xs have been read, k are to come; or it has failed. -/
def QlSt {α : Type} (p : List UInt8 → Option (α × List UInt8)) (b L : Nat) (o : Option (List α × List UInt8)) (k : Nat) (xs : List α) (w : World) : Prop :=
  (∃ r, RqL w b r false ∧ xs.length + r.length ≤ L ∧ o = (elemsP p k r).map fun q => (xs ++ q.1, q.2)) ∨ (RqL w b [] true ∧ xs.length ≤ L + 1 ∧ o = none)

theorem number_el {α : Type} (p : List UInt8 → Option (α × List UInt8)) {b : Nat} {s : ByteArray} {f : Bool} (w : World) (h : Rq w b s f) (hff : f = true → s.data.toList = []) (hs : s.size ≤ 1099511627776) :
    Calls Tryd.prog 49 #[.pointer (some ⟨b, 0, none⟩), .int .u8 91] w fun e w' => ∃ n : Nat, e = .returned (.int .i64 (n : Int)) ∧ n ≤ 9223372036854775807 ∧ w.grownBy w' (some b) ∧ QlSt p b 1099511627776 (elemsO p s.data.toList) n [] w' := by
  refine (qnumber b s f 91 91 _ h hff rfl (by decide) (by decide) (by omega)).mono ?_
  intro e w' hd
  cases ho : digP 91 9223372036854775807 s.data.toList with
  | none =>
    rw [ho] at hd
    obtain ⟨rfl, h1, g1⟩ := hd
    exact ⟨0, rfl, by omega, g1, .inr ⟨h1, by simp, by unfold elemsO; rw [ho]⟩⟩
  | some q =>
    obtain ⟨n, r⟩ := q
    rw [ho] at hd
    obtain ⟨rfl, h1, g1⟩ := hd
    obtain ⟨hn, hl⟩ := (digP_some (by decide)).1 ho
    refine ⟨n, rfl, hn, g1, .inl ⟨r, h1, ?_, ?_⟩⟩
    · have h2 := congrArg List.length hl
      rw [len_eq] at h2
      simp at h2
      simp
      omega
    · unfold elemsO
      simp only [ho]
      simp

/-- How the reading of a list ends. -/
def QsEnd {α : Type} (E : TypeId) (V : α → Value) (b : Nat) (w : World) (o : Option (List α × List UInt8)) (e : Ending) (w' : World) : Prop :=
  match o with
  | some (xs, r) => ∃ v, e = .returned v ∧ w'.ownsRow w.heap.size E 1 v xs.length (xs.map V) ∧ RqL w' b r false ∧ w.grownBy w' (some b)
  | none => e = .returned (.slice none 0 0) ∧ RqL w' b [] true ∧ w.grownBy w' (some b)
theorem QsEnd.no {α : Type} {E : TypeId} {V : α → Value} {b : Nat} {w : World} {o : Option (List α × List UInt8)} {e : Ending} {w' : World} (ho : o = none) (he : e = .returned (.slice none 0 0)) (h : RqL w' b [] true) (hg : w.grownBy w' (some b)) : QsEnd E V b w o e w' := by
  subst ho
  exact ⟨he, h, hg⟩
theorem QsEnd.yes {α : Type} {E : TypeId} {V : α → Value} {b : Nat} {w : World} {o : Option (List α × List UInt8)} {e : Ending} {w' : World} {xs : List α} {r : List UInt8} {v : Value} (ho : o = some (xs, r)) (he : e = .returned v) (hown : w'.ownsRow w.heap.size E 1 v xs.length (xs.map V)) (h : RqL w' b r false) (hg : w.grownBy w' (some b)) : QsEnd E V b w o e w' := by
  subst ho
  exact ⟨v, he, hown, h, hg⟩

theorem qint_yes {b : Nat} {s : ByteArray} {f : Bool} {x : Int} {r : List UInt8} {w : World} (h : Rq w b s f) (hff : f = true → s.data.toList = []) (hs : s.size ≤ 9223372036854775806) (ho : intP s.data.toList = some (x, r)) :
    Calls Tryd.prog 27 #[.pointer (some ⟨b, 0, none⟩)] w fun e w' => e = .returned (.int .i64 x) ∧ RqL w' b r false ∧ w.grownBy w' (some b) :=
  (qint b s f w h hff hs).mono fun e w' hd => by rw [ho] at hd; exact hd
theorem qint_no {b : Nat} {s : ByteArray} {f : Bool} {w : World} (h : Rq w b s f) (hff : f = true → s.data.toList = []) (hs : s.size ≤ 9223372036854775806) (ho : intP s.data.toList = none) :
    Calls Tryd.prog 27 #[.pointer (some ⟨b, 0, none⟩)] w fun e w' => e = .returned (.int .i64 0) ∧ RqL w' b [] true ∧ w.grownBy w' (some b) :=
  (qint b s f w h hff hs).mono fun e w' hd => by rw [ho] at hd; exact hd
theorem qtext_yes {b : Nat} {s : ByteArray} {f : Bool} {x : (List UInt8)} {r : List UInt8} {w : World} (h : Rq w b s f) (hff : f = true → s.data.toList = []) (hs : s.size ≤ 9223372036854775806) (ho : textP s.data.toList = some (x, r)) :
    Calls Tryd.prog 29 #[.pointer (some ⟨b, 0, none⟩)] w fun e w' => e = .returned (.string ⟨x.toArray⟩) ∧ RqL w' b r false ∧ w.grownBy w' (some b) :=
  (qtext b s f w h hff hs).mono fun e w' hd => by rw [ho] at hd; exact hd
theorem qtext_no {b : Nat} {s : ByteArray} {f : Bool} {w : World} (h : Rq w b s f) (hff : f = true → s.data.toList = []) (hs : s.size ≤ 9223372036854775806) (ho : textP s.data.toList = none) :
    Calls Tryd.prog 29 #[.pointer (some ⟨b, 0, none⟩)] w fun e w' => e = .returned (.string ⟨#[]⟩) ∧ RqL w' b [] true ∧ w.grownBy w' (some b) :=
  (qtext b s f w h hff hs).mono fun e w' hd => by rw [ho] at hd; exact hd

set_option maxHeartbeats 2000000 in
theorem qnums (b : Nat) (s : ByteArray) (f : Bool) (w : World) (h : Rq w b s f) (hff : f = true → s.data.toList = []) (hs : s.size ≤ 1099511627776) :
    Calls Tryd.prog 32 #[.pointer (some ⟨b, 0, none⟩)] w (QsEnd 3 (Value.int .i64) b w (listP intP s.data.toList)) := by
  obtain ⟨i0, hi, hz0, hz1, hz2⟩ := info_parts infoInt
  have hbw : b < w.heap.size := Blk.lt h
  have HFF := Lib.hid hff
  generalize ho : elemsO intP s.data.toList = o
  have HO := Lib.hid ho
  clear hff
  go_enter Tryd.func32, Tryd.ntmps32
  go_wp2_with fail
  refine (number_el intP _ h HFF.out hs).mono ?_
  rintro e w1 ⟨n0, rfl, hn0, g1, hSt1⟩
  rw [ho] at hSt1
  clear ho
  have hSt := Lib.hid hSt1
  have hw1 : w.heap.size ≤ w1.heap.size := g1.size
  clear hSt1
  go_wp2_with fail
  go_loopw [4, 5] (fun v i wr => ∃ (i0 k : Nat) (xs : List Int), i0 + k = n0 ∧ i = .int .i64 (i0 : Int) ∧ wr.ownsRow w.heap.size 3 1 v xs.length (xs.map (Value.int .i64)) ∧ w.grownBy wr (some b) ∧ Hid (QlSt intP b 1099511627776 o k xs wr)) (fun _ i _ => n0 - (RowKit.intOf i).toNat)
  case atStart => exact ⟨0, n0, [], by omega, rfl, World.ownsRow_nil _ _ _ _, g1, hSt⟩
  case round =>
    obtain ⟨j0, k, xs, hk, rfl, hown, hg, hS⟩ := hrel
    rcases hS.out with ⟨r, hR, hL, hE⟩ | ⟨hR, hL, hE⟩
    · obtain ⟨t, ht, hR⟩ := hR.ex
      have c1 := hR.c1
      have hLt : xs.length + t.size ≤ 1099511627776 := by rw [Lib.size_eq, ht]; exact hL
      have HE := Lib.hid hE
      have HT := Lib.hid ht
      clear hS hE ht hL
      by_cases hk0 : 0 < k
      · obtain ⟨k', hk'⟩ : ∃ k', k = k' + 1 := ⟨k - 1, by omega⟩
        have HK := Lib.hid hk'
        clear hk'
        cases hp : intP t.data.toList with
        | none =>
          have HP := Lib.hid hp
          clear hp
          go_wp2_with fail
          refine (qint_no hR (fun h => by cases h) (by omega) HP.out).mono ?_
          rintro e w4 ⟨rfl, hR4, hg4⟩
          have hown4 := hown.kept hg4 (.inr (own_far hown hbw))
          have hw4 : w.heap.size ≤ w4.heap.size := by have := hg.size; have := hg4.size; omega
          go_wp2_with (at_builtin; refine wpList_append_own _ rfl _ _ 22 rfl w.heap.size 3 i0 (.int .i64 0) 1 8 Tryd.underlying22 hi hz0 hz1 hz2 rfl (by decide) _ _ _ rfl (hown4.alloc _) ⟨w4.heap.size, 0, none⟩ 1 1 [.int .i64 0] rfl rfl ?c1 ?c2 ?c3 ?c4 ?c5 ?_)
          case c1 =>
            intro j u hj
            match j, hj with
            | 0, hj => simp at hj; subst hj; simp [Addr.add]
          case c2 => intro u hu; simp at hu; subst hu; rfl
          case c3 => unfold maxLen; omega
          case c4 => omega
          case c5 => simp; omega
          intro v' w5 hown5 hgrow _
          have hal : w4.grownBy (w4.alloc (.cells #[.int .i64 0] 3)) (some b) := World.grownBy_alloc _ _ _
          have hR5 : RqL w5 b [] true := Rq.grown (Rq.grown (row := none) hR4 (World.grownBy_alloc _ _ _) (by simp)) hgrow (fun e => own_far hown4 hbw e.symm)
          have hg5 : w.grownBy w5 (some b) := grown_own ((hg.trans hg4).trans hal) hgrow (fun g e => (hown4.lt g e).1)
          go_wp2_with fail
          go_roundw
          case rel => exact ⟨j0 + 1, k', xs ++ [0], by have := HK.out; omega, congrArg (Value.int .i64) (by omega), by simpa using hown5, hg5, .inr ⟨hR5, by simp; omega, elems_failO HE.out HK.out (by rw [← HT.out]; exact HP.out)⟩⟩
          case measure => have := HK.out; simp [RowKit.intOf]; omega
        | some q =>
          obtain ⟨x, r'⟩ := q
          have HP := Lib.hid hp
          have hlen := int_cons hp
          clear hp
          go_wp2_with fail
          refine (qint_yes hR (fun h => by cases h) (by omega) HP.out).mono ?_
          rintro e w4 ⟨rfl, hR4, hg4⟩
          have hown4 := hown.kept hg4 (.inr (own_far hown hbw))
          have hw4 : w.heap.size ≤ w4.heap.size := by have := hg.size; have := hg4.size; omega
          go_wp2_with (at_builtin; refine wpList_append_own _ rfl _ _ 22 rfl w.heap.size 3 i0 (.int .i64 0) 1 8 Tryd.underlying22 hi hz0 hz1 hz2 rfl (by decide) _ _ _ rfl (hown4.alloc _) ⟨w4.heap.size, 0, none⟩ 1 1 [.int .i64 x] rfl rfl ?c1 ?c2 ?c3 ?c4 ?c5 ?_)
          case c1 =>
            intro j u hj
            match j, hj with
            | 0, hj => simp at hj; subst hj; simp [Addr.add]
          case c2 => intro u hu; simp at hu; subst hu; rfl
          case c3 => unfold maxLen; omega
          case c4 => omega
          case c5 => simp; omega
          intro v' w5 hown5 hgrow _
          have hal : w4.grownBy (w4.alloc (.cells #[.int .i64 x] 3)) (some b) := World.grownBy_alloc _ _ _
          have hR5 : RqL w5 b r' false := Rq.grown (Rq.grown (row := none) hR4 (World.grownBy_alloc _ _ _) (by simp)) hgrow (fun e => own_far hown4 hbw e.symm)
          have hg5 : w.grownBy w5 (some b) := grown_own ((hg.trans hg4).trans hal) hgrow (fun g e => (hown4.lt g e).1)
          go_wp2_with fail
          go_roundw
          case rel => exact ⟨j0 + 1, k', xs ++ [x], by have := HK.out; omega, congrArg (Value.int .i64) (by omega), by simpa using hown5, hg5, .inl ⟨r', hR5, by simp; rw [len_eq] at hlen; omega, elems_stepO HE.out HK.out (by rw [← HT.out]; exact HP.out)⟩⟩
          case measure => have := HK.out; simp [RowKit.intOf]; omega
      · have HD := Lib.hid (elems_doneO HE.out (by omega : k = 0))
        by_cases hh : t.data.toList.head? = some 93
        · have HY := Lib.hid ((list_some (HO.out.trans HD.out)).trans (if_pos (by rw [← HT.out]; exact hh)))
          have HH := Lib.hid hh
          clear hh
          go_wp2_with (go_at_call 55; refine (qclose_yes b _ _ 93 93 _ hR (by decide) HH.out).mono ?_; rintro e w4 ⟨rfl, h4, g4⟩)
          go_ret
          exact QsEnd.yes HY.out rfl (hown.kept g4 (.inr (own_far hown hbw))) (RqL.to h4 (by rw [ext_list, HT.out, List.drop_one])) (hg.trans g4)
        · have HY := Lib.hid ((list_some (HO.out.trans HD.out)).trans (if_neg (by rw [← HT.out]; exact hh)))
          have HH := Lib.hid hh
          clear hh
          go_wp2_with (go_at_call 55; refine (qclose_no b _ _ 93 93 _ hR (by decide) HH.out).mono ?_; rintro e w4 ⟨rfl, h4, g4⟩)
          go_ret
          exact QsEnd.no HY.out rfl h4 (hg.trans g4)
    · have c1 := Rq.c1 hR
      have HE := Lib.hid hE
      have HY := Lib.hid (list_none (HO.out.trans hE))
      clear hS hE
      by_cases hk0 : 0 < k
      all_goals
        go_wp2
        go_ret
        exact QsEnd.no HY.out rfl hR hg

set_option maxHeartbeats 2000000 in
theorem qtexts (b : Nat) (s : ByteArray) (f : Bool) (w : World) (h : Rq w b s f) (hff : f = true → s.data.toList = []) (hs : s.size ≤ 1099511627776) :
    Calls Tryd.prog 35 #[.pointer (some ⟨b, 0, none⟩)] w (QsEnd 9 (fun l : List UInt8 => Value.string ⟨l.toArray⟩) b w (listP textP s.data.toList)) := by
  obtain ⟨i0, hi, hz0, hz1, hz2⟩ := info_parts infoString
  have hbw : b < w.heap.size := Blk.lt h
  have HFF := Lib.hid hff
  generalize ho : elemsO textP s.data.toList = o
  have HO := Lib.hid ho
  clear hff
  go_enter Tryd.func35, Tryd.ntmps35
  go_wp2_with fail
  refine (number_el textP _ h HFF.out hs).mono ?_
  rintro e w1 ⟨n0, rfl, hn0, g1, hSt1⟩
  rw [ho] at hSt1
  clear ho
  have hSt := Lib.hid hSt1
  have hw1 : w.heap.size ≤ w1.heap.size := g1.size
  clear hSt1
  go_wp2_with fail
  go_loopw [4, 5] (fun v i wr => ∃ (i0 k : Nat) (xs : List (List UInt8)), i0 + k = n0 ∧ i = .int .i64 (i0 : Int) ∧ wr.ownsRow w.heap.size 9 1 v xs.length (xs.map (fun l : List UInt8 => Value.string ⟨l.toArray⟩)) ∧ w.grownBy wr (some b) ∧ Hid (QlSt textP b 1099511627776 o k xs wr)) (fun _ i _ => n0 - (RowKit.intOf i).toNat)
  case atStart => exact ⟨0, n0, [], by omega, rfl, World.ownsRow_nil _ _ _ _, g1, hSt⟩
  case round =>
    obtain ⟨j0, k, xs, hk, rfl, hown, hg, hS⟩ := hrel
    rcases hS.out with ⟨r, hR, hL, hE⟩ | ⟨hR, hL, hE⟩
    · obtain ⟨t, ht, hR⟩ := hR.ex
      have c1 := hR.c1
      have hLt : xs.length + t.size ≤ 1099511627776 := by rw [Lib.size_eq, ht]; exact hL
      have HE := Lib.hid hE
      have HT := Lib.hid ht
      clear hS hE ht hL
      by_cases hk0 : 0 < k
      · obtain ⟨k', hk'⟩ : ∃ k', k = k' + 1 := ⟨k - 1, by omega⟩
        have HK := Lib.hid hk'
        clear hk'
        cases hp : textP t.data.toList with
        | none =>
          have HP := Lib.hid hp
          clear hp
          go_wp2_with fail
          refine (qtext_no hR (fun h => by cases h) (by omega) HP.out).mono ?_
          rintro e w4 ⟨rfl, hR4, hg4⟩
          have hown4 := hown.kept hg4 (.inr (own_far hown hbw))
          have hw4 : w.heap.size ≤ w4.heap.size := by have := hg.size; have := hg4.size; omega
          go_wp2_with (at_builtin; refine wpList_append_own _ rfl _ _ 23 rfl w.heap.size 9 i0 (.string ⟨#[]⟩) 1 16 Tryd.underlying23 hi hz0 hz1 hz2 rfl (by decide) _ _ _ rfl (hown4.alloc _) ⟨w4.heap.size, 0, none⟩ 1 1 [.string ⟨#[]⟩] rfl rfl ?c1 ?c2 ?c3 ?c4 ?c5 ?_)
          case c1 =>
            intro j u hj
            match j, hj with
            | 0, hj => simp at hj; subst hj; simp [Addr.add]
          case c2 => intro u hu; simp at hu; subst hu; rfl
          case c3 => unfold maxLen; omega
          case c4 => omega
          case c5 => simp; omega
          intro v' w5 hown5 hgrow _
          have hal : w4.grownBy (w4.alloc (.cells #[.string ⟨#[]⟩] 9)) (some b) := World.grownBy_alloc _ _ _
          have hR5 : RqL w5 b [] true := Rq.grown (Rq.grown (row := none) hR4 (World.grownBy_alloc _ _ _) (by simp)) hgrow (fun e => own_far hown4 hbw e.symm)
          have hg5 : w.grownBy w5 (some b) := grown_own ((hg.trans hg4).trans hal) hgrow (fun g e => (hown4.lt g e).1)
          go_wp2_with fail
          go_roundw
          case rel => exact ⟨j0 + 1, k', xs ++ [[]], by have := HK.out; omega, congrArg (Value.int .i64) (by omega), by simpa using hown5, hg5, .inr ⟨hR5, by simp; omega, elems_failO HE.out HK.out (by rw [← HT.out]; exact HP.out)⟩⟩
          case measure => have := HK.out; simp [RowKit.intOf]; omega
        | some q =>
          obtain ⟨x, r'⟩ := q
          have HP := Lib.hid hp
          have hlen := text_cons hp
          clear hp
          go_wp2_with fail
          refine (qtext_yes hR (fun h => by cases h) (by omega) HP.out).mono ?_
          rintro e w4 ⟨rfl, hR4, hg4⟩
          have hown4 := hown.kept hg4 (.inr (own_far hown hbw))
          have hw4 : w.heap.size ≤ w4.heap.size := by have := hg.size; have := hg4.size; omega
          go_wp2_with (at_builtin; refine wpList_append_own _ rfl _ _ 23 rfl w.heap.size 9 i0 (.string ⟨#[]⟩) 1 16 Tryd.underlying23 hi hz0 hz1 hz2 rfl (by decide) _ _ _ rfl (hown4.alloc _) ⟨w4.heap.size, 0, none⟩ 1 1 [.string ⟨x.toArray⟩] rfl rfl ?c1 ?c2 ?c3 ?c4 ?c5 ?_)
          case c1 =>
            intro j u hj
            match j, hj with
            | 0, hj => simp at hj; subst hj; simp [Addr.add]
          case c2 => intro u hu; simp at hu; subst hu; rfl
          case c3 => unfold maxLen; omega
          case c4 => omega
          case c5 => simp; omega
          intro v' w5 hown5 hgrow _
          have hal : w4.grownBy (w4.alloc (.cells #[.string ⟨x.toArray⟩] 9)) (some b) := World.grownBy_alloc _ _ _
          have hR5 : RqL w5 b r' false := Rq.grown (Rq.grown (row := none) hR4 (World.grownBy_alloc _ _ _) (by simp)) hgrow (fun e => own_far hown4 hbw e.symm)
          have hg5 : w.grownBy w5 (some b) := grown_own ((hg.trans hg4).trans hal) hgrow (fun g e => (hown4.lt g e).1)
          go_wp2_with fail
          go_roundw
          case rel => exact ⟨j0 + 1, k', xs ++ [x], by have := HK.out; omega, congrArg (Value.int .i64) (by omega), by simpa using hown5, hg5, .inl ⟨r', hR5, by simp; rw [len_eq] at hlen; omega, elems_stepO HE.out HK.out (by rw [← HT.out]; exact HP.out)⟩⟩
          case measure => have := HK.out; simp [RowKit.intOf]; omega
      · have HD := Lib.hid (elems_doneO HE.out (by omega : k = 0))
        by_cases hh : t.data.toList.head? = some 93
        · have HY := Lib.hid ((list_some (HO.out.trans HD.out)).trans (if_pos (by rw [← HT.out]; exact hh)))
          have HH := Lib.hid hh
          clear hh
          go_wp2_with (go_at_call 55; refine (qclose_yes b _ _ 93 93 _ hR (by decide) HH.out).mono ?_; rintro e w4 ⟨rfl, h4, g4⟩)
          go_ret
          exact QsEnd.yes HY.out rfl (hown.kept g4 (.inr (own_far hown hbw))) (RqL.to h4 (by rw [ext_list, HT.out, List.drop_one])) (hg.trans g4)
        · have HY := Lib.hid ((list_some (HO.out.trans HD.out)).trans (if_neg (by rw [← HT.out]; exact hh)))
          have HH := Lib.hid hh
          clear hh
          go_wp2_with (go_at_call 55; refine (qclose_no b _ _ 93 93 _ hR (by decide) HH.out).mono ?_; rintro e w4 ⟨rfl, h4, g4⟩)
          go_ret
          exact QsEnd.no HY.out rfl h4 (hg.trans g4)
    · have c1 := Rq.c1 hR
      have HE := Lib.hid hE
      have HY := Lib.hid (list_none (HO.out.trans hE))
      clear hS hE
      by_cases hk0 : 0 < k
      all_goals
        go_wp2
        go_ret
        exact QsEnd.no HY.out rfl hR hg

theorem qnums_no {b : Nat} {s : ByteArray} {f : Bool} {w : World} (h : Rq w b s f) (hff : f = true → s.data.toList = []) (hs : s.size ≤ 1099511627776) (ho : listP intP s.data.toList = none) :
    Calls Tryd.prog 32 #[.pointer (some ⟨b, 0, none⟩)] w fun e w' => e = .returned (.slice none 0 0) ∧ RqL w' b [] true ∧ w.grownBy w' (some b) :=
  (qnums b s f w h hff hs).mono fun e w' hd => by rw [ho] at hd; exact hd
theorem qnums_yes {b : Nat} {s : ByteArray} {f : Bool} {w : World} {xs : List Int} {r : List UInt8} (h : Rq w b s f) (hff : f = true → s.data.toList = []) (hs : s.size ≤ 1099511627776) (ho : listP intP s.data.toList = some (xs, r)) :
    Calls Tryd.prog 32 #[.pointer (some ⟨b, 0, none⟩)] w fun e w' => ∃ A c, e = .returned (.slice A xs.length c) ∧ Reads w' w'.heap.size 1 A xs.length (xs.map (Value.int .i64)) ∧ RqL w' b r false ∧ w.grownBy w' (some b) :=
  (qnums b s f w h hff hs).mono fun e w' hd => by
    rw [ho] at hd
    obtain ⟨v, he, hown, hr, hg⟩ := hd
    obtain ⟨A, c, rfl, hR⟩ := own_reads hown
    exact ⟨A, c, he, hR, hr, hg⟩
theorem qtexts_no {b : Nat} {s : ByteArray} {f : Bool} {w : World} (h : Rq w b s f) (hff : f = true → s.data.toList = []) (hs : s.size ≤ 1099511627776) (ho : listP textP s.data.toList = none) :
    Calls Tryd.prog 35 #[.pointer (some ⟨b, 0, none⟩)] w fun e w' => e = .returned (.slice none 0 0) ∧ RqL w' b [] true ∧ w.grownBy w' (some b) :=
  (qtexts b s f w h hff hs).mono fun e w' hd => by rw [ho] at hd; exact hd
theorem qtexts_yes {b : Nat} {s : ByteArray} {f : Bool} {w : World} {xs : List (List UInt8)} {r : List UInt8} (h : Rq w b s f) (hff : f = true → s.data.toList = []) (hs : s.size ≤ 1099511627776) (ho : listP textP s.data.toList = some (xs, r)) :
    Calls Tryd.prog 35 #[.pointer (some ⟨b, 0, none⟩)] w fun e w' => ∃ A c, e = .returned (.slice A xs.length c) ∧ Reads w' w'.heap.size 1 A xs.length ((xs.map fun l : List UInt8 => (⟨l.toArray⟩ : ByteArray)).map Value.string) ∧ RqL w' b r false ∧ w.grownBy w' (some b) :=
  (qtexts b s f w h hff hs).mono fun e w' hd => by
    rw [ho] at hd
    obtain ⟨v, he, hown, hr, hg⟩ := hd
    obtain ⟨A, c, rfl, hR⟩ := own_reads hown
    refine ⟨A, c, he, ?_, hr, hg⟩
    rw [List.map_map]
    exact hR
end Go.Proofs.YtkkaancpokahcaaDoor
