/- The walks of the reader's Nums and Texts: each reads exactly a list's encoding that stands ahead, into new memory. Condition: at most 2^40 bytes are left. -/
import Derived.Test.YtkkaancpokahcaaDoorPure2
namespace Go.Proofs.YtkkaancpokahcaaDoor
open Go.RowKit

theorem infoInt : (Tryd.prog.info? 3).map (fun i => (i.zero, i.size, i.bytes)) = some (some (.int .i64 0), 1, 8) := by kernel_rfl
theorem infoString : (Tryd.prog.info? 9).map (fun i => (i.zero, i.size, i.bytes)) = some (some (.string ⟨#[]⟩), 1, 16) := by kernel_rfl

/-- What the elements behind a list's length are. -/
def elemsO {α : Type} (p : List UInt8 → Option (α × List UInt8)) (l : List UInt8) : Option (List α × List UInt8) :=
  match digP 91 9223372036854775807 l with
  | none => none
  | some (n, r) => elemsP p n r
theorem list_none {α : Type} {p : List UInt8 → Option (α × List UInt8)} {l : List UInt8} (h : elemsO p l = none) : listP p l = none := by
  unfold elemsO at h
  unfold listP
  cases ho : digP 91 9223372036854775807 l with
  | none => rfl
  | some q =>
    obtain ⟨n, r⟩ := q
    simp only [ho] at h
    simp only [h]
theorem list_some {α : Type} {p : List UInt8 → Option (α × List UInt8)} {l r : List UInt8} {xs : List α} (h : elemsO p l = some (xs, r)) : listP p l = if r.head? = some 93 then some (xs, r.tail) else none := by
  unfold elemsO at h
  unfold listP
  cases ho : digP 91 9223372036854775807 l with
  | none => simp only [ho] at h; cases h
  | some q =>
    obtain ⟨n, t⟩ := q
    simp only [ho] at h
    simp only [h]

/-- The state of the loop: xs have been read, k are to come; or it has failed. -/
def ElSt {α : Type} (p : List UInt8 → Option (α × List UInt8)) (b L : Nat) (o : Option (List α × List UInt8)) (k : Nat) (xs : List α) (w : World) : Prop :=
  (∃ r, RdL w b r false ∧ xs.length + r.length ≤ L ∧ o = (elemsP p k r).map fun q => (xs ++ q.1, q.2)) ∨ (RdL w b [] true ∧ xs.length ≤ L + 1 ∧ o = none)

theorem digits_el {α : Type} (p : List UInt8 → Option (α × List UInt8)) {b : Nat} {s : ByteArray} {f : Bool} (w : World) (h : Rd w b s f) (hff : f = true → s.data.toList = []) (hs : s.size ≤ 1099511627776) :
    Calls Tryd.prog 48 #[.pointer (some ⟨b, 0, none⟩), .int .u8 91, .int .u64 9223372036854775807] w fun e w' => ∃ n : Nat, e = .returned (.int .i64 (n : Int)) ∧ n ≤ 9223372036854775807 ∧ w.grownBy w' (some b) ∧ ElSt p b 1099511627776 (elemsO p s.data.toList) n [] w' := by
  cases ho : digP 91 9223372036854775807 s.data.toList with
  | none =>
    refine (digits_no (c := 91) _ _ _ h hff rfl rfl (by omega) (by omega) (by omega) ho).mono ?_
    rintro e w' ⟨rfl, h1, g1⟩
    exact ⟨0, rfl, by omega, g1, .inr ⟨h1, by simp, by unfold elemsO; rw [ho]⟩⟩
  | some q =>
    obtain ⟨n, r⟩ := q
    refine (digits_yesS (c := 91) _ _ _ h hff (by decide) rfl rfl (by omega) (by omega) (by omega) ho).mono ?_
    rintro e w' ⟨rfl, h1, g1⟩
    obtain ⟨hn, hl⟩ := (digP_some (by decide)).1 ho
    refine ⟨n, rfl, hn, g1, .inl ⟨r, h1, ?_, ?_⟩⟩
    · have h2 := congrArg List.length hl
      rw [len_eq] at h2
      simp at h2
      simp
      omega
    · unfold elemsO
      simp only [ho]
      simp

theorem grown_own {w wr w' : World} {b : Nat} {row : Option Nat} (h : w.grownBy wr (some b)) (k : wr.grownBy w' row) (hr : ∀ g, row = some g → w.heap.size ≤ g) : w.grownBy w' (some b) :=
  ⟨k.os.trans h.os, k.tape.trans h.tape, k.output.trans h.output, Nat.le_trans h.size k.size, fun i hi hne => (k.block i (Nat.lt_of_lt_of_le hi h.size) (fun e => by have := hr i e.symm; omega)).trans (h.block i hi hne)⟩
theorem Rd.grown {w w' : World} {b : Nat} {s : ByteArray} {f : Bool} {row : Option Nat} (h : Rd w b s f) (hg : w.grownBy w' row) (hne : some b ≠ row) : Rd w' b s f := Blk.grown h hg hne
theorem own_far {w : World} {B b e n : Nat} {v : Value} {xs : List Value} (h : w.ownsRow B e 1 v n xs) (hb : b < B) : v.ownBlock ≠ some b := by
  intro hv
  have := (h.lt b hv).1
  omega

/-- How the reading of a list ends. -/
def LsEnd {α : Type} (E : TypeId) (V : α → Value) (b : Nat) (w : World) (o : Option (List α × List UInt8)) (e : Ending) (w' : World) : Prop :=
  match o with
  | some (xs, r) => ∃ v, e = .returned v ∧ w'.ownsRow w.heap.size E 1 v xs.length (xs.map V) ∧ RdL w' b r false ∧ w.grownBy w' (some b)
  | none => e = .returned (.slice none 0 0) ∧ RdL w' b [] true ∧ w.grownBy w' (some b)

theorem LsEnd.no {α : Type} {E : TypeId} {V : α → Value} {b : Nat} {w : World} {o : Option (List α × List UInt8)} {e : Ending} {w' : World} (ho : o = none) (he : e = .returned (.slice none 0 0)) (h : RdL w' b [] true) (hg : w.grownBy w' (some b)) : LsEnd E V b w o e w' := by
  subst ho
  exact ⟨he, h, hg⟩
theorem LsEnd.yes {α : Type} {E : TypeId} {V : α → Value} {b : Nat} {w : World} {o : Option (List α × List UInt8)} {e : Ending} {w' : World} {xs : List α} {r : List UInt8} {v : Value} (ho : o = some (xs, r)) (he : e = .returned v) (hown : w'.ownsRow w.heap.size E 1 v xs.length (xs.map V)) (h : RdL w' b r false) (hg : w.grownBy w' (some b)) : LsEnd E V b w o e w' := by
  subst ho
  exact ⟨v, he, hown, h, hg⟩
theorem LsEnd.ret {α : Type} {E : TypeId} {V : α → Value} {b : Nat} {w : World} {o : Option (List α × List UInt8)} {e : Ending} {w' : World} (h : LsEnd E V b w o e w') : ∃ v, e = .returned v ∧ True := by
  unfold LsEnd at h
  cases o with
  | none => exact ⟨_, h.1, trivial⟩
  | some q =>
    obtain ⟨v, hv, _⟩ := h
    exact ⟨v, hv, trivial⟩

theorem elems_failO {α : Type} {p : List UInt8 → Option (α × List UInt8)} {k k' : Nat} {r : List UInt8} {xs : List α} {o : Option (List α × List UInt8)}
    (h : o = (elemsP p k r).map fun q => (xs ++ q.1, q.2)) (hk : k = k' + 1) (hp : p r = none) : o = none := by
  subst hk
  rw [h, elemsP]
  simp only [hp]
  rfl
theorem elems_stepO {α : Type} {p : List UInt8 → Option (α × List UInt8)} {k k' : Nat} {r t : List UInt8} {xs : List α} {x : α} {o : Option (List α × List UInt8)}
    (h : o = (elemsP p k r).map fun q => (xs ++ q.1, q.2)) (hk : k = k' + 1) (hp : p r = some (x, t)) : o = (elemsP p k' t).map fun q => ((xs ++ [x]) ++ q.1, q.2) := by
  subst hk
  rw [h, elemsP]
  simp only [hp]
  cases he : elemsP p k' t with
  | none => rfl
  | some q => simp
theorem elems_doneO {α : Type} {p : List UInt8 → Option (α × List UInt8)} {k : Nat} {r : List UInt8} {xs : List α} {o : Option (List α × List UInt8)}
    (h : o = (elemsP p k r).map fun q => (xs ++ q.1, q.2)) (hk : k = 0) : o = some (xs, r) := by
  subst hk
  rw [h]
  simp [elemsP]
theorem int_cons {l r : List UInt8} {x : Int} (h : intP l = some (x, r)) : r.length < l.length := by
  obtain ⟨_, h2⟩ := (int_codec _ _ _).1 h
  rw [h2]
  unfold wInt
  simp
  omega
theorem text_cons {l r : List UInt8} {x : List UInt8} (h : textP l = some (x, r)) : r.length < l.length := by
  obtain ⟨_, h2⟩ := (text_codec _ _ _).1 h
  rw [h2]
  unfold wText
  simp
  omega

theorem int_yes {b : Nat} {s : ByteArray} {f : Bool} {x : Int} {r : List UInt8} {w : World} (h : Rd w b s f) (hff : f = true → s.data.toList = []) (hs : s.size ≤ 9223372036854775807) (ho : intP s.data.toList = some (x, r)) :
    Calls Tryd.prog 26 #[.pointer (some ⟨b, 0, none⟩)] w fun e w' => e = .returned (.int .i64 x) ∧ RdL w' b r false ∧ w.grownBy w' (some b) :=
  (int_any b s f w h hff hs).mono fun e w' hd => by rw [ho] at hd; exact hd
theorem int_no {b : Nat} {s : ByteArray} {f : Bool} {w : World} (h : Rd w b s f) (hff : f = true → s.data.toList = []) (hs : s.size ≤ 9223372036854775807) (ho : intP s.data.toList = none) :
    Calls Tryd.prog 26 #[.pointer (some ⟨b, 0, none⟩)] w fun e w' => e = .returned (.int .i64 0) ∧ RdL w' b [] true ∧ w.grownBy w' (some b) :=
  (int_any b s f w h hff hs).mono fun e w' hd => by rw [ho] at hd; exact hd

set_option maxHeartbeats 2000000 in
theorem elements_int (b : Nat) (s : ByteArray) (f : Bool) (w : World) (h : Rd w b s f) (hff : f = true → s.data.toList = []) (hs : s.size ≤ 1099511627776) :
    Calls Tryd.prog 56 #[.pointer (some ⟨b, 0, none⟩), .func (.func 26) #[.pointer (some ⟨b, 0, none⟩)] #[]] w (LsEnd 3 (Value.int .i64) b w (listP intP s.data.toList)) := by
  obtain ⟨i0, hi, hz0, hz1, hz2⟩ := info_parts infoInt
  have hbw : b < w.heap.size := Blk.lt h
  have HFF := Lib.hid hff
  generalize ho : elemsO intP s.data.toList = o
  have HO := Lib.hid ho
  clear hff
  go_enter Tryd.func56, Tryd.ntmps56
  go_wp2_with fail
  refine (digits_el intP _ h HFF.out hs).mono ?_
  rintro e w1 ⟨n0, rfl, hn0, g1, hSt1⟩
  rw [ho] at hSt1
  clear ho
  have hSt := Lib.hid hSt1
  have hw1 : w.heap.size ≤ w1.heap.size := g1.size
  clear hSt1
  go_wp2_with fail
  go_loopw [5, 6] (fun v i wr => ∃ (k : Nat) (xs : List Int), k ≤ 9223372036854775807 ∧ i = .int .i64 k ∧ wr.ownsRow w.heap.size 3 1 v xs.length (xs.map (Value.int .i64)) ∧ w.grownBy wr (some b) ∧ Hid (ElSt intP b 1099511627776 o k xs wr)) (fun _ i _ => (RowKit.intOf i).toNat)
  case atStart => exact ⟨n0, [], hn0, rfl, World.ownsRow_nil _ _ _ _, g1, hSt⟩
  case round =>
    obtain ⟨k, xs, hk, rfl, hown, hg, hS⟩ := hrel
    rcases hS.out with ⟨r, hR, hL, hE⟩ | ⟨hR, hL, hE⟩
    · obtain ⟨t, ht, hR⟩ := hR.ex
      have c1 := hR.c1
      have hLt : xs.length + t.size ≤ 1099511627776 := by rw [Lib.size_eq, ht]; exact hL
      have HE := Lib.hid hE
      have HT := Lib.hid ht
      clear hS hE ht hL
      by_cases hk0 : 0 < k
      · obtain ⟨k', hk'⟩ : ∃ k', k = k' + 1 := ⟨k - 1, by omega⟩
        have HK := Lib.hid hk'
        clear hk'
        cases hp : intP t.data.toList with
        | none =>
          have HP := Lib.hid hp
          clear hp
          go_wp2_with fail
          refine (int_no hR (fun h => by cases h) (by omega) HP.out).mono ?_
          rintro e w4 ⟨rfl, hR4, hg4⟩
          have hown4 := hown.kept hg4 (.inr (own_far hown hbw))
          have hw4 : w.heap.size ≤ w4.heap.size := by have := hg.size; have := hg4.size; omega
          go_wp2_with (at_builtin; refine wpList_append_own _ rfl _ _ 22 rfl w.heap.size 3 i0 (.int .i64 0) 1 8 Tryd.underlying22 hi hz0 hz1 hz2 rfl (by decide) _ _ _ rfl (hown4.alloc _) ⟨w4.heap.size, 0, none⟩ 1 1 [.int .i64 0] rfl rfl ?c1 ?c2 ?c3 ?c4 ?c5 ?_)
          case c1 =>
            intro j u hj
            match j, hj with
            | 0, hj => simp at hj; subst hj; simp [Addr.add]
          case c2 => intro u hu; simp at hu; subst hu; rfl
          case c3 => unfold maxLen; omega
          case c4 => omega
          case c5 => simp; omega
          intro v' w5 hown5 hgrow _
          have hal : w4.grownBy (w4.alloc (.cells #[.int .i64 0] 3)) (some b) := World.grownBy_alloc _ _ _
          have hR5 : RdL w5 b [] true := Rd.grown (Rd.grown (row := none) hR4 (World.grownBy_alloc _ _ _) (by simp)) hgrow (fun e => own_far hown4 hbw e.symm)
          have hg5 : w.grownBy w5 (some b) := grown_own ((hg.trans hg4).trans hal) hgrow (fun g e => (hown4.lt g e).1)
          go_wp2_with fail
          go_roundw
          case rel => exact ⟨k', xs ++ [0], by have := HK.out; omega, congrArg (Value.int .i64) (by have := HK.out; omega), by simpa using hown5, hg5, .inr ⟨hR5, by simp; omega, elems_failO HE.out HK.out (by rw [← HT.out]; exact HP.out)⟩⟩
          case measure => simp [RowKit.intOf]; omega
        | some q =>
          obtain ⟨x, r'⟩ := q
          have HP := Lib.hid hp
          have hlen := int_cons hp
          clear hp
          go_wp2_with fail
          refine (int_yes hR (fun h => by cases h) (by omega) HP.out).mono ?_
          rintro e w4 ⟨rfl, hR4, hg4⟩
          have hown4 := hown.kept hg4 (.inr (own_far hown hbw))
          have hw4 : w.heap.size ≤ w4.heap.size := by have := hg.size; have := hg4.size; omega
          go_wp2_with (at_builtin; refine wpList_append_own _ rfl _ _ 22 rfl w.heap.size 3 i0 (.int .i64 0) 1 8 Tryd.underlying22 hi hz0 hz1 hz2 rfl (by decide) _ _ _ rfl (hown4.alloc _) ⟨w4.heap.size, 0, none⟩ 1 1 [.int .i64 x] rfl rfl ?c1 ?c2 ?c3 ?c4 ?c5 ?_)
          case c1 =>
            intro j u hj
            match j, hj with
            | 0, hj => simp at hj; subst hj; simp [Addr.add]
          case c2 => intro u hu; simp at hu; subst hu; rfl
          case c3 => unfold maxLen; omega
          case c4 => omega
          case c5 => simp; omega
          intro v' w5 hown5 hgrow _
          have hal : w4.grownBy (w4.alloc (.cells #[.int .i64 x] 3)) (some b) := World.grownBy_alloc _ _ _
          have hR5 : RdL w5 b r' false := Rd.grown (Rd.grown (row := none) hR4 (World.grownBy_alloc _ _ _) (by simp)) hgrow (fun e => own_far hown4 hbw e.symm)
          have hg5 : w.grownBy w5 (some b) := grown_own ((hg.trans hg4).trans hal) hgrow (fun g e => (hown4.lt g e).1)
          go_wp2_with fail
          go_roundw
          case rel => exact ⟨k', xs ++ [x], by have := HK.out; omega, congrArg (Value.int .i64) (by have := HK.out; omega), by simpa using hown5, hg5, .inl ⟨r', hR5, by simp; rw [len_eq] at hlen; omega, elems_stepO HE.out HK.out (by rw [← HT.out]; exact HP.out)⟩⟩
          case measure => simp [RowKit.intOf]; omega
      · have HD := Lib.hid (elems_doneO HE.out (by omega : k = 0))
        by_cases hh : t.data.toList.head? = some 93
        · have HY := Lib.hid ((list_some (HO.out.trans HD.out)).trans (if_pos (by rw [← HT.out]; exact hh)))
          have HH := Lib.hid hh
          clear hh
          go_wp2_with (go_at_call 53; refine (mark_yes b _ _ 93 _ hR HH.out).mono ?_; rintro e w4 ⟨rfl, h4, g4⟩; have c41 := h4.c1)
          go_ret
          exact LsEnd.yes HY.out rfl (hown.kept g4 (.inr (own_far hown hbw))) (RdL.to h4 (by rw [ext_list, HT.out, List.drop_one])) (hg.trans g4)
        · have HY := Lib.hid ((list_some (HO.out.trans HD.out)).trans (if_neg (by rw [← HT.out]; exact hh)))
          have HH := Lib.hid hh
          clear hh
          go_wp2_with (go_at_call 53; refine (mark_no b _ _ 93 _ hR HH.out).mono ?_; rintro e w4 ⟨rfl, h4, g4⟩; have c41 := h4.c1)
          go_ret
          exact LsEnd.no HY.out rfl h4 (hg.trans g4)
    · have c1 := Rd.c1 hR
      have HE := Lib.hid hE
      have HY := Lib.hid (list_none (HO.out.trans hE))
      clear hS hE
      by_cases hk0 : 0 < k
      all_goals
        go_wp2_with (go_at_call 53; refine (mark_no b _ _ 93 _ hR (by simp)).mono ?_; rintro e w4 ⟨rfl, h4, g4⟩; have c41 := h4.c1)
        go_ret
        exact LsEnd.no HY.out rfl h4 (hg.trans g4)

set_option maxHeartbeats 400000 in
theorem nums_rd_any (b : Nat) (s : ByteArray) (f : Bool) (w : World) (h : Rd w b s f) (hff : f = true → s.data.toList = []) (hs : s.size ≤ 1099511627776) :
    Calls Tryd.prog 31 #[.pointer (some ⟨b, 0, none⟩)] w (LsEnd 3 (Value.int .i64) b w (listP intP s.data.toList)) := by
  have hmf : ∀ (fn : Fn) (first cap : Array Value) (w : World), (Instr.makeFunc fn first cap).run Tryd.prog w = .ok (.func fn first cap) w := fun _ _ _ _ => rfl
  go_enter Tryd.func31, Tryd.ntmps31
  go_wp2_with fail
  refine (elements_int b s f w h hff hs).mono ?_
  intro e w1 hE
  obtain ⟨v, rfl, hv⟩ := LsEnd.ret hE
  go_wp2
  go_ret
  exact hE

theorem text_yes {b : Nat} {s : ByteArray} {f : Bool} {x : (List UInt8)} {r : List UInt8} {w : World} (h : Rd w b s f) (hff : f = true → s.data.toList = []) (hs : s.size ≤ 9223372036854775807) (ho : textP s.data.toList = some (x, r)) :
    Calls Tryd.prog 28 #[.pointer (some ⟨b, 0, none⟩)] w fun e w' => e = .returned (.string ⟨x.toArray⟩) ∧ RdL w' b r false ∧ w.grownBy w' (some b) :=
  (text_any b s f w h hff hs).mono fun e w' hd => by rw [ho] at hd; exact hd
theorem text_no {b : Nat} {s : ByteArray} {f : Bool} {w : World} (h : Rd w b s f) (hff : f = true → s.data.toList = []) (hs : s.size ≤ 9223372036854775807) (ho : textP s.data.toList = none) :
    Calls Tryd.prog 28 #[.pointer (some ⟨b, 0, none⟩)] w fun e w' => e = .returned (.string ⟨#[]⟩) ∧ RdL w' b [] true ∧ w.grownBy w' (some b) :=
  (text_any b s f w h hff hs).mono fun e w' hd => by rw [ho] at hd; exact hd

set_option maxHeartbeats 2000000 in
theorem elements_text (b : Nat) (s : ByteArray) (f : Bool) (w : World) (h : Rd w b s f) (hff : f = true → s.data.toList = []) (hs : s.size ≤ 1099511627776) :
    Calls Tryd.prog 57 #[.pointer (some ⟨b, 0, none⟩), .func (.func 28) #[.pointer (some ⟨b, 0, none⟩)] #[]] w (LsEnd 9 (fun l : List UInt8 => Value.string ⟨l.toArray⟩) b w (listP textP s.data.toList)) := by
  obtain ⟨i0, hi, hz0, hz1, hz2⟩ := info_parts infoString
  have hbw : b < w.heap.size := Blk.lt h
  have HFF := Lib.hid hff
  generalize ho : elemsO textP s.data.toList = o
  have HO := Lib.hid ho
  clear hff
  go_enter Tryd.func57, Tryd.ntmps57
  go_wp2_with fail
  refine (digits_el textP _ h HFF.out hs).mono ?_
  rintro e w1 ⟨n0, rfl, hn0, g1, hSt1⟩
  rw [ho] at hSt1
  clear ho
  have hSt := Lib.hid hSt1
  have hw1 : w.heap.size ≤ w1.heap.size := g1.size
  clear hSt1
  go_wp2_with fail
  go_loopw [5, 6] (fun v i wr => ∃ (k : Nat) (xs : List (List UInt8)), k ≤ 9223372036854775807 ∧ i = .int .i64 k ∧ wr.ownsRow w.heap.size 9 1 v xs.length (xs.map (fun l : List UInt8 => Value.string ⟨l.toArray⟩)) ∧ w.grownBy wr (some b) ∧ Hid (ElSt textP b 1099511627776 o k xs wr)) (fun _ i _ => (RowKit.intOf i).toNat)
  case atStart => exact ⟨n0, [], hn0, rfl, World.ownsRow_nil _ _ _ _, g1, hSt⟩
  case round =>
    obtain ⟨k, xs, hk, rfl, hown, hg, hS⟩ := hrel
    rcases hS.out with ⟨r, hR, hL, hE⟩ | ⟨hR, hL, hE⟩
    · obtain ⟨t, ht, hR⟩ := hR.ex
      have c1 := hR.c1
      have hLt : xs.length + t.size ≤ 1099511627776 := by rw [Lib.size_eq, ht]; exact hL
      have HE := Lib.hid hE
      have HT := Lib.hid ht
      clear hS hE ht hL
      by_cases hk0 : 0 < k
      · obtain ⟨k', hk'⟩ : ∃ k', k = k' + 1 := ⟨k - 1, by omega⟩
        have HK := Lib.hid hk'
        clear hk'
        cases hp : textP t.data.toList with
        | none =>
          have HP := Lib.hid hp
          clear hp
          go_wp2_with fail
          refine (text_no hR (fun h => by cases h) (by omega) HP.out).mono ?_
          rintro e w4 ⟨rfl, hR4, hg4⟩
          have hown4 := hown.kept hg4 (.inr (own_far hown hbw))
          have hw4 : w.heap.size ≤ w4.heap.size := by have := hg.size; have := hg4.size; omega
          go_wp2_with (at_builtin; refine wpList_append_own _ rfl _ _ 23 rfl w.heap.size 9 i0 (.string ⟨#[]⟩) 1 16 Tryd.underlying23 hi hz0 hz1 hz2 rfl (by decide) _ _ _ rfl (hown4.alloc _) ⟨w4.heap.size, 0, none⟩ 1 1 [.string ⟨#[]⟩] rfl rfl ?c1 ?c2 ?c3 ?c4 ?c5 ?_)
          case c1 =>
            intro j u hj
            match j, hj with
            | 0, hj => simp at hj; subst hj; simp [Addr.add]
          case c2 => intro u hu; simp at hu; subst hu; rfl
          case c3 => unfold maxLen; omega
          case c4 => omega
          case c5 => simp; omega
          intro v' w5 hown5 hgrow _
          have hal : w4.grownBy (w4.alloc (.cells #[.string ⟨#[]⟩] 9)) (some b) := World.grownBy_alloc _ _ _
          have hR5 : RdL w5 b [] true := Rd.grown (Rd.grown (row := none) hR4 (World.grownBy_alloc _ _ _) (by simp)) hgrow (fun e => own_far hown4 hbw e.symm)
          have hg5 : w.grownBy w5 (some b) := grown_own ((hg.trans hg4).trans hal) hgrow (fun g e => (hown4.lt g e).1)
          go_wp2_with fail
          go_roundw
          case rel => exact ⟨k', xs ++ [[]], by have := HK.out; omega, congrArg (Value.int .i64) (by have := HK.out; omega), by simpa using hown5, hg5, .inr ⟨hR5, by simp; omega, elems_failO HE.out HK.out (by rw [← HT.out]; exact HP.out)⟩⟩
          case measure => simp [RowKit.intOf]; omega
        | some q =>
          obtain ⟨x, r'⟩ := q
          have HP := Lib.hid hp
          have hlen := text_cons hp
          clear hp
          go_wp2_with fail
          refine (text_yes hR (fun h => by cases h) (by omega) HP.out).mono ?_
          rintro e w4 ⟨rfl, hR4, hg4⟩
          have hown4 := hown.kept hg4 (.inr (own_far hown hbw))
          have hw4 : w.heap.size ≤ w4.heap.size := by have := hg.size; have := hg4.size; omega
          go_wp2_with (at_builtin; refine wpList_append_own _ rfl _ _ 23 rfl w.heap.size 9 i0 (.string ⟨#[]⟩) 1 16 Tryd.underlying23 hi hz0 hz1 hz2 rfl (by decide) _ _ _ rfl (hown4.alloc _) ⟨w4.heap.size, 0, none⟩ 1 1 [.string ⟨x.toArray⟩] rfl rfl ?c1 ?c2 ?c3 ?c4 ?c5 ?_)
          case c1 =>
            intro j u hj
            match j, hj with
            | 0, hj => simp at hj; subst hj; simp [Addr.add]
          case c2 => intro u hu; simp at hu; subst hu; rfl
          case c3 => unfold maxLen; omega
          case c4 => omega
          case c5 => simp; omega
          intro v' w5 hown5 hgrow _
          have hal : w4.grownBy (w4.alloc (.cells #[.string ⟨x.toArray⟩] 9)) (some b) := World.grownBy_alloc _ _ _
          have hR5 : RdL w5 b r' false := Rd.grown (Rd.grown (row := none) hR4 (World.grownBy_alloc _ _ _) (by simp)) hgrow (fun e => own_far hown4 hbw e.symm)
          have hg5 : w.grownBy w5 (some b) := grown_own ((hg.trans hg4).trans hal) hgrow (fun g e => (hown4.lt g e).1)
          go_wp2_with fail
          go_roundw
          case rel => exact ⟨k', xs ++ [x], by have := HK.out; omega, congrArg (Value.int .i64) (by have := HK.out; omega), by simpa using hown5, hg5, .inl ⟨r', hR5, by simp; rw [len_eq] at hlen; omega, elems_stepO HE.out HK.out (by rw [← HT.out]; exact HP.out)⟩⟩
          case measure => simp [RowKit.intOf]; omega
      · have HD := Lib.hid (elems_doneO HE.out (by omega : k = 0))
        by_cases hh : t.data.toList.head? = some 93
        · have HY := Lib.hid ((list_some (HO.out.trans HD.out)).trans (if_pos (by rw [← HT.out]; exact hh)))
          have HH := Lib.hid hh
          clear hh
          go_wp2_with (go_at_call 53; refine (mark_yes b _ _ 93 _ hR HH.out).mono ?_; rintro e w4 ⟨rfl, h4, g4⟩; have c41 := h4.c1)
          go_ret
          exact LsEnd.yes HY.out rfl (hown.kept g4 (.inr (own_far hown hbw))) (RdL.to h4 (by rw [ext_list, HT.out, List.drop_one])) (hg.trans g4)
        · have HY := Lib.hid ((list_some (HO.out.trans HD.out)).trans (if_neg (by rw [← HT.out]; exact hh)))
          have HH := Lib.hid hh
          clear hh
          go_wp2_with (go_at_call 53; refine (mark_no b _ _ 93 _ hR HH.out).mono ?_; rintro e w4 ⟨rfl, h4, g4⟩; have c41 := h4.c1)
          go_ret
          exact LsEnd.no HY.out rfl h4 (hg.trans g4)
    · have c1 := Rd.c1 hR
      have HE := Lib.hid hE
      have HY := Lib.hid (list_none (HO.out.trans hE))
      clear hS hE
      by_cases hk0 : 0 < k
      all_goals
        go_wp2_with (go_at_call 53; refine (mark_no b _ _ 93 _ hR (by simp)).mono ?_; rintro e w4 ⟨rfl, h4, g4⟩; have c41 := h4.c1)
        go_ret
        exact LsEnd.no HY.out rfl h4 (hg.trans g4)

set_option maxHeartbeats 400000 in
theorem texts_rd_any (b : Nat) (s : ByteArray) (f : Bool) (w : World) (h : Rd w b s f) (hff : f = true → s.data.toList = []) (hs : s.size ≤ 1099511627776) :
    Calls Tryd.prog 34 #[.pointer (some ⟨b, 0, none⟩)] w (LsEnd 9 (fun l : List UInt8 => Value.string ⟨l.toArray⟩) b w (listP textP s.data.toList)) := by
  have hmf : ∀ (fn : Fn) (first cap : Array Value) (w : World), (Instr.makeFunc fn first cap).run Tryd.prog w = .ok (.func fn first cap) w := fun _ _ _ _ => rfl
  go_enter Tryd.func34, Tryd.ntmps34
  go_wp2_with fail
  refine (elements_text b s f w h hff hs).mono ?_
  intro e w1 hE
  obtain ⟨v, rfl, hv⟩ := LsEnd.ret hE
  go_wp2
  go_ret
  exact hE

/-- What a list's reading gives a caller: a slice of some address that reads as the list. -/
theorem own_reads {w : World} {B e n : Nat} {v : Value} {xs : List Value} (h : w.ownsRow B e 1 v n xs) : ∃ A c, v = .slice A n c ∧ Reads w w.heap.size 1 A n xs := by
  obtain ⟨A, c, rfl⟩ : ∃ A c, v = .slice A n c := by
    rcases h.2 with ⟨hv, h0⟩ | ⟨g, cap, cur, hv, _⟩
    · exact ⟨none, 0, by rw [hv, h0]⟩
    · exact ⟨_, _, hv⟩
  exact ⟨A, c, rfl, Reads.of_own h⟩
theorem nums_rd_no {b : Nat} {s : ByteArray} {f : Bool} {w : World} (h : Rd w b s f) (hff : f = true → s.data.toList = []) (hs : s.size ≤ 1099511627776) (ho : listP intP s.data.toList = none) :
    Calls Tryd.prog 31 #[.pointer (some ⟨b, 0, none⟩)] w fun e w' => e = .returned (.slice none 0 0) ∧ RdL w' b [] true ∧ w.grownBy w' (some b) :=
  (nums_rd_any b s f w h hff hs).mono fun e w' hd => by rw [ho] at hd; exact hd
theorem nums_rd_yes {b : Nat} {s : ByteArray} {f : Bool} {w : World} {xs : List Int} {r : List UInt8} (h : Rd w b s f) (hff : f = true → s.data.toList = []) (hs : s.size ≤ 1099511627776) (ho : listP intP s.data.toList = some (xs, r)) :
    Calls Tryd.prog 31 #[.pointer (some ⟨b, 0, none⟩)] w fun e w' => ∃ A c, e = .returned (.slice A xs.length c) ∧ Reads w' w'.heap.size 1 A xs.length (xs.map (Value.int .i64)) ∧ RdL w' b r false ∧ w.grownBy w' (some b) :=
  (nums_rd_any b s f w h hff hs).mono fun e w' hd => by
    rw [ho] at hd
    obtain ⟨v, he, hown, hr, hg⟩ := hd
    obtain ⟨A, c, rfl, hR⟩ := own_reads hown
    exact ⟨A, c, he, hR, hr, hg⟩
theorem texts_rd_no {b : Nat} {s : ByteArray} {f : Bool} {w : World} (h : Rd w b s f) (hff : f = true → s.data.toList = []) (hs : s.size ≤ 1099511627776) (ho : listP textP s.data.toList = none) :
    Calls Tryd.prog 34 #[.pointer (some ⟨b, 0, none⟩)] w fun e w' => e = .returned (.slice none 0 0) ∧ RdL w' b [] true ∧ w.grownBy w' (some b) :=
  (texts_rd_any b s f w h hff hs).mono fun e w' hd => by rw [ho] at hd; exact hd
theorem texts_rd_yes {b : Nat} {s : ByteArray} {f : Bool} {w : World} {xs : List (List UInt8)} {r : List UInt8} (h : Rd w b s f) (hff : f = true → s.data.toList = []) (hs : s.size ≤ 1099511627776) (ho : listP textP s.data.toList = some (xs, r)) :
    Calls Tryd.prog 34 #[.pointer (some ⟨b, 0, none⟩)] w fun e w' => ∃ A c, e = .returned (.slice A xs.length c) ∧ Reads w' w'.heap.size 1 A xs.length ((xs.map fun l : List UInt8 => (⟨l.toArray⟩ : ByteArray)).map Value.string) ∧ RdL w' b r false ∧ w.grownBy w' (some b) :=
  (texts_rd_any b s f w h hff hs).mono fun e w' hd => by
    rw [ho] at hd
    obtain ⟨v, he, hown, hr, hg⟩ := hd
    obtain ⟨A, c, rfl, hR⟩ := own_reads hown
    refine ⟨A, c, he, ?_, hr, hg⟩
    rw [List.map_map]
    exact hR
theorem texts_enc (xs : List (List UInt8)) : wList wTextB (xs.map fun l : List UInt8 => (⟨l.toArray⟩ : ByteArray)) = wList wText xs := by
  unfold wList
  rw [List.length_map, List.flatMap_map]
  congr 3
theorem enc_mem {α : Type} {f : α → List UInt8} {l : List α} {x : α} (h : x ∈ l) : (f x).length ≤ (wList f l).length := by
  unfold wList
  have h1 : (f x).length ≤ (l.flatMap f).length := by
    obtain ⟨a, b, rfl⟩ := List.append_of_mem h
    simp
    omega
  simp only [List.length_append, List.length_cons]
  omega

end Go.Proofs.YtkkaancpokahcaaDoor
