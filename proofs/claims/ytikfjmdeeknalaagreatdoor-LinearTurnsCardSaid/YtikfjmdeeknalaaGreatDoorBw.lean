/- Words for blocks of digits in memory, and the arithmetic of Go's operations on bits as the walks spell it. Conditions: as each theorem states them. -/
import Derived.Test.YtikfjmdeeknalaaGreatDoorRows
import Derived.Test.YtikfjmdeeknalaaGreatDoorMem
import Derived.Test.YtikfjmdeeknalaaGreatDoorBm
import Derived.WalkKit
import Derived.LoopTactic
import Derived.WalkSpells
import Derived.WalkLawsBesides
import Derived.IntWalk
import Derived.Laws.BitsLemmas
import Derived.Laws.MakeOwn
import Derived.Deep.OwnRows
import Derived.Deep.QuietTactic
import Derived.BigQuiet
import Derived.Deep.RegionHeld3
namespace Go.Proofs.YtikfjmdeeknalaaGreatDoor
set_option maxRecDepth 8000
open Go.RowKit

/-- Only the order of evaluation has been drawn. -/
def Drew (w w' : World) : Prop := ∃ d, w' = w.drewN d
theorem Drew.refl (w : World) : Drew w w := ⟨0, rfl⟩
theorem Drew.below {w w' : World} (h : Drew w w') : Below w.heap.size w w' := by
  obtain ⟨d, rfl⟩ := h
  exact ⟨rfl, rfl, rfl, Nat.le_refl _, fun _ _ => rfl⟩
theorem Drew.more {w w' : World} {n : Nat} (h : Drew w w') : Drew w (w'.drewN n) := by
  obtain ⟨d, rfl⟩ := h
  exact ⟨_, World.drewN_drewN _ _ _⟩

/-- Numbers as values. -/
def iv (l : List Int) : List Value := l.map fun d => Value.int .i64 d
/-- Digits as values. -/
def dv (l : List Nat) : List Value := l.map fun (d : Nat) => Value.int .i64 (d : Int)
theorem dv_len (l : List Nat) : (dv l).length = l.length := by simp [dv]
theorem dv_at {l : List Nat} {i d : Nat} (h : l[i]? = some d) : (dv l)[i]? = some (.int .i64 (d : Int)) := by simp [dv, h]
theorem dv_take (l : List Nat) (k : Nat) : (dv l).take k = dv (l.take k) := by simp [dv]
theorem dv_one (l : List Nat) : ∀ u ∈ dv l, u.oneCell' = true := fun u hu => by
  obtain ⟨d, -, rfl⟩ := List.mem_map.1 hu
  rfl
theorem dv_iv (l : List Nat) : dv l = iv (l.map fun (d : Nat) => (d : Int)) := by simp [dv, iv]
theorem iv_len (l : List Int) : (iv l).length = l.length := by simp [iv]
theorem iv_at {l : List Int} {i : Nat} {d : Int} (h : l[i]? = some d) : (iv l)[i]? = some (.int .i64 d) := by simp [iv, h]
theorem Reads.lenD {w : World} {B n : Nat} {A : Option Addr} {l : List Nat} (h : Reads w B 1 A n (dv l)) : l.length = n := by have := h.1; rw [dv_len] at this; omega
theorem Reads.lenI {w : World} {B n : Nat} {A : Option Addr} {l : List Int} (h : Reads w B 1 A n (iv l)) : l.length = n := by have := h.1; rw [iv_len] at this; omega
theorem Reads.atD {w : World} {B n i : Nat} {A : Option Addr} {l : List Nat} (h : Reads w B 1 A n (dv l)) (hi : i < n) : ∃ ad d, A = some ad ∧ l[i]? = some d ∧ w.cell? (ad.add i) = some (.int .i64 (d : Int)) := by
  obtain ⟨ad, u, e1, -, e3, e4⟩ := h.at_ hi
  obtain ⟨d, hd⟩ : ∃ d, l[i]? = some d := ⟨_, List.getElem?_eq_getElem (by rw [h.lenD]; exact hi)⟩
  rw [dv_at hd] at e3
  exact ⟨ad, d, e1, hd, e4.trans e3.symm⟩
theorem Reads.atI {w : World} {B n i : Nat} {A : Option Addr} {l : List Int} (h : Reads w B 1 A n (iv l)) (hi : i < n) : ∃ ad d, A = some ad ∧ l[i]? = some d ∧ w.cell? (ad.add i) = some (.int .i64 d) := by
  obtain ⟨ad, u, e1, -, e3, e4⟩ := h.at_ hi
  obtain ⟨d, hd⟩ : ∃ d, l[i]? = some d := ⟨_, List.getElem?_eq_getElem (by rw [h.lenI]; exact hi)⟩
  rw [iv_at hd] at e3
  exact ⟨ad, d, e1, hd, e4.trans e3.symm⟩

/-- A block of the call's own that begins with digits. -/
def Dig (w : World) (g : Nat) (L : List Nat) : Prop := ∃ cur : Array Value, w.heap[g]? = some (.cells cur 3 (0, 0)) ∧ L.length ≤ cur.size ∧ ∀ (i d : Nat), L[i]? = some d → cur[i]? = some (Value.int .i64 (d : Int))
section
variable {w w' : World} {g : Nat} {L : List Nat}
theorem Dig.lt (h : Dig w g L) : g < w.heap.size := by
  obtain ⟨cur, h1, -, -⟩ := h
  exact (Array.getElem?_eq_some_iff.1 h1).1
theorem Dig.cell (h : Dig w g L) {i d : Nat} (e : L[i]? = some d) : w.cell? ⟨g, i, none⟩ = some (Value.int .i64 (d : Int)) := by
  obtain ⟨cur, h1, h2, h3⟩ := h
  simp [World.cell?, h1, h3 i d e]
theorem Dig.frozen (h : Dig w g L) (i : Nat) : w.frozen? ⟨g, i, none⟩ = false := by
  obtain ⟨cur, h1, -, -⟩ := h
  simp [World.frozen?, h1]
theorem Dig.set (h : Dig w g L) (i v : Nat) : Dig (w.setCell ⟨g, i, none⟩ (Value.int .i64 (v : Int))) g (L.set i v) := by
  obtain ⟨cur, h1, h2, h3⟩ := h
  refine ⟨cur.setIfInBounds i (.int .i64 (v : Int)), by simp [World.setCell, Array.getElem?_modify, h1], by simpa using h2, fun j d hj => ?_⟩
  rw [Array.getElem?_setIfInBounds]
  by_cases e : i = j
  · subst e
    have hi : i < L.length := by
      have := (List.getElem?_eq_some_iff.1 hj).1
      simpa using this
    rw [List.getElem?_set_self hi] at hj
    cases hj
    rw [if_pos rfl, if_pos (by omega)]
  · rw [List.getElem?_set_ne e] at hj
    rw [if_neg e]
    exact h3 j d hj
theorem Dig.setI (h : Dig w g L) (i : Nat) {v : Int} (hv : 0 ≤ v) : Dig (w.setCell ⟨g, i, none⟩ (Value.int .i64 v)) g (L.set i v.toNat) := by
  obtain ⟨n, rfl⟩ := Int.eq_ofNat_of_zero_le hv
  exact h.set i n
theorem Dig.keep (h : Dig w g L) (e : w'.heap[g]? = w.heap[g]?) : Dig w' g L := by
  obtain ⟨cur, h1, h2, h3⟩ := h
  exact ⟨cur, e.trans h1, h2, h3⟩
theorem Dig.below {B : Nat} (h : Dig w g L) (hb : Below B w w') (hg : g < B) : Dig w' g L := h.keep (hb.block g hg)
theorem Dig.past (h : Dig w g L) (hb : Below w.heap.size w w') : Dig w' g L := h.below hb h.lt
theorem Dig.grown {row : Option Nat} (h : Dig w g L) (hb : w.grownBy w' row) (hne : row ≠ some g) : Dig w' g L := h.keep (hb.block g h.lt (fun e => hne e.symm))
theorem Dig.alloc (h : Dig w g L) (o : Obj) : Dig (w.alloc o) g L := h.keep (Below.heap_alloc w o g h.lt)
theorem Dig.drewN (h : Dig w g L) (n : Nat) : Dig (w.drewN n) g L := h
theorem Dig.drew (h : Dig w g L) : Dig w.drew g L := h
theorem Dig.other (h : Dig w g L) {p : Addr} (hp : g ≠ p.block) (v : Value) : Dig (w.setCell p v) g L := h.keep (Below.heap_setCell w p v g hp)
theorem Dig.take (h : Dig w g L) (k : Nat) : Dig w g (L.take k) := by
  obtain ⟨cur, h1, h2, h3⟩ := h
  refine ⟨cur, h1, by rw [List.length_take]; omega, fun i d hi => h3 i d ?_⟩
  rw [List.getElem?_take] at hi
  split at hi
  · exact hi
  · cases hi
theorem Dig.reads (h : Dig w g L) {n : Nat} (hn : L.length = n) {B : Nat} (hB : g < B) : Reads w B 1 (some ⟨g, 0, none⟩) n (dv L) := by
  refine ⟨by rw [dv_len]; omega, fun _ => ⟨_, rfl, hB, fun j u hj => ?_⟩⟩
  obtain ⟨d, hd, rfl⟩ : ∃ d, L[j]? = some d ∧ u = Value.int .i64 (d : Int) := by
    unfold dv at hj
    rw [List.getElem?_map] at hj
    cases hL : L[j]? with
    | none => rw [hL] at hj; cases hj
    | some d => rw [hL] at hj; cases hj; exact ⟨d, rfl, rfl⟩
  have : (Addr.add ⟨g, 0, none⟩ j) = ⟨g, j, none⟩ := by
    unfold Addr.add
    split
    · simp_all
    · simp
  rw [this]
  exact h.cell hd
theorem Dig.made (w : World) (n : Nat) : Dig (w.alloc (.cells (madeCells #[.int .i64 0] n) 3)) w.heap.size (List.replicate n 0) := by
  refine ⟨_, heap_alloc_new w _, by simp [size_madeCells], fun i d hi => ?_⟩
  have h1 := (List.getElem?_eq_some_iff.1 hi).1
  have h2 := List.eq_of_mem_replicate (List.mem_of_getElem? hi)
  subst h2
  have : i < n := by simpa using h1
  simp [madeCells, this, Nat.mod_one]
/-- A row of digits of the call's own. -/
theorem Dig.of_row {base n c : Nat} {A : Option Addr} (h : w.ownsRow base 3 1 (.slice A n c) n (dv L)) (hn : 0 < n) : ∃ g, A = some ⟨g, 0, none⟩ ∧ base ≤ g ∧ Dig w g L := by
  have hl : L.length = n := by have := h.1; rw [dv_len] at this; omega
  rcases h.2 with ⟨e, h0⟩ | ⟨g, cap, cur, e, h1, h2, h3, h4, h5, h6⟩
  · omega
  · cases e
    refine ⟨g, rfl, h1, cur, h2, by omega, fun i d hi => ?_⟩
    have hd := dv_at hi
    rw [← h6, List.getElem?_take] at hd
    split at hd
    · simpa using hd
    · cases hd
end
/-- A reading that a write to block g alone does not touch. -/
theorem Reads.apart {w w' : World} {B n g : Nat} {A : Option Addr} {xs : List Value} (h : Reads w B 1 A n xs) (hg : w.grownBy w' (some g)) (hne : 0 < n → ∀ ad, A = some ad → ad.block ≠ g) : Reads w' B 1 A n xs := by
  refine ⟨h.1, fun hp => ?_⟩
  obtain ⟨ad, e, h1, h2⟩ := h.2 hp
  refine ⟨ad, e, h1, fun j u hj => ?_⟩
  have hc := h2 j u hj
  have hlt := World.block_lt_of_cell? _ _ hc
  exact (World.cell?_of_block (a := ad.add j) (hg.block (ad.add j).block hlt (fun e1 => by rw [block_of_add] at e1; exact hne hp ad e (Option.some.inj e1)))).trans hc
theorem Reads.lt {w : World} {B n : Nat} {A : Option Addr} {xs : List Value} (h : Reads w B 1 A n xs) (hp : 0 < n) {ad : Addr} (e : A = some ad) : ad.block < w.heap.size := by
  obtain ⟨ad', u, e', -, -, hc⟩ := h.at_ hp
  rw [e] at e'
  cases e'
  have := World.block_lt_of_cell? _ _ hc
  rwa [block_of_add] at this
theorem Reads.past {w w' : World} {B n : Nat} {A : Option Addr} {xs : List Value} (h : Reads w B 1 A n xs) (hb : Below w.heap.size w w') : Reads w' B 1 A n xs := by
  refine ⟨h.1, fun hp => ?_⟩
  obtain ⟨ad, e, h1, h2⟩ := h.2 hp
  refine ⟨ad, e, h1, fun j u hj => ?_⟩
  have hc := h2 j u hj
  exact (hb.cell (World.block_lt_of_cell? _ _ hc)).trans hc
theorem Reads.here {w : World} {B n : Nat} {A : Option Addr} {xs : List Value} (h : Reads w B 1 A n xs) : Reads w w.heap.size 1 A n xs := by
  refine ⟨h.1, fun hp => ?_⟩
  obtain ⟨ad, e, h1, h2⟩ := h.2 hp
  exact ⟨ad, e, h.lt hp e, h2⟩
theorem grown_refl (w : World) (g : Option Nat) : w.grownBy w g := ⟨rfl, rfl, rfl, Nat.le_refl _, fun _ _ _ => rfl⟩
theorem grown_step {a b c : World} {g : Option Nat} (h : a.grownBy b g) (k : b.grownBy c g) : a.grownBy c g := ⟨k.os.trans h.os, k.tape.trans h.tape, k.output.trans h.output, Nat.le_trans h.size k.size, fun i hi hne => (k.block i (Nat.lt_of_lt_of_le hi h.size) hne).trans (h.block i hi hne)⟩
/-- A part of a block. -/
def midL (L : List Nat) (off n : Nat) (E : List Nat) : List Nat := L.take off ++ (E ++ L.drop (off + n))
section
variable {L E : List Nat} {off n : Nat}
theorem midL_at (ho : off ≤ L.length) {i : Nat} (hi : i < E.length) : (midL L off n E)[off + i]? = E[i]? := by
  unfold midL
  rw [List.getElem?_append_right (by rw [List.length_take]; omega), List.length_take, Nat.min_eq_left ho, Nat.add_sub_cancel_left, List.getElem?_append_left hi]
theorem midL_set (ho : off ≤ L.length) {i : Nat} (hi : i < E.length) (v : Nat) : (midL L off n E).set (off + i) v = midL L off n (E.set i v) := by
  unfold midL
  rw [List.set_append_right _ _ (by rw [List.length_take]; omega), List.length_take, Nat.min_eq_left ho, Nat.add_sub_cancel_left, List.set_append_left _ _ hi]
theorem midL_self (L : List Nat) (off n : Nat) : midL L off n ((L.drop off).take n) = L := by
  unfold midL
  rw [← List.drop_drop, List.take_append_drop, List.take_append_drop]
theorem midL_len (h : off + n ≤ L.length) (hE : E.length = n) : (midL L off n E).length = L.length := by
  unfold midL
  simp
  omega
theorem midL_all {L E : List Nat} {n : Nat} (h : L.length = n) (_hE : E.length = n) : midL L 0 n E = E := by
  unfold midL
  rw [Nat.zero_add, List.drop_of_length_le (by omega)]
  simp
end

/-! ### Bits -/
theorem ofInt_nat (x : Int) : (BitVec.ofInt 64 x).toNat = (x % 18446744073709551616).toNat := by rw [BitVec.toNat_ofInt]; rfl
theorem and_mask (x : Int) : bits .and .i64 x 1048575 = x % 1048576 := by
  show IntKind.i64.wrap (((BitVec.ofInt 64 x) &&& (BitVec.ofInt 64 1048575)).toNat : Int) = _
  rw [BitVec.toNat_and, ofInt_nat, show (BitVec.ofInt 64 1048575).toNat = 2 ^ 20 - 1 by decide, Nat.and_two_pow_sub_one_eq_mod, IntKind.wrap_i64]
  omega
theorem and_mask_u (x : Int) : bits .and .u64 x 1048575 = x % 1048576 := by
  show IntKind.u64.wrap (((BitVec.ofInt 64 x) &&& (BitVec.ofInt 64 1048575)).toNat : Int) = _
  rw [BitVec.toNat_and, ofInt_nat, show (BitVec.ofInt 64 1048575).toNat = 2 ^ 20 - 1 by decide, Nat.and_two_pow_sub_one_eq_mod]
  have : IntKind.u64.wrap (((x % 18446744073709551616).toNat % 2 ^ 20 : Nat) : Int) = (((x % 18446744073709551616).toNat % 2 ^ 20 : Nat) : Int) % 18446744073709551616 := by simp [IntKind.wrap, IntKind.bits, IntKind.signed]
  rw [this]
  omega
theorem wraps_i64 (n : Int) (h₀ : 0 ≤ n) (h₁ : n < 2 ^ 63) : IntKind.i64.wrap n = n := by rw [IntKind.wrap_i64]; omega
theorem wraps_u64 (n : Int) (h₀ : 0 ≤ n) (h₁ : n < 2 ^ 64) : IntKind.u64.wrap n = n := by
  have : IntKind.u64.wrap n = n % 18446744073709551616 := by simp [IntKind.wrap, IntKind.bits, IntKind.signed]
  rw [this]; omega
theorem or_digit {x d : Int} (h0 : 0 ≤ x) (h1 : x < 8796093022208) (d0 : 0 ≤ d) (d1 : d < 1048576) : bits .or .i64 (x * 1048576) d = x * 1048576 + d :=
  bits_join .i64 63 (by decide) wraps_i64 20 (x * 1048576) d (by omega) (by omega) (by omega) d0 (by omega) (by omega)
theorem or_digit_u {x d : Int} (h0 : 0 ≤ x) (h1 : x < 17592186044416) (d0 : 0 ≤ d) (d1 : d < 1048576) : bits .or .u64 (x * 1048576) d = x * 1048576 + d :=
  bits_join .u64 64 (by decide) wraps_u64 20 (x * 1048576) d (by omega) (by omega) (by omega) d0 (by omega) (by omega)
/-- No bits but the lowest 20. -/
def low20 (y : BitVec 64) : Prop := y &&& ~~~(1048575#64) = 0#64
theorem bv_and_not {y m : BitVec 64} : y &&& ~~~m = 0#64 ↔ y &&& m = y := by
  constructor
  · intro h
    ext i hi
    have := congrArg (fun z : BitVec 64 => z[i]) h
    simp at this
    simp
    exact this
  · intro h
    ext i hi
    have := congrArg (fun z : BitVec 64 => z[i]) h
    simp at this
    simp
    exact this
theorem bv_or_zero {a b m : BitVec 64} : (a ||| b) &&& ~~~m = 0#64 ↔ a &&& ~~~m = 0#64 ∧ b &&& ~~~m = 0#64 := by
  constructor
  · intro h
    have h' := fun i (hi : i < 64) => congrArg (fun z : BitVec 64 => z[i]) h
    simp at h'
    constructor
    · ext i hi
      have := h' i hi
      simp
      exact fun ha => this (.inl ha)
    · ext i hi
      have := h' i hi
      simp
      exact fun ha => this (.inr ha)
  · rintro ⟨h1, h2⟩
    ext i hi
    have e1 := congrArg (fun z : BitVec 64 => z[i]) h1
    have e2 := congrArg (fun z : BitVec 64 => z[i]) h2
    simp at e1 e2
    simp
    rintro (h | h)
    · exact e1 h
    · exact e2 h
theorem low20_iff {x : Int} (h0 : -9223372036854775808 ≤ x) (h1 : x ≤ 9223372036854775807) : low20 (BitVec.ofInt 64 x) ↔ 0 ≤ x ∧ x < 1048576 := by
  unfold low20
  rw [bv_and_not]
  constructor
  · intro h
    have e := congrArg BitVec.toNat h
    rw [BitVec.toNat_and, ofInt_nat, show (1048575#64).toNat = 2 ^ 20 - 1 by decide, Nat.and_two_pow_sub_one_eq_mod] at e
    omega
  · intro h
    apply BitVec.eq_of_toNat_eq
    rw [BitVec.toNat_and, ofInt_nat, show (1048575#64).toNat = 2 ^ 20 - 1 by decide, Nat.and_two_pow_sub_one_eq_mod]
    omega
theorem ofInt_bits (y : BitVec 64) : BitVec.ofInt 64 (IntKind.i64.wrap (y.toNat : Int)) = y := by
  apply BitVec.eq_of_toNat_eq
  rw [ofInt_nat, IntKind.wrap_i64]
  have := y.isLt
  omega
theorem or_low {x y : Int} : low20 (BitVec.ofInt 64 (bits .or .i64 x y)) ↔ low20 (BitVec.ofInt 64 x) ∧ low20 (BitVec.ofInt 64 y) := by
  have e : BitVec.ofInt 64 (bits .or .i64 x y) = BitVec.ofInt 64 x ||| BitVec.ofInt 64 y := ofInt_bits _
  rw [e]
  exact bv_or_zero
theorem not_low {x : Int} : bits .andNot .i64 x 1048575 = 0 ↔ low20 (BitVec.ofInt 64 x) := by
  show IntKind.i64.wrap (((BitVec.ofInt 64 x) &&& ~~~ (1048575#64)).toNat : Int) = 0 ↔ _
  unfold low20
  rw [IntKind.wrap_i64]
  have := ((BitVec.ofInt 64 x) &&& ~~~ (1048575#64)).isLt
  constructor
  · intro h
    apply BitVec.eq_of_toNat_eq
    show _ = 0
    omega
  · intro h
    rw [h]
    decide
end Go.Proofs.YtikfjmdeeknalaaGreatDoor
