/- The walks of big's isDecimal, and of Read at texts that no big integer has. Conditions: lengths. -/
import Derived.Test.YtikfjmdeeknalaaDoorC8
import Derived.Lib.ItoaMem
import Derived.Deep.DeepCutAuto
import Derived.ProofKit
import Derived.Deep.Slices
import Derived.Deep.Fields
import Derived.ChangeSame
import Derived.Lib.SmallJoins
namespace Go.Proofs.YtikfjmdeeknalaaDoor
set_option maxRecDepth 8000
open Go.RowKit

/-- Decimal digits, at least one. -/
def decB (l : List UInt8) : Bool := decide (l ≠ []) && l.all fun c => decide (48 ≤ c.toNat ∧ c.toNat ≤ 57)
def allDec (l : List UInt8) : Bool := l.all fun c => decide (48 ≤ c.toNat ∧ c.toNat ≤ 57)
theorem str_at {s : ByteArray} {k : Nat} (h : k < s.size) : s.data.toList[k]? = some s[k] := by
  rw [List.getElem?_eq_getElem (by simpa using h)]; rfl
theorem toList_loop (s : ByteArray) : ∀ (n i : Nat) (r : List UInt8), s.size - i = n → ByteArray.toList.loop s i r = r.reverse ++ s.data.toList.drop i := by
  intro n
  induction n with
  | zero =>
    intro i r h
    rw [ByteArray.toList.loop, if_neg (by omega), List.drop_eq_nil_of_le (by simp; omega), List.append_nil]
  | succ n ih =>
    intro i r h
    rw [ByteArray.toList.loop, if_pos (by omega), ih (i + 1) _ (by omega), List.reverse_cons, List.append_assoc]
    have e : s.data.toList.drop i = s.data.toList[i]'(by simp; omega) :: s.data.toList.drop (i + 1) := List.drop_eq_getElem_cons (by simp; omega)
    have hi : i < s.data.size := by show i < s.size; omega
    have e2 : s.get! i = s.data.toList[i]'(by simp; omega) := by
      rw [ByteArray.get!, getElem!_pos s.data i hi, Array.getElem_toList]
    rw [e, e2]
    rfl
theorem toList_data (s : ByteArray) : s.toList = s.data.toList := by
  rw [ByteArray.toList, toList_loop s _ 0 [] rfl]
  rfl
/-- How Read ends where there is no big integer with the text. -/
def BadEnd (w : World) (e : Ending) (w' : World) : Prop := e = .returned (.tuple #[.agg #[.int .i64 0, .slice none 0 0], .int .i64 2]) ∧ Below w.heap.size w w'
end Go.Proofs.YtikfjmdeeknalaaDoor

/- The decimal text of a number by groups of twelve digits, plainly: the groups' texts behind the first one's are the whole number's. No condition. -/
namespace Go.Proofs.YtikfjmdeeknalaaDoor
set_option maxRecDepth 8000
open Go.RowKit Go.Lib

theorem dec_small {u : Nat} (h : u < 10) : decDigits u = [UInt8.ofNat (48 + u)] := by rw [decDigits, dif_pos h]
theorem dec_big {u : Nat} (h : ¬ u < 10) : decDigits u = decDigits (u / 10) ++ [UInt8.ofNat (48 + u % 10)] := by rw [decDigits, dif_neg h]
theorem dec_ne (u : Nat) : decDigits u ≠ [] := by
  by_cases h : u < 10
  · rw [dec_small h]; simp
  · rw [dec_big h]; simp
/-- Behind a number's digits stand k more. -/
theorem dec_pad : ∀ (k a g : Nat), 0 < a → g < 10 ^ k → decDigits (a * 10 ^ k + g) = decDigits a ++ (decDigits (10 ^ k + g)).drop 1
  | 0, a, g, _, hg => by
    have : g = 0 := by simpa using hg
    subst this
    rw [Nat.pow_zero, Nat.mul_one, Nat.add_zero, Nat.add_zero, dec_small (u := 1) (by decide)]
    simp
  | k + 1, a, g, ha, hg => by
    have hp : 1 ≤ 10 ^ k := Nat.one_le_pow _ _ (by decide)
    rw [Nat.pow_succ] at hg ⊢
    obtain ⟨p, hpk⟩ : ∃ p, 10 ^ k = p := ⟨_, rfl⟩
    have hap : p ≤ a * p := Nat.le_mul_of_pos_left p ha
    have e1 : a * (p * 10) + g = 10 * (a * p) + g := by rw [← Nat.mul_assoc, Nat.mul_comm (a * p) 10]
    have ih := dec_pad k a (g / 10) ha (by omega)
    rw [hpk] at hg ih hp ⊢
    obtain ⟨ap, hape⟩ : ∃ x, a * p = x := ⟨_, rfl⟩
    rw [e1]
    rw [hape] at ih hap ⊢
    rw [dec_big (u := 10 * ap + g) (by omega), dec_big (u := p * 10 + g) (by omega), show (10 * ap + g) / 10 = ap + g / 10 by omega, show (p * 10 + g) / 10 = p + g / 10 by omega, show (10 * ap + g) % 10 = g % 10 by omega, show (p * 10 + g) % 10 = g % 10 by omega, ih]
    have hne := dec_ne (p + g / 10)
    rw [List.append_assoc]
    congr 1
    cases h : decDigits (p + g / 10) with
    | nil => exact absurd h hne
    | cons c l => rfl

/-- A group's text: twelve digits. -/
def padG (g : Nat) : List UInt8 := (decDigits (1000000000000 + g)).drop 1
/-- The value of a first part and groups, the least one ahead. -/
def gval (top : Nat) : List Nat → Nat
  | [] => top
  | g :: gs => gval top gs * 1000000000000 + g
theorem gval_snoc (q r : Nat) : ∀ gs, gval q (gs ++ [r]) = gval (q * 1000000000000 + r) gs
  | [] => rfl
  | g :: gs => by
    show gval q (gs ++ [r]) * 1000000000000 + g = gval _ gs * 1000000000000 + g
    rw [gval_snoc q r gs]
theorem gval_pos {top : Nat} (h : 0 < top) : ∀ gs, 0 < gval top gs
  | [] => h
  | g :: gs => by
    have := gval_pos h gs
    show 0 < gval top gs * 1000000000000 + g
    omega
/-- A text with the groups' texts behind. -/
def txtG (t : List UInt8) : List Nat → List UInt8
  | [] => t
  | g :: gs => txtG t gs ++ padG g
theorem txtG_cons (c : UInt8) (t : List UInt8) : ∀ gs, txtG (c :: t) gs = c :: txtG t gs
  | [] => rfl
  | g :: gs => by
    show txtG (c :: t) gs ++ padG g = c :: (txtG t gs ++ padG g)
    rw [txtG_cons c t gs]
    rfl
theorem dec_groups {top : Nat} (h : 0 < top) : ∀ gs : List Nat, (∀ g ∈ gs, g < 1000000000000) → decDigits (gval top gs) = txtG (decDigits top) gs
  | [], _ => rfl
  | g :: gs, hg => by
    have ih := dec_groups h gs (fun x hx => hg x (by simp [hx]))
    have e := dec_pad 12 (gval top gs) g (gval_pos h gs) (by have := hg g (by simp); omega)
    show decDigits (gval top gs * 1000000000000 + g) = txtG (decDigits top) gs ++ padG g
    rw [show (10 : Nat) ^ 12 = 1000000000000 by rfl] at e
    rw [e, ih]
    rfl
/-- The text of a big integer out of its first part and its groups. -/
theorem itoa_groups {s : Int} {top : Nat} {gs : List Nat} (hs : s = 1 ∨ s = -1 ∨ (s = 0 ∧ gs = [])) (h : gs = [] ∨ 0 < top) (hz : s = -1 → 0 < top) (hg : ∀ g ∈ gs, g < 1000000000000) : itoa (s * (gval top gs : Nat)) = txtG (itoa (s * (top : Nat))) gs := by
  rcases h with rfl | h
  · rfl
  · rcases hs with rfl | rfl | ⟨rfl, rfl⟩
    · rw [Int.one_mul, Int.one_mul, itoa_nonneg, itoa_nonneg]
      exact dec_groups h gs hg
    · have h1 := gval_pos h gs
      rw [Int.neg_one_mul, Int.neg_one_mul, itoa_neg _ h1, itoa_neg _ h, txtG_cons, dec_groups h gs hg]
    · rfl
/-- The same from the end of the groups on. -/
theorem txtG_drop {t : List UInt8} {gs : List Nat} {k : Nat} {g : Nat} (h : gs[gs.length - (k + 1)]? = some g) (hk : k < gs.length) : txtG t (gs.drop (gs.length - (k + 1))) = txtG t (gs.drop (gs.length - k)) ++ padG g := by
  obtain ⟨hlt, rfl⟩ := List.getElem?_eq_some_iff.1 h
  rw [List.drop_eq_getElem_cons hlt, show gs.length - (k + 1) + 1 = gs.length - k by omega]
  rfl
def txtE (t : List UInt8) (pre : List (Nat × Int)) : List UInt8 := pre.foldl (fun t x => t ++ (itoa (1000000000000 + x.2)).drop 1) t
theorem txtE_snoc (t : List UInt8) (pre : List (Nat × Int)) (x : Nat × Int) : txtE t (pre ++ [x]) = txtE t pre ++ (itoa (1000000000000 + x.2)).drop 1 := by simp [txtE]
theorem txtE_ends (t : List UInt8) (gs : List Nat) : ∀ k, k ≤ gs.length → txtE t (ends (gs.map fun d : Nat => (d : Int)) k) = txtG t (gs.drop (gs.length - k))
  | 0, _ => by simp [ends, txtE, txtG]
  | k + 1, h => by
    have hd : gs[gs.length - (k + 1)]? = some gs[gs.length - (k + 1)] := List.getElem?_eq_getElem (by omega)
    rw [ends_succ, txtE_snoc, txtE_ends t gs k (by omega), txtG_drop hd (by omega)]
    congr 1
    unfold fromEnd
    simp only [List.length_map, List.getElem?_map]
    rw [show gs.length - 1 - k = gs.length - (k + 1) by omega, hd]
    show (itoa (1000000000000 + ((gs[gs.length - (k + 1)] : Nat) : Int))).drop 1 = padG _
    have e : (1000000000000 : Int) + ((gs[gs.length - (k + 1)] : Nat) : Int) = ((1000000000000 + gs[gs.length - (k + 1)] : Nat) : Int) := by omega
    rw [e, itoa_nonneg]
    rfl
/-- A group's text has its digit ahead cut off: twelve bytes stay. -/
theorem padG_len {g : Nat} (h : g < 1000000000000) : (decDigits (1000000000000 + g)).length = 13 := by
  rw [decDigits_length]
  exact nDigits_unique 12 _ (by omega) (by omega)
end Go.Proofs.YtikfjmdeeknalaaDoor

/- The law's function pair, where both are the integers that are asked for. Conditions: the bounds of an int, lengths. -/
namespace Go.Proofs.YtikfjmdeeknalaaDoor
set_option maxRecDepth 8000
open Go.RowKit

/-- Of, then Same, at any world behind w that keeps what lay in it. -/
theorem same_of {w : World} {s x : Int} {A : Option Addr} {n c B : Nat} {l : List Nat} (h : Reads w B 1 A n (dv l)) (hn : n ≤ 1048576) (r : Rep s l x) {sa : Int} {Aa : Option Addr} {la : List Nat} {ca : Nat} {w1 : World}
    (ra : Rep sa la x) (hra : Reads w1 w1.heap.size 1 Aa la.length (dv la)) (hx : x.natAbs < 1048576 ^ 4) (hb : Below w.heap.size w w1) :
    Calls Tryd.prog 40 #[.agg #[.int .i64 s, .slice A n c], .agg #[.int .i64 sa, .slice Aa la.length ca]] w1 fun e w' => e = .returned (.bool true) ∧ Below w1.heap.size w1 w' :=
  Same_any s sa A Aa n la.length c ca _ _ _ _ w1 (dv_read (h.past hb)) (dv_read hra) (by omega) (by have := ra.len hx; omega) (by rw [sameB_rep r ra]; exact decide_eq_true rfl)
end Go.Proofs.YtikfjmdeeknalaaDoor

/- A big integer as a law's argument: what it reads as, and where its digits lie. No condition. -/
namespace Go.Proofs.YtikfjmdeeknalaaDoor
set_option maxRecDepth 8000
open Go.ChangeShapes Go.WideShapes Go.Deep Go.Joins Go.RowKit

section
variable {H : Type} {enc : TypeId × Value → H} {P : Program} {w : World} {base : Nat} {spare : Nat → Bool} {held : Bool}
theorem open_agg2 {r : Reach} {b0 : Nat} {t : TypeId} {f0 f1 : Field} {v : Value} {d : DataW H} {p : List MemPlace} (hs : P.underlying t = some (.struct #[f0, f1])) (hone : oneCellFields P #[f0, f1] = true) (hC : P.cellsOf t = 2)
    (hv : Value.okWide P w r b0 t v) (h : DataW.Trod enc P w base spare held t v d p) :
    ∃ (v0 v1 : Value) (y0 y1 : DataW H × List MemPlace) (n : Nat), v = .agg #[v0, v1] ∧ DataW.trod enc P w base spare held n f0.type [v0] = some y0 ∧ DataW.trod enc P w base spare held n f1.type [v1] = some y1 := by
  obtain ⟨cs, rfl, hsz⟩ := okWide_struct hs hv
  obtain ⟨l⟩ := cs
  match l, hsz.trans hC with
  | [c0, c1], _ =>
    obtain ⟨fuel, hf⟩ := h
    obtain ⟨xs, n, _, hx, _, hlen, hg⟩ := DataW.trod_struct hs hf
    obtain ⟨o0, k0⟩ := hone_of hone 0 f0 rfl
    obtain ⟨o1, k1⟩ := hone_of hone 1 f1 rfl
    match xs, hlen with
    | [y0, y1], _ => exact ⟨c0, c1, y0, y1, n, rfl, by simpa [Value.cells, o0, k0] using hg 0 f0 rfl, by simpa [Value.cells, o1, k1] using hg 1 f1 rfl⟩
end
theorem wfI64 {n : Int} (h : (Lit.int .i64 n).wf = true) : -9223372036854775808 ≤ n ∧ n ≤ 9223372036854775807 := by
  have e1 : IntKind.i64.min = -9223372036854775808 := rfl
  have e2 : IntKind.i64.max = 9223372036854775807 := rfl
  simp [Lit.wf, e1, e2] at h
  omega
theorem mapAt {α : Type} {f : α → Value} {l : List α} {j : Nat} {u : Value} (h : (l.map f)[j]? = some u) : ∃ hj : j < l.length, u = f l[j] := by
  rw [List.getElem?_map] at h
  cases h2 : l[j]? with
  | none => rw [h2] at h; cases h
  | some x =>
    rw [h2] at h
    obtain ⟨hj, rfl⟩ := List.getElem?_eq_some_iff.1 h2
    simp at h
    exact ⟨hj, h.symm⟩
theorem cellsI : Tryd.prog.cellsOf 3 = 1 := by kernel_rfl
theorem cellsBig : Tryd.prog.cellsOf 25 = 2 := by kernel_rfl
section
variable {H : Type} {enc : TypeId × Value → H} {W : World}
theorem digits_in {fuel : Nat} {v : Value} {y : DataW H × List MemPlace} (h : DataW.trod enc Tryd.prog W 0 (fun _ => true) true fuel 23 [v] = some y) :
    ∃ (A : Option Addr) (l : List Int) (c : Nat), v = .slice A l.length c ∧ Reads W W.heap.size 1 A l.length (iv l) ∧ (∀ z ∈ l, -9223372036854775808 ≤ z ∧ z ≤ 9223372036854775807) ∧ l.length ≤ c ∧ c ≤ 9223372036854775807 := by
  rcases open_ints Tryd.underlying23 Tryd.underlying3 cellsI h with ⟨hcs, _⟩ | ⟨a, len, cap, zs, hcs, _, hl, hm, hz, _, hcell, hwz⟩
  · simp only [List.cons.injEq, and_true] at hcs
    exact ⟨none, [], 0, hcs, Reads.none_, by simp, by simp, by simp⟩
  · simp only [List.cons.injEq, and_true] at hcs
    have hz' : zs.length = cap := by simpa using hz
    have hlen : (zs.take len).length = len := by rw [List.length_take]; omega
    unfold maxLen at hm
    refine ⟨some a, zs.take len, cap, by rw [hcs, hlen], ?_, fun z hz => wfI64 (hwz z (List.mem_of_mem_take hz)), by rw [hlen]; omega, by omega⟩
    rw [hlen]
    refine ⟨by unfold iv; rw [List.length_map, hlen]; omega, fun hpos => ⟨a, rfl, ?_, fun j u hu => ?_⟩⟩
    · have := World.block_lt_of_cell? W _ (hcell 0 (by omega))
      rwa [block_of_add] at this
    · obtain ⟨hj, rfl⟩ := mapAt hu
      rw [hlen] at hj
      rw [hcell j (by omega)]
      congr 2
      simp [List.getD, List.getElem?_eq_getElem (show j < zs.length by omega)]
/-- A big integer, right or not, as a law's argument. -/
theorem big_in {r : Reach} {b0 : Nat} {v : Value} {d : DataW H} {p : List MemPlace} (hv : Value.okWide Tryd.prog W r b0 25 v) (h : DataW.Trod enc Tryd.prog W 0 (fun _ => true) true 25 v d p) :
    ∃ (s : Int) (A : Option Addr) (l : List Int) (c : Nat), v = .agg #[.int .i64 s, .slice A l.length c] ∧ (-9223372036854775808 ≤ s ∧ s ≤ 9223372036854775807) ∧ Reads W W.heap.size 1 A l.length (iv l) ∧ (∀ z ∈ l, -9223372036854775808 ≤ z ∧ z ≤ 9223372036854775807) ∧ l.length ≤ c ∧ c ≤ 9223372036854775807 := by
  obtain ⟨v0, v1, y0, y1, n, rfl, h0, h1⟩ := open_agg2 Tryd.underlying25 (by kernel_rfl) cellsBig hv h
  obtain ⟨s, e0, _, ws⟩ := DataW.trod_int Tryd.underlying3 h0
  obtain ⟨A, l, c, rfl, hr, hz, hlc, hc⟩ := digits_in h1
  simp only [List.cons.injEq, and_true] at e0
  subst e0
  exact ⟨s, A, l, c, rfl, wfI64 ws, hr, hz, hlc, hc⟩
end
end Go.Proofs.YtikfjmdeeknalaaDoor

/- The walk of big's Compare at right big integers. Conditions: lengths. -/
namespace Go.Proofs.YtikfjmdeeknalaaDoor
set_option maxRecDepth 8000
open Go.RowKit

/-- -1, 0 or 1, as two integers stand. -/
def ordZ (x y : Int) : Int := if x < y then -1 else if x = y then 0 else 1
theorem cmp_ordZ (x y : Int) : Lib.compareInt x y = ordZ x y := by
  unfold Lib.compareInt ordZ
  split
  · rfl
  · split <;> split <;> omega
theorem ordZ_signs {s1 s2 x y : Int} {l1 l2 : List Nat} (r1 : Rep s1 l1 x) (r2 : Rep s2 l2 y) (h : s1 ≠ s2) : ordZ s1 s2 = ordZ x y := by
  have e : (s1 < s2 ↔ x < y) ∧ (s1 = s2 ↔ x = y) := by
    rcases r1.cases with ⟨a, -, b, -⟩ | ⟨a, -, b, -⟩ | ⟨a, -, b⟩ <;> rcases r2.cases with ⟨c, -, d, -⟩ | ⟨c, -, d, -⟩ | ⟨c, -, d⟩ <;> omega
  unfold ordZ
  simp only [e.1, e.2]
theorem ordZ_digits {s x y : Int} {l1 l2 : List Nat} (r1 : Rep s l1 x) (r2 : Rep s l2 y) : s * ordN (dval l1) (dval l2) = ordZ x y := by
  unfold ordN ordZ
  rcases r1.cases with ⟨a, -, b, b2⟩ | ⟨a, -, b, b2⟩ | ⟨a, -, b⟩ <;> rcases r2.cases with ⟨c, -, d, d2⟩ | ⟨c, -, d, d2⟩ | ⟨c, -, d⟩ <;> subst a <;> first
    | omega
    | (split <;> split <;> first | omega | (split <;> first | omega | (split <;> omega)))
    | (rw [Int.zero_mul]; split <;> first | omega | (split <;> omega))
set_option maxHeartbeats 4000000 in
theorem Compare_any (s1 s2 x y : Int) (A1 A2 : Option Addr) (n1 n2 c1 c2 B1 B2 : Nat) (l1 l2 : List Nat) (w : World) (h1 : Reads w B1 1 A1 n1 (dv l1)) (h2 : Reads w B2 1 A2 n2 (dv l2)) (hn1 : n1 ≤ 1073741824) (hn2 : n2 ≤ 1073741824)
    (r1 : Rep s1 l1 x) (r2 : Rep s2 l2 y) {r : Int} (hr : ordZ x y = r) :
    Calls Tryd.prog 94 #[.agg #[.int .i64 s1, .slice A1 n1 c1], .agg #[.int .i64 s2, .slice A2 n2 c2]] w fun e w' => e = .returned (.int .i64 r) ∧ Below w.heap.size w w' := by
  obtain ⟨kb1, kb2, kbl⟩ := TwoC.new w s1 A1 n1 c1 s2 A2 n2 c2
  have R1 := Lib.hid r1
  have R2 := Lib.hid r2
  have HR := Lib.hid hr
  have H1 := Lib.hid (h1.past kbl)
  have H2 := Lib.hid (h2.past kbl)
  clear h1 h2 r1 r2 hr
  obtain ⟨wb, hwb⟩ : ∃ wb, wb = ((w.alloc (.cells #[.int .i64 s1, .slice A1 n1 c1] 25)).alloc (.cells #[.int .i64 s2, .slice A2 n2 c2] 25)) := ⟨_, rfl⟩
  go_enter Tryd.func94, Tryd.ntmps94
  go_wp2_with fail
  rw [← hwb] at kb1 kb2 kbl H1 H2 ⊢
  clear hwb
  have HBL := Lib.hid kbl
  refine (right_rep R1.out A1 n1 c1 _ wb H1.out hn1).mono ?_
  rintro e w4 ⟨rfl, b4⟩
  have j1 := kb1.below b4 kb1.lt
  have j2 := kb2.below b4 kb2.lt
  have y2 : w4.cell? ⟨w.heap.size + 1, 0, none⟩ = some (.int .i64 s2) := (j2.cell 0).trans rfl
  have y3 : w4.cell? ⟨w.heap.size + 1, 1, none⟩ = some (.slice A2 n2 c2) := (j2.cell 1).trans rfl
  have H3 := Lib.hid (H1.out.past b4)
  have H4 := Lib.hid (H2.out.past b4)
  have B4 := Lib.hid (HBL.out.trans (b4.mono HBL.out.size))
  clear b4 kb1 kb2 H1 H2 kbl HBL
  go_wp2_with fail
  refine (right_rep R2.out A2 n2 c2 _ w4 H4.out hn2).mono ?_
  rintro e w5 ⟨rfl, b5⟩
  have k1 := j1.below b5 j1.lt
  have k2 := j2.below b5 j2.lt
  have z0 : w5.cell? ⟨w.heap.size, 0, none⟩ = some (.int .i64 s1) := (k1.cell 0).trans rfl
  have z1 : w5.cell? ⟨w.heap.size, 1, none⟩ = some (.slice A1 n1 c1) := (k1.cell 1).trans rfl
  have z2 : w5.cell? ⟨w.heap.size + 1, 0, none⟩ = some (.int .i64 s2) := (k2.cell 0).trans rfl
  have z3 : w5.cell? ⟨w.heap.size + 1, 1, none⟩ = some (.slice A2 n2 c2) := (k2.cell 1).trans rfl
  have H5 := Lib.hid (H3.out.past b5)
  have H6 := Lib.hid (H4.out.past b5)
  have B5 := Lib.hid (B4.out.trans (b5.mono B4.out.size))
  clear b5 j1 j2 k1 k2 y2 y3 H3 H4 B4
  by_cases hs : s1 = s2
  · subst hs
    have hv : Hid (s1 * ordN (dval l1) (dval l2) = r) := (ordZ_digits R1.out R2.out).trans HR.out
    obtain ⟨o, ho⟩ : ∃ o, ordN (dval l1) (dval l2) = o := ⟨_, rfl⟩
    have HC : Hid (∀ d, Calls Tryd.prog 65 #[.slice A1 n1 c1, .slice A2 n2 c2] (w5.drewN d) fun e w' => e = .returned (.int .i64 o) ∧ ∃ n, w' = w5.drewN n) := fun d => by
      refine (compare_any A1 A2 n1 n2 c1 c2 _ _ l1 l2 _ (H5.out.drewN d) (H6.out.drewN d) R1.out.norm R2.out.norm hn1 hn2 ho).mono ?_
      rintro e w' ⟨rfl, hd⟩
      obtain ⟨d2, rfl⟩ := hd
      exact ⟨rfl, Drew.more ⟨d, rfl⟩⟩
    have hsg : -1 ≤ s1 ∧ s1 ≤ 1 := by rcases R1.out.sign with ⟨e, -⟩ | ⟨e, -⟩ | ⟨e, -⟩ <;> omega
    have hob : -1 ≤ o ∧ o ≤ 1 := by rw [← ho]; unfold ordN; split <;> first | omega | (split <;> omega)
    have hwr : IntKind.i64.wrap (s1 * o) = s1 * o := by
      have : s1 = -1 ∨ s1 = 0 ∨ s1 = 1 := by omega
      rcases this with e | e | e <;> rw [e, IntKind.wrap_i64] <;> omega
    rw [ho] at hv
    clear ho R1 R2 HR H5 H6
    go_wp2_with fail
    go_quiet ((go_at_call 65; exact (HC.out _).mono fun _ _ h => h))
    go_wp2_with fail
    rw [hv.out]
    go_ret
    exact ⟨rfl, below_drewN B5.out _⟩
  · have hs' : ¬ s1 = s2 := hs
    have hv : Hid (Lib.compareInt s1 s2 = r) := (cmp_ordZ _ _).trans ((ordZ_signs R1.out R2.out hs).trans HR.out)
    clear R1 R2 HR H5 H6 hs
    go_wp2_with fail
    refine (Tryd.cmp_Compare_int s1 s2 w5).mono ?_
    rintro e w' ⟨rfl, rfl⟩
    rw [hv.out]
    go_wp2_with fail
    go_ret
    exact ⟨rfl, B5.out⟩
end Go.Proofs.YtikfjmdeeknalaaDoor
