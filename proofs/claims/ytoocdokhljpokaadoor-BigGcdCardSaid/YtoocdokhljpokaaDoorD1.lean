/- The decimal text of a number by groups of twelve digits, plainly: the groups' texts behind the first one's are the whole number's. No condition. -/
import Derived.Test.YtoocdokhljpokaaDoorC9
import Derived.Lib.ItoaMem
namespace Go.Proofs.YtoocdokhljpokaaDoor
set_option maxRecDepth 8000
open Go.RowKit Go.Lib

theorem dec_small {u : Nat} (h : u < 10) : decDigits u = [UInt8.ofNat (48 + u)] := by rw [decDigits, dif_pos h]
theorem dec_big {u : Nat} (h : ¬ u < 10) : decDigits u = decDigits (u / 10) ++ [UInt8.ofNat (48 + u % 10)] := by rw [decDigits, dif_neg h]
theorem dec_ne (u : Nat) : decDigits u ≠ [] := by
  by_cases h : u < 10
  · rw [dec_small h]; simp
  · rw [dec_big h]; simp
/-- Behind a number's digits stand k more. -/
theorem dec_pad : ∀ (k a g : Nat), 0 < a → g < 10 ^ k → decDigits (a * 10 ^ k + g) = decDigits a ++ (decDigits (10 ^ k + g)).drop 1
  | 0, a, g, _, hg => by
    have : g = 0 := by simpa using hg
    subst this
    rw [Nat.pow_zero, Nat.mul_one, Nat.add_zero, Nat.add_zero, dec_small (u := 1) (by decide)]
    simp
  | k + 1, a, g, ha, hg => by
    have hp : 1 ≤ 10 ^ k := Nat.one_le_pow _ _ (by decide)
    rw [Nat.pow_succ] at hg ⊢
    obtain ⟨p, hpk⟩ : ∃ p, 10 ^ k = p := ⟨_, rfl⟩
    have hap : p ≤ a * p := Nat.le_mul_of_pos_left p ha
    have e1 : a * (p * 10) + g = 10 * (a * p) + g := by rw [← Nat.mul_assoc, Nat.mul_comm (a * p) 10]
    have ih := dec_pad k a (g / 10) ha (by omega)
    rw [hpk] at hg ih hp ⊢
    obtain ⟨ap, hape⟩ : ∃ x, a * p = x := ⟨_, rfl⟩
    rw [e1]
    rw [hape] at ih hap ⊢
    rw [dec_big (u := 10 * ap + g) (by omega), dec_big (u := p * 10 + g) (by omega), show (10 * ap + g) / 10 = ap + g / 10 by omega, show (p * 10 + g) / 10 = p + g / 10 by omega, show (10 * ap + g) % 10 = g % 10 by omega, show (p * 10 + g) % 10 = g % 10 by omega, ih]
    have hne := dec_ne (p + g / 10)
    rw [List.append_assoc]
    congr 1
    cases h : decDigits (p + g / 10) with
    | nil => exact absurd h hne
    | cons c l => rfl

/-- A group's text: twelve digits. -/
def padG (g : Nat) : List UInt8 := (decDigits (1000000000000 + g)).drop 1
/-- The value of a first part and groups, the least one ahead. -/
def gval (top : Nat) : List Nat → Nat
  | [] => top
  | g :: gs => gval top gs * 1000000000000 + g
theorem gval_snoc (q r : Nat) : ∀ gs, gval q (gs ++ [r]) = gval (q * 1000000000000 + r) gs
  | [] => rfl
  | g :: gs => by
    show gval q (gs ++ [r]) * 1000000000000 + g = gval _ gs * 1000000000000 + g
    rw [gval_snoc q r gs]
theorem gval_pos {top : Nat} (h : 0 < top) : ∀ gs, 0 < gval top gs
  | [] => h
  | g :: gs => by
    have := gval_pos h gs
    show 0 < gval top gs * 1000000000000 + g
    omega
/-- A text with the groups' texts behind. -/
def txtG (t : List UInt8) : List Nat → List UInt8
  | [] => t
  | g :: gs => txtG t gs ++ padG g
theorem txtG_cons (c : UInt8) (t : List UInt8) : ∀ gs, txtG (c :: t) gs = c :: txtG t gs
  | [] => rfl
  | g :: gs => by
    show txtG (c :: t) gs ++ padG g = c :: (txtG t gs ++ padG g)
    rw [txtG_cons c t gs]
    rfl
theorem dec_groups {top : Nat} (h : 0 < top) : ∀ gs : List Nat, (∀ g ∈ gs, g < 1000000000000) → decDigits (gval top gs) = txtG (decDigits top) gs
  | [], _ => rfl
  | g :: gs, hg => by
    have ih := dec_groups h gs (fun x hx => hg x (by simp [hx]))
    have e := dec_pad 12 (gval top gs) g (gval_pos h gs) (by have := hg g (by simp); omega)
    show decDigits (gval top gs * 1000000000000 + g) = txtG (decDigits top) gs ++ padG g
    rw [show (10 : Nat) ^ 12 = 1000000000000 by rfl] at e
    rw [e, ih]
    rfl
/-- The text of a big integer out of its first part and its groups. -/
theorem itoa_groups {s : Int} {top : Nat} {gs : List Nat} (hs : s = 1 ∨ s = -1 ∨ (s = 0 ∧ gs = [])) (h : gs = [] ∨ 0 < top) (hz : s = -1 → 0 < top) (hg : ∀ g ∈ gs, g < 1000000000000) : itoa (s * (gval top gs : Nat)) = txtG (itoa (s * (top : Nat))) gs := by
  rcases h with rfl | h
  · rfl
  · rcases hs with rfl | rfl | ⟨rfl, rfl⟩
    · rw [Int.one_mul, Int.one_mul, itoa_nonneg, itoa_nonneg]
      exact dec_groups h gs hg
    · have h1 := gval_pos h gs
      rw [Int.neg_one_mul, Int.neg_one_mul, itoa_neg _ h1, itoa_neg _ h, txtG_cons, dec_groups h gs hg]
    · rfl
/-- The same from the end of the groups on. -/
theorem txtG_drop {t : List UInt8} {gs : List Nat} {k : Nat} {g : Nat} (h : gs[gs.length - (k + 1)]? = some g) (hk : k < gs.length) : txtG t (gs.drop (gs.length - (k + 1))) = txtG t (gs.drop (gs.length - k)) ++ padG g := by
  obtain ⟨hlt, rfl⟩ := List.getElem?_eq_some_iff.1 h
  rw [List.drop_eq_getElem_cons hlt, show gs.length - (k + 1) + 1 = gs.length - k by omega]
  rfl
def txtE (t : List UInt8) (pre : List (Nat × Int)) : List UInt8 := pre.foldl (fun t x => t ++ (itoa (1000000000000 + x.2)).drop 1) t
theorem txtE_snoc (t : List UInt8) (pre : List (Nat × Int)) (x : Nat × Int) : txtE t (pre ++ [x]) = txtE t pre ++ (itoa (1000000000000 + x.2)).drop 1 := by simp [txtE]
theorem txtE_ends (t : List UInt8) (gs : List Nat) : ∀ k, k ≤ gs.length → txtE t (ends (gs.map fun d : Nat => (d : Int)) k) = txtG t (gs.drop (gs.length - k))
  | 0, _ => by simp [ends, txtE, txtG]
  | k + 1, h => by
    have hd : gs[gs.length - (k + 1)]? = some gs[gs.length - (k + 1)] := List.getElem?_eq_getElem (by omega)
    rw [ends_succ, txtE_snoc, txtE_ends t gs k (by omega), txtG_drop hd (by omega)]
    congr 1
    unfold fromEnd
    simp only [List.length_map, List.getElem?_map]
    rw [show gs.length - 1 - k = gs.length - (k + 1) by omega, hd]
    show (itoa (1000000000000 + ((gs[gs.length - (k + 1)] : Nat) : Int))).drop 1 = padG _
    have e : (1000000000000 : Int) + ((gs[gs.length - (k + 1)] : Nat) : Int) = ((1000000000000 + gs[gs.length - (k + 1)] : Nat) : Int) := by omega
    rw [e, itoa_nonneg]
    rfl
/-- A group's text has its digit ahead cut off: twelve bytes stay. -/
theorem padG_len {g : Nat} (h : g < 1000000000000) : (decDigits (1000000000000 + g)).length = 13 := by
  rw [decDigits_length]
  exact nDigits_unique 12 _ (by omega) (by omega)
end Go.Proofs.YtoocdokhljpokaaDoor
