/- The walk of the law's small. Conditions: the table of strconv. -/
import Derived.Test.YtnnakclmeihonaaDoorJm
namespace Go.Proofs.YtnnakclmeihonaaDoor
set_option maxRecDepth 8000
open Go.RowKit Go.ChangeMaps Go.Lib

theorem f_ab : formP [97, 98] = [50, 58, 97, 98, 44, 50, 57, 51, 59] := by simp [formP, wText, wInt, itoa, decDigits, sumP, sumN, atB]
theorem f_nil : formP [] = [48, 58, 44, 48, 59] := by simp [formP, wText, wInt, itoa, decDigits, sumP, sumN]
theorem s_nil : sumP [] = 0 := rfl
theorem s_a : sumP [97] = 97 := by decide
theorem s_ab : sumP [97, 98] = 293 := by decide

def d1 : Ds := (syncP newD 3).1
def d2 : Ds := (writeP d1 3 0 [50, 58, 97, 98, 44, 50, 57, 51, 59]).1
def d3 : Ds := (writeP d2 3 9 [48, 58, 44, 48, 59]).1
def t16 : List UInt8 := [50, 58, 97, 98, 44, 50, 57, 51, 59, 49, 58, 97, 44, 57, 56, 59]
def d4 : Ds := (writeP d3 4 0 t16).1
def d5 : Ds := (syncP d4 4).1
def d6 : Ds := (truncP d5 4 9).1
theorem x_1 : (syncP newD 3).2 = 0 := by decide +kernel
theorem x_1d : d1.data 3 = [] := by decide +kernel
theorem x_2 : (writeP d1 3 0 [50, 58, 97, 98, 44, 50, 57, 51, 59]).2 = 0 := by decide +kernel
theorem x_3 : (writeP d2 3 9 [48, 58, 44, 48, 59]).2 = 0 := by decide +kernel
theorem x_r : readP d3 3 0 99 = ([50, 58, 97, 98, 44, 50, 57, 51, 59, 48, 58, 44, 48, 59], 0) := by decide +kernel
theorem x_4 : (writeP d3 4 0 t16).2 = 0 := by decide +kernel
theorem x_5 : (syncP d4 4).2 = 0 := by decide +kernel
theorem x_5d : d5.data 4 = t16 := by decide +kernel
theorem x_6 : (truncP d5 4 9).2 = 0 := by decide +kernel
theorem x_6d : (d6.data 4).length = 9 := by decide +kernel

theorem o_3 : openP newD 3 = (d1, 0, []) := by
  unfold openP
  rw [if_neg (show ¬ (syncP newD 3).2 ≠ 0 from fun h => h x_1)]
  show (if (formsP (recs (d1.data 3)).1).length < (d1.data 3).length then _ else (d1, (0 : Int), (recs (d1.data 3)).1)) = _
  rw [x_1d]
  rfl
theorem st_bad : stepP [49, 58, 97, 44, 57, 56, 59] = none := by
  have h1 : textP [49, 58, 97, 44, 57, 56, 59] = some ([97], [57, 56, 59]) := (text_codec _ _ _).2 ⟨by simp, by simp [wText, decDigits]⟩
  have h2 : numP [57, 56, 59] = some (98, []) := (num_codec _ _ _).2 ⟨by simp, by simp [wInt, itoa, decDigits]⟩
  exact step_bad h1 h2 (.inr (by rw [s_a]; decide))
theorem r_16 : recs t16 = ([[97, 98]], [49, 58, 97, 44, 57, 56, 59]) := by
  refine recs_is (ts := [[97, 98]]) ?_ (fun t ht => by simp at ht; subst ht; simp) st_bad
  rw [formsP_cons, f_ab]
  rfl
theorem o_4 : openP d4 4 = (d6, 0, [[97, 98]]) := by
  unfold openP
  rw [if_neg (show ¬ (syncP d4 4).2 ≠ 0 from fun h => h x_5)]
  show (if (formsP (recs (d5.data 4)).1).length < (d5.data 4).length then (if (truncP d5 4 ((formsP (recs (d5.data 4)).1).length : Nat)).2 ≠ 0 then _ else ((truncP d5 4 ((formsP (recs (d5.data 4)).1).length : Nat)).1, (0 : Int), (recs (d5.data 4)).1)) else _) = _
  have hl : (formsP (recs (d5.data 4)).1).length = 9 := by rw [x_5d, r_16, formsP_cons, f_ab]; rfl
  rw [hl, if_pos (by rw [x_5d]; decide), if_neg (show ¬ (truncP d5 4 ((9 : Nat) : Int)).2 ≠ 0 from fun h => h x_6), x_5d, r_16]
  rfl
theorem a_1 : appP d1 3 ⟨[], false⟩ [97, 98] = (d2, ⟨[[97, 98]], false⟩, 0) := by
  unfold appP
  rw [if_neg (by decide), if_neg (by decide), f_ab]
  rw [if_neg (by decide), if_neg (show ¬ (writeP d1 3 ((formsP []).length : Nat) [50, 58, 97, 98, 44, 50, 57, 51, 59]).2 ≠ 0 from fun h => h x_2)]
  rfl
theorem a_2 : appP d2 3 ⟨[[97, 98]], false⟩ [] = (d3, ⟨[[97, 98], []], false⟩, 0) := by
  have hl : (formsP [[97, 98]]).length = 9 := by rw [formsP_cons, f_ab]; rfl
  unfold appP
  rw [if_neg (by decide), if_neg (by decide), f_nil]
  simp only [hl]
  rw [if_neg (by decide), if_neg (show ¬ (writeP d2 3 ((9 : Nat) : Int) [48, 58, 44, 48, 59]).2 ≠ 0 from fun h => h x_3)]
  rfl

end Go.Proofs.YtnnakclmeihonaaDoor
