/- The walk of the law's small. Conditions: the table of strconv. -/
import Derived.Test.YtjlndgkahmcfdaaDoorJm
namespace Go.Proofs.YtjlndgkahmcfdaaDoor
set_option maxRecDepth 8000
open Go.RowKit Go.ChangeMaps Go.Lib

theorem f_ab : formP [97, 98] = [50, 58, 97, 98, 44, 50, 57, 51, 59] := by simp [formP, wText, wInt, itoa, decDigits, sumP, sumN, atB]
theorem f_nil : formP [] = [48, 58, 44, 48, 59] := by simp [formP, wText, wInt, itoa, decDigits, sumP, sumN]
theorem s_nil : sumP [] = 0 := rfl
theorem s_a : sumP [97] = 97 := by decide
theorem s_ab : sumP [97, 98] = 293 := by decide

def d1 : Ds := (syncP newD 3).1
def d2 : Ds := (writeP d1 3 0 [50, 58, 97, 98, 44, 50, 57, 51, 59]).1
def d3 : Ds := (writeP d2 3 9 [48, 58, 44, 48, 59]).1
def t16 : List UInt8 := [50, 58, 97, 98, 44, 50, 57, 51, 59, 49, 58, 97, 44, 57, 56, 59]
def d4 : Ds := (writeP d3 4 0 t16).1
def d5 : Ds := (syncP d4 4).1
def d6 : Ds := (truncP d5 4 9).1
theorem x_1 : (syncP newD 3).2 = 0 := by decide +kernel
theorem x_1d : d1.data 3 = [] := by decide +kernel
theorem x_2 : (writeP d1 3 0 [50, 58, 97, 98, 44, 50, 57, 51, 59]).2 = 0 := by decide +kernel
theorem x_3 : (writeP d2 3 9 [48, 58, 44, 48, 59]).2 = 0 := by decide +kernel
theorem x_r : readP d3 3 0 99 = ([50, 58, 97, 98, 44, 50, 57, 51, 59, 48, 58, 44, 48, 59], 0) := by decide +kernel
theorem x_4 : (writeP d3 4 0 t16).2 = 0 := by decide +kernel
theorem x_5 : (syncP d4 4).2 = 0 := by decide +kernel
theorem x_5d : d5.data 4 = t16 := by decide +kernel
theorem x_6 : (truncP d5 4 9).2 = 0 := by decide +kernel
theorem x_6d : (d6.data 4).length = 9 := by decide +kernel

theorem o_3 : openP newD 3 = (d1, 0, []) := by
  unfold openP
  rw [if_neg (show ¬ (syncP newD 3).2 ≠ 0 from fun h => h x_1)]
  show (if (formsP (recs (d1.data 3)).1).length < (d1.data 3).length then _ else (d1, (0 : Int), (recs (d1.data 3)).1)) = _
  rw [x_1d]
  rfl
theorem st_bad : stepP [49, 58, 97, 44, 57, 56, 59] = none := by
  have h1 : textP [49, 58, 97, 44, 57, 56, 59] = some ([97], [57, 56, 59]) := (text_codec _ _ _).2 ⟨by simp, by simp [wText, decDigits]⟩
  have h2 : numP [57, 56, 59] = some (98, []) := (num_codec _ _ _).2 ⟨by simp, by simp [wInt, itoa, decDigits]⟩
  exact step_bad h1 h2 (.inr (by rw [s_a]; decide))
theorem r_16 : recs t16 = ([[97, 98]], [49, 58, 97, 44, 57, 56, 59]) := by
  refine recs_is (ts := [[97, 98]]) ?_ (fun t ht => by simp at ht; subst ht; simp) st_bad
  rw [formsP_cons, f_ab]
  rfl
theorem o_4 : openP d4 4 = (d6, 0, [[97, 98]]) := by
  unfold openP
  rw [if_neg (show ¬ (syncP d4 4).2 ≠ 0 from fun h => h x_5)]
  show (if (formsP (recs (d5.data 4)).1).length < (d5.data 4).length then (if (truncP d5 4 ((formsP (recs (d5.data 4)).1).length : Nat)).2 ≠ 0 then _ else ((truncP d5 4 ((formsP (recs (d5.data 4)).1).length : Nat)).1, (0 : Int), (recs (d5.data 4)).1)) else _) = _
  have hl : (formsP (recs (d5.data 4)).1).length = 9 := by rw [x_5d, r_16, formsP_cons, f_ab]; rfl
  rw [hl, if_pos (by rw [x_5d]; decide), if_neg (show ¬ (truncP d5 4 ((9 : Nat) : Int)).2 ≠ 0 from fun h => h x_6), x_5d, r_16]
  rfl
theorem a_1 : appP d1 3 ⟨[], false⟩ [97, 98] = (d2, ⟨[[97, 98]], false⟩, 0) := by
  unfold appP
  rw [if_neg (by decide), if_neg (by decide), f_ab]
  rw [if_neg (by decide), if_neg (show ¬ (writeP d1 3 ((formsP []).length : Nat) [50, 58, 97, 98, 44, 50, 57, 51, 59]).2 ≠ 0 from fun h => h x_2)]
  rfl
theorem a_2 : appP d2 3 ⟨[[97, 98]], false⟩ [] = (d3, ⟨[[97, 98], []], false⟩, 0) := by
  have hl : (formsP [[97, 98]]).length = 9 := by rw [formsP_cons, f_ab]; rfl
  unfold appP
  rw [if_neg (by decide), if_neg (by decide), f_nil]
  simp only [hl]
  rw [if_neg (by decide), if_neg (show ¬ (writeP d2 3 ((9 : Nat) : Int) [48, 58, 44, 48, 59]).2 ≠ 0 from fun h => h x_3)]
  rfl

end Go.Proofs.YtjlndgkahmcfdaaDoor

/- The walk of the law's small. Conditions: the table of strconv. -/
namespace Go.Proofs.YtjlndgkahmcfdaaDoor
set_option maxRecDepth 8000
open Go.RowKit Go.ChangeMaps

section
variable {W w w' : World} {own oj : Nat → Option Nat} {bd b : Nat} {f : Int} {j : Js} {S S' : Ds}
theorem open_ok (h : Dx W w own bd S) (hf0 : 0 ≤ f) (hf1 : f < 16) {ts : List (List UInt8)} (ho : openP S f = (S', 0, ts)) :
    Calls Tryd.prog 16 #[.pointer (some ⟨bd, 0, none⟩), .int .i64 f] w fun e w' => ∃ own' bj oj, e = .returned (.tuple #[.pointer (some ⟨bj, 0, none⟩), .int .i64 0]) ∧ Dx W w' own' bd S' ∧ Jx W w' oj bj bd f ⟨ts, false⟩ ∧ Apart own' oj ∧ Tr (fun _ => True) w own own' w' := by
  have := x_open h hf0 hf1
  rw [ho] at this
  refine this.mono ?_
  rintro e w' ⟨own', hd, t, hc⟩
  rcases hc with ⟨hne, _⟩ | ⟨_, bj, oj, rfl, hj, hap⟩
  · exact absurd rfl hne
  · exact ⟨own', bj, oj, rfl, hd, hj, hap, t⟩
theorem app_ok (h : Dx W w own bd S) (hj : Jx W w oj b bd f j) (ap : Apart own oj) (hT : Tab w) (hsz : (formsP j.list).length ≤ 16777216) {t : List UInt8} (htl : t.length ≤ 9223372036854775807) {j' : Js} {r : Int} (ha : appP S f j t = (S', j', r)) :
    Calls Tryd.prog 20 #[.pointer (some ⟨b, 0, none⟩), .string (bStr t)] w (AppEnd W w own oj bd b f S' j' r) := by
  have := x_app h hj ap hT hsz t htl
  rw [ha] at this
  exact this
theorem sum_ok {t : List UInt8} {n : Nat} (w : World) (ht : t.length ≤ 1000000000) (h : sumP t = n) : Calls Tryd.prog 35 #[.string (bStr t)] w fun e w' => e = .returned (.int .i64 (n : Int)) ∧ w = w' := by
  subst h
  exact sumB t w ht
end
theorem one_reads (w : World) (t : List UInt8) : Reads (w.alloc (.cells #[.string (bStr t)] 9)) (w.heap.size + 1) 1 (some ⟨w.heap.size, 0, none⟩) 1 ([t].map strV) := one_new w t

set_option maxHeartbeats 4000000 in
theorem small_any (w : World) (hT : Tab w) : Calls Tryd.prog 13 #[] w fun e w' => e = .returned (.bool true) ∧ Below w.heap.size w w' := by
  go_enter Tryd.func13, Tryd.ntmps13
  go_wp2_with fail
  refine (x_new (Below.refl w.heap.size w)).mono ?_
  rintro e w1 ⟨bd, o1, rfl, hx1, -, -⟩
  have H1 := Lib.hid hx1
  clear hx1
  go_wp2_with fail
  refine (open_ok H1.out (by decide) (by decide) o_3).mono ?_
  rintro e w2 ⟨o2, bj, oj, rfl, hx2, hj2, ap2, -⟩
  have H2 := Lib.hid hx2
  have J2 := Lib.hid hj2
  have A2 := Lib.hid ap2
  clear hx2 hj2 ap2 H1
  go_wp2_with fail
  refine (app_ok H2.out J2.out A2.out (hT.on H2.out.below) (by decide) (t := [97, 98]) (by simp) a_1).mono ?_
  rintro e w3 ⟨o3, oj3, rfl, hx3, hj3, ap3, -⟩
  have H3 := Lib.hid hx3
  have J3 := Lib.hid hj3
  have A3 := Lib.hid ap3
  clear hx3 hj3 ap3 H2 J2 A2
  go_wp2_with fail
  refine (app_ok H3.out J3.out A3.out (hT.on H3.out.below) (by rw [show (⟨[[97, 98]], false⟩ : Js).list = [[97, 98]] from rfl, formsP_cons, f_ab]; decide) (t := []) (by simp) a_2).mono ?_
  rintro e w4 ⟨o4, oj4, rfl, hx4, hj4, ap4, -⟩
  have H4 := Lib.hid hx4
  have J4 := Lib.hid hj4
  have A4 := Lib.hid ap4
  clear hx4 hj4 ap4 H3 J3 A3
  go_wp2_with fail
  refine (x_read H4.out (by unfold I64; omega) x_r).mono ?_
  rintro e w' ⟨rfl, rfl⟩
  go_wp2_with fail
  refine (x_write H4.out (s' := d4) (r := 0) (by decide) rfl x_4).mono ?_
  rintro e w5 ⟨o5, rfl, hx5, t5⟩
  obtain ⟨hj5, ap5⟩ := J4.out.other A4.out hx5.below t5
  have H5 := Lib.hid hx5
  have J5 := Lib.hid hj5
  have A5 := Lib.hid ap5
  clear hx5 hj5 ap5 t5 H4 J4 A4
  go_wp2_with fail
  refine (open_ok H5.out (by decide) (by decide) o_4).mono ?_
  rintro e w6 ⟨o6, bk, ok, rfl, hx6, hk6, apk, t6⟩
  obtain ⟨hj6, ap6⟩ := J5.out.other A5.out hx6.below t6
  have H6 := Lib.hid hx6
  have J6 := Lib.hid hj6
  have K6 := Lib.hid hk6
  clear hx6 hj6 hk6 ap6 apk t6 H5 J5 A5
  go_wp2_with fail
  refine (sum_ok (t := []) w6 (by simp) s_nil).mono ?_
  rintro e w' ⟨rfl, rfl⟩
  go_wp2_with fail
  refine (sum_ok (t := [97]) w6 (by simp) s_a).mono ?_
  rintro e w' ⟨rfl, rfl⟩
  go_wp2_with fail
  refine (sum_ok (t := [97, 98]) w6 (by simp) s_ab).mono ?_
  rintro e w' ⟨rfl, rfl⟩
  have ha := bStr_toList [50, 58, 97, 98, 44, 50, 57, 51, 59, 48, 58, 44, 48, 59]
  have hb := bStr_toList [97, 98]
  go_wp2_with fail
  refine (x_len J6.out).mono ?_
  rintro e w' ⟨rfl, rfl⟩
  go_wp2_with fail
  refine (x_get J6.out 0 (r := [97, 98]) rfl).mono ?_
  rintro e w' ⟨rfl, rfl⟩
  go_wp2_with fail
  refine (x_all K6.out (by decide)).mono ?_
  rintro e w7 ⟨v7, rfl, ho7, b7, n7⟩
  obtain ⟨A7, c7, rfl, _, _⟩ := own_slice ho7
  have H7 := Lib.hid (H6.out.go b7)
  have R7 : Hid (Reads (w7.alloc (.cells #[.string ⟨#[97, 98]⟩] 9)) w7.heap.size 1 A7 1 ([[97, 98]].map strV)) := (Reads.of_own ho7).alloc (Nat.le_refl _) _
  have R8 : Hid (Reads (w7.alloc (.cells #[.string ⟨#[97, 98]⟩] 9)) (w7.heap.size + 1) 1 (some ⟨w7.heap.size, 0, none⟩) 1 ([[97, 98]].map strV)) := one_reads w7 [97, 98]
  have H8 := Lib.hid (H7.out.alloc (.cells #[.string ⟨#[97, 98]⟩] 9))
  clear ho7 b7 n7 H6 J6 K6 ha hb
  go_wp2_with fail
  refine (same_any A7 _ 1 1 c7 1 _ _ [[97, 98]] [[97, 98]] _ R7.out R8.out (by decide) (by decide) (r := true) (by decide)).mono ?_
  rintro e w9 ⟨rfl, hd9⟩
  have H9 := Lib.hid (H8.out.go hd9.below)
  clear hd9 R7 R8 H7 H8
  go_wp2_with fail
  refine (x_size H9.out (by unfold I64; omega) x_6d).mono ?_
  rintro e w' ⟨rfl, rfl⟩
  have HB := Lib.hid H9.out.below
  clear H9
  go_wp2_with fail
  go_ret
  exact ⟨rfl, HB.out⟩

end Go.Proofs.YtjlndgkahmcfdaaDoor
