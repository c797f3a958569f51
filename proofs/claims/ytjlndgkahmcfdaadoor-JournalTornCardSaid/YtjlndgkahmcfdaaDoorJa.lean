/- The walk of Append. Conditions: the disk and the journal are made since a world, and apart; the table of strconv; sizes. -/
import Derived.Test.YtjlndgkahmcfdaaDoorJo
import Derived.StillTailTactics
namespace Go.Proofs.YtjlndgkahmcfdaaDoor
set_option maxRecDepth 8000
open Go.RowKit Go.ChangeMaps

section
variable {W w w' : World} {own own' own2 own2' : Nat → Option Nat} {b bd : Nat} {f : Int} {j j' : Js} {S S' : Ds} {lv : Value}
theorem Jx.turn (h : Jx W w own b bd f j) (hd : ∃ lv, Jn w' own' b bd f lv j') (t : Tr (fun _ => True) w own own' w') : Jx W w' own' b bd f j' := by
  refine ⟨hd, h.below.trans (t.below h.below.size (fun g hg => ?_)), fun g r e => ?_⟩
  · cases e : own g with
    | none => rfl
    | some r => have := h.new g r e; omega
  · by_cases hg : g < w.heap.size
    · rw [t.kept g hg] at e; exact h.new g r e
    · have := h.below.size; omega
/-- The journal's method leaves the disk. -/
theorem Dx.other2 (h : Dx W w own bd S) (ap : Apart own own2) (hb : Below W.heap.size W w') (t : Tr (fun _ => True) w own2 own2' w') : Dx W w' own bd S ∧ Apart own own2' := by
  obtain ⟨h3, h4⟩ := h.da.other ap.symm t
  exact ⟨⟨h3, hb, h.new⟩, h4.symm⟩
theorem Jn.setC (h : Jn w own b bd f lv j) {br : Bool} (t : Tr (fun r => r = 0) w own own w') (hb : Blk w' b 89 #[.pointer (some ⟨bd, 0, none⟩), .int .i64 f, lv, .int .i64 ((formsP j.list).length : Nat), .bool br]) : Jn w' own b bd f lv { j with broken := br } :=
  ⟨hb, h.ob, h.row.keep t (by decide), t.inb⟩
end
theorem list_len : ∀ ts : List (List UInt8), ts.length ≤ (formsP ts).length
  | [] => Nat.le_refl _
  | t :: ts => by
    have := list_len ts
    have h2 := formP_pos t
    rw [formsP_cons, List.length_append, List.length_cons]
    omega

theorem app_bad {W w : World} {own oj : Nat → Option Nat} {bd b : Nat} {f : Int} {S : Ds} {j : Js} (h : Dx W w own bd S) (hj : Jx W w oj b bd f j) (ap : Apart own oj) :
    Dx W (w.setCell ⟨b, 4, none⟩ (.bool true)) own bd S ∧ Jx W (w.setCell ⟨b, 4, none⟩ (.bool true)) oj b bd f { j with broken := true } ∧ w.frozen? ⟨b, 4, none⟩ = false ∧ w.cell? ⟨b, 4, none⟩ = some (.bool j.broken) ∧ Tr (fun _ => True) w oj oj (w.setCell ⟨b, 4, none⟩ (.bool true)) := by
  obtain ⟨lv, hjn⟩ := hj.jn
  have t4 := (Tr.refl (fun r => r = 0) hjn.inb).setOwn (p := ⟨b, 4, none⟩) hjn.ob rfl (.bool true)
  have hj4 := hj.turn ⟨lv, hjn.setC t4 (hjn.blk.set_ 4 (.bool true))⟩ (t4.weak (fun _ _ => trivial))
  exact ⟨(h.other2 ap hj4.below (t4.weak (fun _ _ => trivial))).1, hj4, hjn.blk.frozen 4, hjn.blk.cell 4, t4.weak (fun _ _ => trivial)⟩

/-- What neither the disk nor the journal owns stands, and is owned by neither afterwards. -/
def Far (w : World) (own oj : Nat → Option Nat) (w' : World) (own' oj' : Nat → Option Nat) : Prop :=
  w.heap.size ≤ w'.heap.size ∧ ∀ g, g < w.heap.size → own g = none → oj g = none → w'.heap[g]? = w.heap[g]? ∧ own' g = none ∧ oj' g = none
theorem Far.refl (w : World) (own oj : Nat → Option Nat) : Far w own oj w own oj := ⟨Nat.le_refl _, fun _ _ h1 h2 => ⟨rfl, h1, h2⟩⟩
theorem Far.below {w w' : World} {own oj : Nat → Option Nat} (h : Below w.heap.size w w') : Far w own oj w' own oj := ⟨h.size, fun g hg h1 h2 => ⟨h.block g hg, h1, h2⟩⟩
theorem Far.two {w w1 w2 w3 : World} {own oj o1 j1 o2 j2 : Nat → Option Nat} (h : Far w own oj w1 o1 j1) (t : Tr (fun _ => True) w1 o1 o2 w2) (k : Tr (fun _ => True) w2 j1 j2 w3) : Far w own oj w3 o2 j2 := by
  refine ⟨Nat.le_trans h.1 (Nat.le_trans t.size k.size), fun g hg h1 h2 => ?_⟩
  obtain ⟨e1, e2, e3⟩ := h.2 g hg h1 h2
  have hg1 : g < w1.heap.size := Nat.lt_of_lt_of_le hg h.1
  have hg2 : g < w2.heap.size := Nat.lt_of_lt_of_le hg1 t.size
  have b1 := t.block g hg1 (fun r e => by rw [e2] at e; cases e)
  have b2 := k.block g hg2 (fun r e => by rw [e3] at e; cases e)
  exact ⟨b2.trans (b1.trans e1), (t.kept g hg1).trans e2, (k.kept g hg2).trans e3⟩
/-- How Append ends. -/
def AppEnd (W w : World) (own oj : Nat → Option Nat) (bd b : Nat) (f : Int) (S' : Ds) (j' : Js) (r : Int) (e : Ending) (w' : World) : Prop :=
  ∃ own' oj', e = .returned (.int .i64 r) ∧ Dx W w' own' bd S' ∧ Jx W w' oj' b bd f j' ∧ Apart own' oj' ∧ Far w own oj w' own' oj'

set_option maxHeartbeats 4000000 in
theorem x_app {W w : World} {own oj : Nat → Option Nat} {bd b : Nat} {f : Int} {S : Ds} {j : Js} (h : Dx W w own bd S) (hj : Jx W w oj b bd f j) (ap : Apart own oj) (hT : Tab w) (hsz : (formsP j.list).length ≤ 16777216) (t : List UInt8) (htl : t.length ≤ 9223372036854775807) :
    Calls Tryd.prog 20 #[.pointer (some ⟨b, 0, none⟩), .string (bStr t)] w (AppEnd W w own oj bd b f (appP S f j t).1 (appP S f j t).2.1 (appP S f j t).2.2) := by
  obtain ⟨i0, hi, hz0, hz1, hz2⟩ := info_parts infoStr
  have q0 := bStr_size t
  obtain ⟨lv, hjn⟩ := hj.jn
  have c4 : w.cell? ⟨b, 4, none⟩ = some (.bool j.broken) := hjn.blk.cell 4
  have HD := Lib.hid h
  have HJ := Lib.hid hj
  have HAP := Lib.hid ap
  unfold appP
  cases hbr : j.broken with
  | true =>
    rw [hbr] at c4
    rw [if_pos rfl]
    have HE : Hid (AppEnd W w own oj bd b f S j 7 (.returned (.int .i64 7)) w) := ⟨own, oj, rfl, h, hj, ap, Far.refl _ _ _⟩
    clear h hj ap hjn hT HD HJ HAP
    go_enter Tryd.func20, Tryd.ntmps20
    go_wp2_with fail
    go_ret
    exact HE.out
  | false =>
    rw [hbr] at c4
    rw [if_neg (by decide)]
    by_cases hlong : 20000 < t.length
    · rw [if_pos hlong]
      have hlong' : (20000 : Int) < (t.length : Int) := by omega
      have HE : Hid (AppEnd W w own oj bd b f S j 3 (.returned (.int .i64 3)) w) := ⟨own, oj, rfl, h, hj, ap, Far.refl _ _ _⟩
      clear h hj ap hjn hT HD HJ HAP
      go_enter Tryd.func20, Tryd.ntmps20
      go_wp2_with fail
      go_ret
      exact HE.out
    · rw [if_neg hlong]
      have hlong' : ¬ (20000 : Int) < (t.length : Int) := by omega
      have HFM := Lib.hid (j_form t w (by omega) hT)
      have hfl := formP_len (t := t) htl
      have q1 := bStr_size (formP t)
      have c3 : w.cell? ⟨b, 3, none⟩ = some (.int .i64 ((formsP j.list).length : Nat)) := hjn.blk.cell 3
      have HBL := Lib.hid hjn.blk.lt
      clear h hj ap hjn hT
      generalize hF : (formsP j.list).length = F at *
      have HFF := Lib.hid hF
      have hlst : j.list.length ≤ F := by rw [← hF]; exact list_len _
      clear hF
      by_cases hfull : 1048576 < F + (formP t).length
      · rw [if_pos hfull]
        have hfull' : (1048576 : Int) < (F : Int) + ((formP t).length : Int) := by omega
        go_enter Tryd.func20, Tryd.ntmps20
        go_wp2_with fail
        refine HFM.out.mono ?_
        rintro e w1 ⟨rfl, b1⟩
        have c3b := (b1.cell (p := ⟨b, 3, none⟩) HBL.out).trans c3
        have HE : Hid (AppEnd W w own oj bd b f S j 6 (.returned (.int .i64 6)) w1) := ⟨own, oj, rfl, HD.out.go b1, HJ.out.past b1, HAP.out, Far.below b1⟩
        clear b1 HFM HD HJ HAP
        go_wp2_with fail
        go_ret
        exact HE.out
      · rw [if_neg hfull]
        have hfull' : ¬ (1048576 : Int) < (F : Int) + ((formP t).length : Int) := by omega
        obtain ⟨S1, hS1⟩ : ∃ S1, (writeP S f (F : Nat) (formP t)).1 = S1 := ⟨_, rfl⟩
        obtain ⟨r1, hr1⟩ : ∃ r1, (writeP S f (F : Nat) (formP t)).2 = r1 := ⟨_, rfl⟩
        rw [hS1, hr1]
        have hdata : (bStr (formP t)).data.toList = formP t := bStr_data _
        have HW1 : Hid ((writeP S f (F : Nat) (bStr (formP t)).data.toList).1 = S1) := by rw [hdata]; exact hS1
        have HW2 : Hid ((writeP S f (F : Nat) (bStr (formP t)).data.toList).2 = r1) := by rw [hdata]; exact hr1
        clear hS1 hr1 hdata
        by_cases he : r1 = 0
        · subst he
          rw [if_neg (show ¬ (0 : Int) ≠ 0 by decide)]
          go_enter Tryd.func20, Tryd.ntmps20
          go_wp2_with fail
          refine HFM.out.mono ?_
          rintro e w1 ⟨rfl, b1⟩
          have c3b := (b1.cell (p := ⟨b, 3, none⟩) HBL.out).trans c3
          have H1 := Lib.hid (HD.out.go b1)
          have HJ1 := Lib.hid (HJ.out.past b1)
          obtain ⟨lv1, hjn1⟩ := HJ1.out.jn
          have d0 : w1.cell? ⟨b, 0, none⟩ = some (.pointer (some ⟨bd, 0, none⟩)) := hjn1.blk.cell 0
          have d1 : w1.cell? ⟨b, 1, none⟩ = some (.int .i64 f) := hjn1.blk.cell 1
          have HSS := Lib.hid b1
          clear b1 HFM HD HJ c3 c4 hjn1
          go_wp2_with fail
          go_still_tail 13, (by kernel_rfl)
          change wpList _ _ _ _ _ w1.drew
          go_wp2_with fail
          refine (x_write H1.out.drew (by omega) HW1.out HW2.out).mono ?_
          rintro e w2 ⟨o2, rfl, hx2, t2⟩
          obtain ⟨hj2, ap2⟩ := (HJ1.out.past (Below.refl _ _).drew).other HAP.out hx2.below t2
          have HT2 := Lib.hid t2
          obtain ⟨lv2, hjn2⟩ := hj2.jn
          obtain ⟨Aq, cq, rfl, _, _⟩ := own_slice hjn2.row.1
          have e2 : w2.cell? ⟨b, 2, none⟩ = some (.slice Aq j.list.length cq) := hjn2.blk.cell 2
          have ta := (Tr.refl (fun _ => False) hjn2.inb).alloc (.cells #[.string (bStr t)] 9)
          have HQ3 := Lib.hid (hjn2.row.keep ta (fun h => h))
          have HB3 := Lib.hid (hjn2.blk.alloc (.cells #[.string (bStr t)] 9))
          have HI3 := Lib.hid ta.inb
          have HR3 := Lib.hid (one_new w2 t)
          have HTA := Lib.hid ta
          have HX2 := Lib.hid hx2
          have HJ2 := Lib.hid hj2
          have HAP2 := Lib.hid ap2
          have HJN := Lib.hid hjn2
          clear hx2 t2 hj2 ap2 hjn2 ta H1 HJ1 HAP
          go_wp2_with (at_builtin; refine wpList_append_any _ rfl (.tmp 48) (.tmp 50) 32 rfl 0 9 i0 _ 1 16 Tryd.underlying32 hi hz0 hz1 hz2 rfl (by decide) (.slice Aq j.list.length cq) j.list.length (j.list.map strV) rfl HQ3.out.1 _ (some ⟨w2.heap.size, 0, none⟩) 1 1 ([t].map strV) rfl HR3.out (strV_one _) (by unfold maxLen; omega) (by omega) (Nat.zero_le _) ?_; intro v' w' u1 u2 u3; obtain ⟨A5, c5, rfl, _, _⟩ := own_slice u1; obtain ⟨own5, hrow, tg⟩ := Row.after (R := fun r => r = 1) HQ3.out HI3.out rfl u2 u1 (u3.imp id (fun e => ⟨_, Nat.le_refl _, e⟩)); have hb5 := tg.blkR HB3.out (HTA.out.role HJN.out.blk.lt HJN.out.ob) (by decide); have d5 := hb5.cell 2; have f5 := hb5.frozen 2; have f6 := hb5.frozen 3; have d6 : w'.cell? ⟨b, 3, none⟩ = some (.int .i64 ((formsP j.list).length : Nat)) := hb5.cell 3; rw [HFF.out] at d6; have HB5 := Lib.hid hb5; have HROW := Lib.hid hrow; have HTG := Lib.hid tg; clear u1 u2 u3 hrow tg hb5)
          have hF2 : (formsP (j.list ++ [t])).length = F + (formP t).length := by rw [formsP_snoc, List.length_append, HFF.out]
          have ob5 := HTG.out.role (HTA.out.blk HJN.out.blk (fun _ _ h => h)).lt (HTA.out.role HJN.out.blk.lt HJN.out.ob)
          have S5 := ((Tr.refl (fun r => r = 0) HTG.out.inb).setOwn (p := ⟨b, 2, none⟩) ob5 rfl (.slice A5 (j.list.length + 1) c5)).setOwn (p := ⟨b, 3, none⟩) ob5 rfl (.int .i64 ((F : Int) + ((formP t).length : Int)))
          have hjn5 : Jn ((w'.setCell ⟨b, 2, none⟩ (.slice A5 (j.list.length + 1) c5)).setCell ⟨b, 3, none⟩ (.int .i64 ((F : Int) + ((formP t).length : Int)))) own5 b bd f (.slice A5 (j.list.length + 1) c5) { j with list := j.list ++ [t] } := by
            refine ⟨?_, ob5, ?_, S5.inb⟩
            · have := (HB5.out.set_ 2 (.slice A5 (j.list.length + 1) c5)).set_ 3 (.int .i64 ((F : Int) + ((formP t).length : Int)))
              show Blk _ b _ #[_, _, _, .int .i64 ((formsP (j.list ++ [t])).length : Nat), _]
              rw [hF2, show (((F + (formP t).length : Nat)) : Int) = (F : Int) + ((formP t).length : Int) by omega]
              exact this
            · have hr := HROW.out.keep S5 (by decide)
              show Row _ _ 1 _ 1 _ (j.list ++ [t]).length ((j.list ++ [t]).map strV)
              rw [List.length_append, List.map_append]
              exact hr
          have TT : Tr (fun _ => True) w2 oj own5 ((w'.setCell ⟨b, 2, none⟩ (.slice A5 (j.list.length + 1) c5)).setCell ⟨b, 3, none⟩ (.int .i64 ((F : Int) + ((formP t).length : Int)))) := (HTA.out.weak (fun _ h => h.elim)).trans ((HTG.out.weak (fun _ _ => trivial)).trans (S5.weak (fun _ _ => trivial)))
          have hj5 := HJ2.out.turn ⟨_, hjn5⟩ TT
          obtain ⟨hx5, ap5⟩ := HX2.out.other2 HAP2.out hj5.below TT
          have HE : Hid (AppEnd W w own oj bd b f S1 { j with list := j.list ++ [t] } 0 (.returned (.int .i64 0)) ((w'.setCell ⟨b, 2, none⟩ (.slice A5 (j.list.length + 1) c5)).setCell ⟨b, 3, none⟩ (.int .i64 ((F : Int) + ((formP t).length : Int))))) := ⟨o2, own5, rfl, hx5, hj5, ap5, (Far.below ((HSS.out).drew)).two HT2.out TT⟩
          clear hjn5 TT hj5 hx5 ap5 S5 ob5 hF2 HROW HTG HB5 HJN HAP2 HJ2 HX2 HTA HR3 HI3 HB3 HQ3
          go_wp2_with fail
          go_ret
          have hE := HE.out
          rw [hbr] at hE
          exact hE
        · rw [if_pos he]
          have hb1 : (r1 != 0) = true := by simpa using he
          go_enter Tryd.func20, Tryd.ntmps20
          go_wp2_with fail
          refine HFM.out.mono ?_
          rintro e w1 ⟨rfl, b1⟩
          have c3b := (b1.cell (p := ⟨b, 3, none⟩) HBL.out).trans c3
          have H1 := Lib.hid (HD.out.go b1)
          have HJ1 := Lib.hid (HJ.out.past b1)
          obtain ⟨lv1, hjn1⟩ := HJ1.out.jn
          have d0 : w1.cell? ⟨b, 0, none⟩ = some (.pointer (some ⟨bd, 0, none⟩)) := hjn1.blk.cell 0
          have d1 : w1.cell? ⟨b, 1, none⟩ = some (.int .i64 f) := hjn1.blk.cell 1
          have HSS := Lib.hid b1
          clear b1 HFM HD HJ c3 c4 hjn1
          go_wp2_with fail
          go_still_tail 13, (by kernel_rfl)
          change wpList _ _ _ _ _ w1.drew
          go_wp2_with fail
          refine (x_write H1.out.drew (by omega) HW1.out HW2.out).mono ?_
          rintro e w2 ⟨o2, rfl, hx2, t2⟩
          obtain ⟨hj2, ap2⟩ := (HJ1.out.past (Below.refl _ _).drew).other HAP.out hx2.below t2
          obtain ⟨hx3, hj3, f4, d4, hs3⟩ := app_bad hx2 hj2 ap2
          have HE : Hid (AppEnd W w own oj bd b f S1 { j with broken := true } r1 (.returned (.int .i64 r1)) (w2.setCell ⟨b, 4, none⟩ (.bool true))) := ⟨o2, oj, rfl, hx3, hj3, ap2, (Far.below ((HSS.out).drew)).two t2 hs3⟩
          clear hx2 t2 hj2 ap2 hx3 hj3 hs3 H1 HJ1 HAP
          go_wp2_with fail
          go_ret
          exact HE.out

end Go.Proofs.YtjlndgkahmcfdaaDoor
