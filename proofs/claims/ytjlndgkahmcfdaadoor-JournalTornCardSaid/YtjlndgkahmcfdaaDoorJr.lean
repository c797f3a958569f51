/- The walk of records. Conditions: sizes. -/
import Derived.Test.YtjlndgkahmcfdaaDoorJp
import Derived.WalkMore
namespace Go.Proofs.YtjlndgkahmcfdaaDoor
set_option maxRecDepth 8000
open Go.RowKit Go.ChangeMaps

def strV (t : List UInt8) : Value := .string (bStr t)
theorem strV_one (l : List (List UInt8)) : ∀ u ∈ l.map strV, u.oneCell' = true := fun u hu => by
  obtain ⟨t, _, rfl⟩ := List.mem_map.1 hu
  rfl
theorem infoStr : (Tryd.prog.info? 9).map (fun i => (i.zero, i.size, i.bytes)) = some (some (.string ⟨#[]⟩), 1, 16) := by kernel_rfl
theorem RdL.str {w : World} {b : Nat} {l : List UInt8} {f : Bool} (h : RdL w b l f) : Rd w b (bStr l) f := h
theorem bStr_data (l : List UInt8) : (bStr l).data.toList = l := by simp [bStr]
/-- Text and Num of a reader, in these words. -/
theorem t_yes {b : Nat} {l x r : List UInt8} {f : Bool} {w : World} (h : RdL w b l f) (hff : f = true → l = []) (hs : l.length ≤ 9223372036854775807) (ho : textP l = some (x, r)) :
    Calls Tryd.prog 31 #[.pointer (some ⟨b, 0, none⟩)] w fun e w' => e = .returned (.string (bStr x)) ∧ RdL w' b r false ∧ w.grownBy w' (some b) :=
  (text_any b (bStr l) f w h.str (by rw [bStr_data]; exact hff) (by rw [bStr_size]; exact hs)).mono fun e w' hd => by rw [bStr_data, ho] at hd; exact hd
theorem t_no {b : Nat} {l : List UInt8} {f : Bool} {w : World} (h : RdL w b l f) (hff : f = true → l = []) (hs : l.length ≤ 9223372036854775807) (ho : textP l = none) :
    Calls Tryd.prog 31 #[.pointer (some ⟨b, 0, none⟩)] w fun e w' => e = .returned (.string ⟨#[]⟩) ∧ RdL w' b [] true ∧ w.grownBy w' (some b) :=
  (text_any b (bStr l) f w h.str (by rw [bStr_data]; exact hff) (by rw [bStr_size]; exact hs)).mono fun e w' hd => by rw [bStr_data, ho] at hd; exact hd
theorem n_yes {b n : Nat} {l r : List UInt8} {f : Bool} {w : World} (h : RdL w b l f) (hff : f = true → l = []) (hs : l.length ≤ 9223372036854775807) (ho : numP l = some (n, r)) :
    Calls Tryd.prog 32 #[.pointer (some ⟨b, 0, none⟩)] w fun e w' => e = .returned (.int .i64 n) ∧ RdL w' b r false ∧ w.grownBy w' (some b) :=
  (num_any b (bStr l) f w h.str (by rw [bStr_data]; exact hff) (by rw [bStr_size]; exact hs)).mono fun e w' hd => by rw [bStr_data, ho] at hd; exact hd
theorem n_no {b : Nat} {l : List UInt8} {f : Bool} {w : World} (h : RdL w b l f) (hff : f = true → l = []) (hs : l.length ≤ 9223372036854775807) (ho : numP l = none) :
    Calls Tryd.prog 32 #[.pointer (some ⟨b, 0, none⟩)] w fun e w' => e = .returned (.int .i64 0) ∧ RdL w' b [] true ∧ w.grownBy w' (some b) :=
  (num_any b (bStr l) f w h.str (by rw [bStr_data]; exact hff) (by rw [bStr_size]; exact hs)).mono fun e w' hd => by rw [bStr_data, ho] at hd; exact hd
theorem l_any {b : Nat} {l : List UInt8} {f : Bool} {w : World} (h : RdL w b l f) : Calls Tryd.prog 30 #[.pointer (some ⟨b, 0, none⟩)] w fun e w' => e = .returned (.int .i64 l.length) ∧ w = w' := by
  have := left_any b (bStr l) f w h.str
  rw [bStr_size] at this
  exact this
theorem d_any {b : Nat} {l : List UInt8} {f d : Bool} {w : World} (h : RdL w b l f) (hd : (!f && l.isEmpty) = d) : Calls Tryd.prog 94 #[.pointer (some ⟨b, 0, none⟩)] w fun e w' => e = .returned (.bool d) ∧ w = w' := by
  have := done_any b (bStr l) f w h.str
  rw [bStr_data, hd] at this
  exact this
theorem numP_nil : numP [] = none := by decide
theorem textP_nil : textP [] = none := by decide

/-- How records ends. -/
def RecEnd (l : List UInt8) (w : World) (e : Ending) (w' : World) : Prop :=
  ∃ A c, e = .returned (.tuple #[.slice A (recs l).1.length c, .int .i64 ((formsP (recs l).1).length : Nat)]) ∧ w'.ownsRow 0 9 1 (.slice A (recs l).1.length c) (recs l).1.length ((recs l).1.map strV) ∧
    (∀ g, (Value.slice A (recs l).1.length c).ownBlock = some g → w.heap.size ≤ g) ∧ Below w.heap.size w w'
theorem RecEnd.of {l r : List UInt8} {ts : List (List UInt8)} {w w' : World} {A : Option Addr} {c : Nat} (hl : l = formsP ts ++ r) (ht : ∀ t ∈ ts, t.length ≤ 20000) (hr : stepP r = none) (ho : w'.ownsRow 0 9 1 (.slice A ts.length c) ts.length (ts.map strV)) (hn : ∀ g, (Value.slice A ts.length c).ownBlock = some g → w.heap.size ≤ g) (hb : Below w.heap.size w w') :
    RecEnd l w (.returned (.tuple #[.slice A ts.length c, .int .i64 ((formsP ts).length : Nat)])) w' := by
  have e := recs_is hl ht hr
  unfold RecEnd
  rw [e]
  exact ⟨A, c, rfl, ho, hn, hb⟩
theorem step_text {r : List UInt8} (h : textP r = none) : stepP r = none := by unfold stepP; rw [h]
theorem step_num {r t r1 : List UInt8} (h : textP r = some (t, r1)) (h2 : numP r1 = none) : stepP r = none := by unfold stepP; rw [h]; simp only; rw [h2]
theorem step_bad {r t r1 r2 : List UInt8} {n : Nat} (h : textP r = some (t, r1)) (h2 : numP r1 = some (n, r2)) (h3 : 20000 < t.length ∨ n ≠ sumP t) : stepP r = none := by unfold stepP; rw [h]; simp only; rw [h2]; simp only; rw [if_pos h3]
theorem step_good {r t r1 r2 : List UInt8} {n : Nat} (h : textP r = some (t, r1)) (h2 : numP r1 = some (n, r2)) (h3 : ¬ 20000 < t.length) (h4 : n = sumP t) : stepP r = some (t, r2) := by unfold stepP; rw [h]; simp only; rw [h2]; simp only; rw [if_neg (by omega)]
theorem row_grown {w w' : World} {b : Nat} {v : Value} {n : Nat} {xs : List Value} (h : w.ownsRow 0 9 1 v n xs) (hg : w.grownBy w' (some b)) (hne : v.ownBlock ≠ some b) : w'.ownsRow 0 9 1 v n xs := by
  refine ⟨h.1, ?_⟩
  rcases h.2 with hn | ⟨g, cap, cur, rfl, hb, hgg, rest⟩
  · exact .inl hn
  · refine .inr ⟨g, cap, cur, rfl, hb, ?_, rest⟩
    rw [hg.block g (Array.getElem?_eq_some_iff.1 hgg).1 (fun e => hne e)]
    exact hgg

theorem one_new (w : World) (t : List UInt8) : Reads (w.alloc (.cells #[.string (bStr t)] 9)) (w.heap.size + 1) 1 (some ⟨w.heap.size, 0, none⟩) 1 ([t].map strV) := by
  refine ⟨rfl, fun _ => ⟨_, rfl, by simp, fun j u hj => ?_⟩⟩
  have hc := cell_of_row (w.alloc (.cells #[.string (bStr t)] 9)) w.heap.size j _ _ (0, 0) (heap_alloc_new w _)
  rw [show (Addr.mk w.heap.size 0 none).add j = ⟨w.heap.size, j, none⟩ from by simp [Addr.add]; omega, hc]
  simpa [strV] using hj
theorem RdL.alloc {w : World} {b : Nat} {l : List UInt8} {f : Bool} (h : RdL w b l f) (o : Obj) : RdL (w.alloc o) b l f := Blk.alloc h o

set_option maxHeartbeats 4000000 in
theorem j_records (l : List UInt8) (w : World) (hl : l.length ≤ 16777216) : Calls Tryd.prog 57 #[.string (bStr l)] w (RecEnd l w) := by
  obtain ⟨i0, hi, hz0, hz1, hz2⟩ := info_parts infoStr
  have q0 := bStr_size l
  go_enter Tryd.func57, Tryd.ntmps57
  go_wp2_with fail
  go_step3
  go_wp2_with fail
  refine (open_any (bStr l) w).mono ?_
  rintro e w1 ⟨rfl, hr1, b1⟩
  have HR1 : Hid (RdL w1 w.heap.size l false) := hr1
  have HB1 := Lib.hid b1
  have hsz1 : w.heap.size < w1.heap.size := Blk.lt hr1
  clear hr1 b1
  go_wp2_with fail
  go_step3
  go_wp2_with fail
  go_loopw [4, 5] (fun o z wr => ∃ (ts : List (List UInt8)) (r : List UInt8) (A : Option Addr) (c : Nat), o = .slice A ts.length c ∧ z = .int .i64 ((formsP ts).length : Nat) ∧ l = formsP ts ++ r ∧ ts.length ≤ (formsP ts).length ∧ Hid (∀ t ∈ ts, t.length ≤ 20000) ∧ Hid (RdL wr w.heap.size r false) ∧ Hid (wr.ownsRow 0 9 1 (.slice A ts.length c) ts.length (ts.map strV)) ∧ Hid (∀ g, (Value.slice A ts.length c).ownBlock = some g → w.heap.size < g) ∧ Hid (Below w.heap.size w wr)) (fun _ z _ => l.length - (RowKit.intOf z).toNat)
  case atStart => exact ⟨[], l, none, 0, rfl, rfl, rfl, Nat.le_refl _, (fun t h => by cases h), HR1.out, World.ownsRow_nil _ _ _ _, (fun g e => by cases e), HB1.out⟩
  case round =>
    clear HR1 HB1
    obtain ⟨ts, r, A, c, rfl, rfl, hlr, htl, HT, HRD, HO, HFR, HB⟩ := hrel
    have hlen : l.length = (formsP ts).length + r.length := by rw [hlr, List.length_append]
    have hrl : r.length ≤ 9223372036854775807 := by omega
    generalize hfl : (formsP ts).length = F at *
    have hle1 : F + r.length ≤ l.length := by omega
    have hle2 : l.length ≤ F + r.length := by omega
    clear hlen
    have HFL := Lib.hid hfl
    have HLR := Lib.hid hlr
    clear hfl hlr
    cases h1 : textP r with
    | none =>
      have HN1 := Lib.hid h1
      have HSP := Lib.hid (step_text h1)
      clear h1
      go_wp2_with fail
      refine (t_no HRD.out (fun e => by cases e) hrl HN1.out).mono ?_
      rintro e w2 ⟨rfl, hr2, g2⟩
      have HR2 := Lib.hid hr2
      have HO2 := Lib.hid (row_grown HO.out g2 (fun e => by have := HFR.out _ e; omega))
      have HB2 := Lib.hid (grown_below g2 HB.out (Nat.le_refl _))
      clear hr2 g2
      go_wp2_with fail
      refine (n_no HR2.out (fun _ => rfl) (by simp) numP_nil).mono ?_
      rintro e w3 ⟨rfl, hr3, g3⟩
      have HR3 := Lib.hid hr3
      have HO3 := Lib.hid (row_grown HO2.out g3 (fun e => by have := HFR.out _ e; omega))
      have HB3 := Lib.hid (grown_below g3 HB2.out (Nat.le_refl _))
      clear hr3 g3
      go_wp2_with fail
      refine (l_any HR3.out).mono ?_
      rintro e w' ⟨rfl, rfl⟩
      go_wp2_with fail
      refine (d_any HR3.out (d := false) rfl).mono ?_
      rintro e w' ⟨rfl, rfl⟩
      go_wp2_with fail
      rw [Exit.noGoto_ret]
      go_ret2
      rw [← HFL.out]
      exact RecEnd.of HLR.out HT.out HSP.out HO3.out (fun g e => Nat.le_of_lt (HFR.out g e)) HB3.out
    | some q =>
      obtain ⟨t, r1⟩ := q
      have HN1 := Lib.hid h1
      have hr1l : r1.length ≤ r.length := by
        have h5 := ((text_codec r t r1).1 h1).2
        have h6 := congrArg List.length h5
        rw [List.length_append] at h6
        omega
      have htl1 : t.length ≤ r.length := by
        have h5 := ((text_codec r t r1).1 h1).2
        have h6 := congrArg List.length h5
        unfold wText at h6
        simp only [List.length_append, List.length_cons] at h6
        omega
      cases h2 : numP r1 with
      | none =>
        have HN2 := Lib.hid h2
        have HSP := Lib.hid (step_num h1 h2)
        clear h1 h2
        go_wp2_with fail
        refine (t_yes HRD.out (fun e => by cases e) hrl HN1.out).mono ?_
        rintro e w2 ⟨rfl, hr2, g2⟩
        have HR2 := Lib.hid hr2
        have HO2 := Lib.hid (row_grown HO.out g2 (fun e => by have := HFR.out _ e; omega))
        have HB2 := Lib.hid (grown_below g2 HB.out (Nat.le_refl _))
        clear hr2 g2
        go_wp2_with fail
        refine (n_no HR2.out (fun e => by cases e) (by omega) HN2.out).mono ?_
        rintro e w3 ⟨rfl, hr3, g3⟩
        have HR3 := Lib.hid hr3
        have HO3 := Lib.hid (row_grown HO2.out g3 (fun e => by have := HFR.out _ e; omega))
        have HB3 := Lib.hid (grown_below g3 HB2.out (Nat.le_refl _))
        clear hr3 g3
        go_wp2_with fail
        refine (l_any HR3.out).mono ?_
        rintro e w' ⟨rfl, rfl⟩
        go_wp2_with fail
        refine (d_any HR3.out (d := false) rfl).mono ?_
        rintro e w' ⟨rfl, rfl⟩
        go_wp2_with fail
        rw [Exit.noGoto_ret]
        go_ret2
        rw [← HFL.out]
        exact RecEnd.of HLR.out HT.out HSP.out HO3.out (fun g e => Nat.le_of_lt (HFR.out g e)) HB3.out
      | some q2 =>
        obtain ⟨n, r2⟩ := q2
        have HN2 := Lib.hid h2
        have q1 := bStr_size t
        have hnb : n ≤ 9223372036854775807 := ((num_codec r1 n r2).1 h2).1
        have hsl := sumP_lt t
        generalize hsum : sumP t = sm at *
        have hcs : (20000 < t.length ∨ n ≠ sm) ∨ (¬ 20000 < t.length ∧ n = sm) := by omega
        rcases hcs with hbad | ⟨hg1, hg2⟩
        · have HSP := Lib.hid (step_bad h1 h2 (by rw [hsum]; exact hbad))
          have HSUM := Lib.hid hsum
          clear h1 h2 hsum
          have hcs2 : (r2 = [] ∧ 20000 < t.length) ∨ (r2 = [] ∧ ¬ 20000 < t.length ∧ n ≠ sm) ∨ (r2 ≠ [] ∧ 20000 < t.length) ∨ (r2 ≠ [] ∧ ¬ 20000 < t.length ∧ n ≠ sm) := by
            by_cases h5 : r2 = []
            · by_cases h6 : 20000 < t.length
              · exact .inl ⟨h5, h6⟩
              · exact .inr (.inl ⟨h5, h6, hbad.resolve_left h6⟩)
            · by_cases h6 : 20000 < t.length
              · exact .inr (.inr (.inl ⟨h5, h6⟩))
              · exact .inr (.inr (.inr ⟨h5, h6, hbad.resolve_left h6⟩))
          clear hbad
          rcases hcs2 with ⟨h5, h6⟩ | ⟨h5, h6, h7⟩ | ⟨h5, h6⟩ | ⟨h5, h6, h7⟩
          · have h5l : r2.length = 0 := by rw [h5]; rfl
            have h5b : ((r2.length : Int) == 0) = true := by simp [h5l]
            have H5 := Lib.hid h5
            clear h5
            have h6i : (20000 : Int) < (t.length : Int) := by omega
            go_wp2_with fail
            refine (t_yes HRD.out (fun e => by cases e) hrl HN1.out).mono ?_
            rintro e w2 ⟨rfl, hr2, g2⟩
            have HR2 := Lib.hid hr2
            have HO2 := Lib.hid (row_grown HO.out g2 (fun e => by have := HFR.out _ e; omega))
            have HB2 := Lib.hid (grown_below g2 HB.out (Nat.le_refl _))
            clear hr2 g2
            go_wp2_with fail
            refine (n_yes HR2.out (fun e => by cases e) (by omega) HN2.out).mono ?_
            rintro e w3 ⟨rfl, hr3, g3⟩
            have HR3 := Lib.hid hr3
            have HO3 := Lib.hid (row_grown HO2.out g3 (fun e => by have := HFR.out _ e; omega))
            have HB3 := Lib.hid (grown_below g3 HB2.out (Nat.le_refl _))
            clear hr3 g3
            go_wp2_with fail
            refine (l_any HR3.out).mono ?_
            rintro e w' ⟨rfl, rfl⟩
            go_wp2_with fail
            refine (d_any HR3.out (d := true) (by rw [H5.out]; rfl)).mono ?_
            rintro e w' ⟨rfl, rfl⟩
            go_wp2_with fail
            rw [Exit.noGoto_ret]
            go_ret2
            rw [← HFL.out]
            exact RecEnd.of HLR.out HT.out HSP.out HO3.out (fun g e => Nat.le_of_lt (HFR.out g e)) HB3.out
          · have h5l : r2.length = 0 := by rw [h5]; rfl
            have h5b : ((r2.length : Int) == 0) = true := by simp [h5l]
            have H5 := Lib.hid h5
            clear h5
            have h6i : ¬ (20000 : Int) < (t.length : Int) := by omega
            have h7i : ((n : Int) != (sm : Int)) = true := by simpa using (show ¬ (n : Int) = (sm : Int) by omega)
            go_wp2_with fail
            refine (t_yes HRD.out (fun e => by cases e) hrl HN1.out).mono ?_
            rintro e w2 ⟨rfl, hr2, g2⟩
            have HR2 := Lib.hid hr2
            have HO2 := Lib.hid (row_grown HO.out g2 (fun e => by have := HFR.out _ e; omega))
            have HB2 := Lib.hid (grown_below g2 HB.out (Nat.le_refl _))
            clear hr2 g2
            go_wp2_with fail
            refine (n_yes HR2.out (fun e => by cases e) (by omega) HN2.out).mono ?_
            rintro e w3 ⟨rfl, hr3, g3⟩
            have HR3 := Lib.hid hr3
            have HO3 := Lib.hid (row_grown HO2.out g3 (fun e => by have := HFR.out _ e; omega))
            have HB3 := Lib.hid (grown_below g3 HB2.out (Nat.le_refl _))
            clear hr3 g3
            go_wp2_with fail
            refine (l_any HR3.out).mono ?_
            rintro e w' ⟨rfl, rfl⟩
            go_wp2_with fail
            refine (d_any HR3.out (d := true) (by rw [H5.out]; rfl)).mono ?_
            rintro e w' ⟨rfl, rfl⟩
            go_wp2_with fail
            refine (sumB t w3 (by omega)).mono ?_
            rintro e w' ⟨rfl, rfl⟩
            rw [HSUM.out]
            go_wp2_with fail
            rw [Exit.noGoto_ret]
            go_ret2
            rw [← HFL.out]
            exact RecEnd.of HLR.out HT.out HSP.out HO3.out (fun g e => Nat.le_of_lt (HFR.out g e)) HB3.out
          · have h5b : ((r2.length : Int) == 0) = false := by
              have : r2.length ≠ 0 := fun e => h5 (List.eq_nil_of_length_eq_zero e)
              simpa using this
            have h6i : (20000 : Int) < (t.length : Int) := by omega
            go_wp2_with fail
            refine (t_yes HRD.out (fun e => by cases e) hrl HN1.out).mono ?_
            rintro e w2 ⟨rfl, hr2, g2⟩
            have HR2 := Lib.hid hr2
            have HO2 := Lib.hid (row_grown HO.out g2 (fun e => by have := HFR.out _ e; omega))
            have HB2 := Lib.hid (grown_below g2 HB.out (Nat.le_refl _))
            clear hr2 g2
            go_wp2_with fail
            refine (n_yes HR2.out (fun e => by cases e) (by omega) HN2.out).mono ?_
            rintro e w3 ⟨rfl, hr3, g3⟩
            have HR3 := Lib.hid hr3
            have HO3 := Lib.hid (row_grown HO2.out g3 (fun e => by have := HFR.out _ e; omega))
            have HB3 := Lib.hid (grown_below g3 HB2.out (Nat.le_refl _))
            clear hr3 g3
            go_wp2_with fail
            refine (l_any HR3.out).mono ?_
            rintro e w' ⟨rfl, rfl⟩
            go_wp2_with fail
            rw [Exit.noGoto_ret]
            go_ret2
            rw [← HFL.out]
            exact RecEnd.of HLR.out HT.out HSP.out HO3.out (fun g e => Nat.le_of_lt (HFR.out g e)) HB3.out
          · have h5b : ((r2.length : Int) == 0) = false := by
              have : r2.length ≠ 0 := fun e => h5 (List.eq_nil_of_length_eq_zero e)
              simpa using this
            have h6i : ¬ (20000 : Int) < (t.length : Int) := by omega
            have h7i : ((n : Int) != (sm : Int)) = true := by simpa using (show ¬ (n : Int) = (sm : Int) by omega)
            go_wp2_with fail
            refine (t_yes HRD.out (fun e => by cases e) hrl HN1.out).mono ?_
            rintro e w2 ⟨rfl, hr2, g2⟩
            have HR2 := Lib.hid hr2
            have HO2 := Lib.hid (row_grown HO.out g2 (fun e => by have := HFR.out _ e; omega))
            have HB2 := Lib.hid (grown_below g2 HB.out (Nat.le_refl _))
            clear hr2 g2
            go_wp2_with fail
            refine (n_yes HR2.out (fun e => by cases e) (by omega) HN2.out).mono ?_
            rintro e w3 ⟨rfl, hr3, g3⟩
            have HR3 := Lib.hid hr3
            have HO3 := Lib.hid (row_grown HO2.out g3 (fun e => by have := HFR.out _ e; omega))
            have HB3 := Lib.hid (grown_below g3 HB2.out (Nat.le_refl _))
            clear hr3 g3
            go_wp2_with fail
            refine (l_any HR3.out).mono ?_
            rintro e w' ⟨rfl, rfl⟩
            go_wp2_with fail
            refine (sumB t w3 (by omega)).mono ?_
            rintro e w' ⟨rfl, rfl⟩
            rw [HSUM.out]
            go_wp2_with fail
            rw [Exit.noGoto_ret]
            go_ret2
            rw [← HFL.out]
            exact RecEnd.of HLR.out HT.out HSP.out HO3.out (fun g e => Nat.le_of_lt (HFR.out g e)) HB3.out
        · have HSG := Lib.hid (step_good h1 h2 hg1 (by rw [hsum]; exact hg2))
          have HSUM := Lib.hid hsum
          clear h1 h2 hsum
          by_cases h5 : r2 = []
          · have h5l : r2.length = 0 := by rw [h5]; rfl
            have h5b : ((r2.length : Int) == 0) = true := by simp [h5l]
            have H5 := Lib.hid h5
            clear h5
            have h6i : ¬ (20000 : Int) < (t.length : Int) := by omega
            have h7i : ((n : Int) != (sm : Int)) = false := by simp [hg2]
            go_wp2_with fail
            refine (t_yes HRD.out (fun e => by cases e) hrl HN1.out).mono ?_
            rintro e w2 ⟨rfl, hr2, g2⟩
            have HR2 := Lib.hid hr2
            have HO2 := Lib.hid (row_grown HO.out g2 (fun e => by have := HFR.out _ e; omega))
            have HB2 := Lib.hid (grown_below g2 HB.out (Nat.le_refl _))
            clear hr2 g2
            go_wp2_with fail
            refine (n_yes HR2.out (fun e => by cases e) (by omega) HN2.out).mono ?_
            rintro e w3 ⟨rfl, hr3, g3⟩
            have HR3 := Lib.hid hr3
            have HO3 := Lib.hid (row_grown HO2.out g3 (fun e => by have := HFR.out _ e; omega))
            have HB3 := Lib.hid (grown_below g3 HB2.out (Nat.le_refl _))
            clear hr3 g3
            go_wp2_with fail
            refine (l_any HR3.out).mono ?_
            rintro e w' ⟨rfl, rfl⟩
            go_wp2_with fail
            refine (d_any HR3.out (d := true) (by rw [H5.out]; rfl)).mono ?_
            rintro e w' ⟨rfl, rfl⟩
            go_wp2_with fail
            refine (sumB t w3 (by omega)).mono ?_
            rintro e w' ⟨rfl, rfl⟩
            rw [HSUM.out]

            have hsz3 := HB3.out.size
            have HTA := Lib.hid (HB3.out.alloc (by omega) (.cells #[.string (bStr t)] 9))
            have HOA := Lib.hid (own_below HO3.out ((Below.refl w3.heap.size w3).alloc (Nat.le_refl _) (.cells #[.string (bStr t)] 9)) (fun g e => (HO3.out.lt g e).2))
            have HRA : Hid (Reads (w3.alloc (.cells #[.string (bStr t)] 9)) (w3.heap.size + 1) 1 (some ⟨w3.heap.size, 0, none⟩) 1 ([t].map strV)) := one_new w3 t
            have HRDA := Lib.hid (RdL.alloc HR3.out (.cells #[.string (bStr t)] 9))
            go_wp2_with (at_builtin; refine wpList_append_any _ rfl (.tmp 33) (.tmp 35) 32 rfl 0 9 i0 _ 1 16 Tryd.underlying32 hi hz0 hz1 hz2 rfl (by decide) (.slice A ts.length c) ts.length (ts.map strV) rfl HOA.out _ (some ⟨w3.heap.size, 0, none⟩) 1 1 ([t].map strV) rfl HRA.out (strV_one _) (by unfold maxLen; omega) (by omega) (Nat.zero_le _) ?_; intro v' w' p1 p2 p3)
            obtain ⟨A5, c5, rfl, _, _⟩ := own_slice p1
            have HFR5 : Hid (∀ g, (Value.slice A5 (ts.length + 1) c5).ownBlock = some g → w.heap.size < g) := fun g e => by
              rcases p3 with p3 | p3
              · exact HFR.out g (p3 ▸ e)
              · rw [p3] at e; cases e; simp; omega
            have HO5 : Hid (w'.ownsRow 0 9 1 (.slice A5 (ts.length + 1) c5) (ts.length + 1) ((ts ++ [t]).map strV)) := by
              rw [List.map_append]
              exact p1
            have HR5 : Hid (RdL w' w.heap.size r2 false) := Blk.grown HRDA.out p2 (fun e => by have := HFR.out _ e.symm; omega)
            have HB5 : Hid (Below w.heap.size w w') := HTA.out.trans ⟨p2.os, p2.tape, p2.output, p2.size, fun k hk => p2.block k (by have := HTA.out.size; omega) (fun e => by have := HFR.out _ e.symm; omega)⟩
            clear p1 p2 p3
            go_wp2_with fail
            refine (l_any HR5.out).mono ?_
            rintro e w'' ⟨rfl, rfl⟩
            have hlen2 : (formsP (ts ++ [t])).length = l.length - r2.length ∧ r2.length ≤ l.length ∧ F < l.length - r2.length ∧ l = formsP (ts ++ [t]) ++ r2 := by
              have e1 : l = formsP (ts ++ [t]) ++ r2 := by
                rw [formsP_snoc, List.append_assoc, ← (stepP_iff.1 HSG.out).2]
                exact HLR.out
              have e2 := congrArg List.length e1
              have e3 := congrArg List.length (formsP_snoc ts t)
              have e4 := formP_pos t
              have e5 := HFL.out
              rw [List.length_append] at e2 e3
              exact ⟨by omega, by omega, by omega, e1⟩
            obtain ⟨k1, k2, k3, k4⟩ := hlen2
            have HK1 := Lib.hid k1
            have HK4 := Lib.hid k4
            have hk5 : ((l.length : Int) - (r2.length : Int)) = ((l.length - r2.length : Nat) : Int) := by omega
            clear k1 k4
            go_wp2_with fail
            go_roundw
            case rel => exact ⟨ts ++ [t], r2, A5, c5, by rw [List.length_append]; rfl, by first | (rw [HK1.out]; done) | (rw [HK1.out]; congr 1; omega), HK4.out, by rw [List.length_append, HK1.out]; simp; omega, fun q hq => by
              rcases List.mem_append.1 hq with hq | hq
              · exact HT.out q hq
              · simp at hq; subst hq; omega, HR5.out, by rw [List.length_append]; exact HO5.out, by rw [List.length_append]; exact HFR5.out, HB5.out⟩
            case measure => simp [RowKit.intOf]; omega
          · have h5b : ((r2.length : Int) == 0) = false := by
              have : r2.length ≠ 0 := fun e => h5 (List.eq_nil_of_length_eq_zero e)
              simpa using this
            have h6i : ¬ (20000 : Int) < (t.length : Int) := by omega
            have h7i : ((n : Int) != (sm : Int)) = false := by simp [hg2]
            go_wp2_with fail
            refine (t_yes HRD.out (fun e => by cases e) hrl HN1.out).mono ?_
            rintro e w2 ⟨rfl, hr2, g2⟩
            have HR2 := Lib.hid hr2
            have HO2 := Lib.hid (row_grown HO.out g2 (fun e => by have := HFR.out _ e; omega))
            have HB2 := Lib.hid (grown_below g2 HB.out (Nat.le_refl _))
            clear hr2 g2
            go_wp2_with fail
            refine (n_yes HR2.out (fun e => by cases e) (by omega) HN2.out).mono ?_
            rintro e w3 ⟨rfl, hr3, g3⟩
            have HR3 := Lib.hid hr3
            have HO3 := Lib.hid (row_grown HO2.out g3 (fun e => by have := HFR.out _ e; omega))
            have HB3 := Lib.hid (grown_below g3 HB2.out (Nat.le_refl _))
            clear hr3 g3
            go_wp2_with fail
            refine (l_any HR3.out).mono ?_
            rintro e w' ⟨rfl, rfl⟩
            go_wp2_with fail
            refine (sumB t w3 (by omega)).mono ?_
            rintro e w' ⟨rfl, rfl⟩
            rw [HSUM.out]

            have hsz3 := HB3.out.size
            have HTA := Lib.hid (HB3.out.alloc (by omega) (.cells #[.string (bStr t)] 9))
            have HOA := Lib.hid (own_below HO3.out ((Below.refl w3.heap.size w3).alloc (Nat.le_refl _) (.cells #[.string (bStr t)] 9)) (fun g e => (HO3.out.lt g e).2))
            have HRA : Hid (Reads (w3.alloc (.cells #[.string (bStr t)] 9)) (w3.heap.size + 1) 1 (some ⟨w3.heap.size, 0, none⟩) 1 ([t].map strV)) := one_new w3 t
            have HRDA := Lib.hid (RdL.alloc HR3.out (.cells #[.string (bStr t)] 9))
            go_wp2_with (at_builtin; refine wpList_append_any _ rfl (.tmp 33) (.tmp 35) 32 rfl 0 9 i0 _ 1 16 Tryd.underlying32 hi hz0 hz1 hz2 rfl (by decide) (.slice A ts.length c) ts.length (ts.map strV) rfl HOA.out _ (some ⟨w3.heap.size, 0, none⟩) 1 1 ([t].map strV) rfl HRA.out (strV_one _) (by unfold maxLen; omega) (by omega) (Nat.zero_le _) ?_; intro v' w' p1 p2 p3)
            obtain ⟨A5, c5, rfl, _, _⟩ := own_slice p1
            have HFR5 : Hid (∀ g, (Value.slice A5 (ts.length + 1) c5).ownBlock = some g → w.heap.size < g) := fun g e => by
              rcases p3 with p3 | p3
              · exact HFR.out g (p3 ▸ e)
              · rw [p3] at e; cases e; simp; omega
            have HO5 : Hid (w'.ownsRow 0 9 1 (.slice A5 (ts.length + 1) c5) (ts.length + 1) ((ts ++ [t]).map strV)) := by
              rw [List.map_append]
              exact p1
            have HR5 : Hid (RdL w' w.heap.size r2 false) := Blk.grown HRDA.out p2 (fun e => by have := HFR.out _ e.symm; omega)
            have HB5 : Hid (Below w.heap.size w w') := HTA.out.trans ⟨p2.os, p2.tape, p2.output, p2.size, fun k hk => p2.block k (by have := HTA.out.size; omega) (fun e => by have := HFR.out _ e.symm; omega)⟩
            clear p1 p2 p3
            go_wp2_with fail
            refine (l_any HR5.out).mono ?_
            rintro e w'' ⟨rfl, rfl⟩
            have hlen2 : (formsP (ts ++ [t])).length = l.length - r2.length ∧ r2.length ≤ l.length ∧ F < l.length - r2.length ∧ l = formsP (ts ++ [t]) ++ r2 := by
              have e1 : l = formsP (ts ++ [t]) ++ r2 := by
                rw [formsP_snoc, List.append_assoc, ← (stepP_iff.1 HSG.out).2]
                exact HLR.out
              have e2 := congrArg List.length e1
              have e3 := congrArg List.length (formsP_snoc ts t)
              have e4 := formP_pos t
              have e5 := HFL.out
              rw [List.length_append] at e2 e3
              exact ⟨by omega, by omega, by omega, e1⟩
            obtain ⟨k1, k2, k3, k4⟩ := hlen2
            have HK1 := Lib.hid k1
            have HK4 := Lib.hid k4
            have hk5 : ((l.length : Int) - (r2.length : Int)) = ((l.length - r2.length : Nat) : Int) := by omega
            clear k1 k4
            go_wp2_with fail
            go_roundw
            case rel => exact ⟨ts ++ [t], r2, A5, c5, by rw [List.length_append]; rfl, by first | (rw [HK1.out]; done) | (rw [HK1.out]; congr 1; omega), HK4.out, by rw [List.length_append, HK1.out]; simp; omega, fun q hq => by
              rcases List.mem_append.1 hq with hq | hq
              · exact HT.out q hq
              · simp at hq; subst hq; omega, HR5.out, by rw [List.length_append]; exact HO5.out, by rw [List.length_append]; exact HFR5.out, HB5.out⟩
            case measure => simp [RowKit.intOf]; omega

end Go.Proofs.YtjlndgkahmcfdaaDoor
