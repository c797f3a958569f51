/- The walk of the law JournalReads. Conditions: the table of strconv. -/
import Derived.Test.YtjlndgkahmcfdaaDoorJv
namespace Go.Proofs.YtjlndgkahmcfdaaDoor
set_option maxRecDepth 8000
open Go.RowKit Go.ChangeMaps

theorem bStr_ex (D : List UInt8) (i j : Nat) : (bStr D).extract i j = bStr ((D.drop i).take (j - i)) := by
  have h : ((bStr D).extract i j).data = (bStr ((D.drop i).take (j - i))).data := by
    apply Array.toList_inj.1
    simp [bStr, ByteArray.data_extract, List.extract_eq_take_drop]
  cases h1 : (bStr D).extract i j with
  | mk d1 =>
    rw [h1] at h
    cases h2 : bStr ((D.drop i).take (j - i)) with
    | mk d2 =>
      rw [h2] at h
      simp only at h
      rw [h]
theorem bStr_app (a b : List UInt8) : bStr a ++ bStr b = bStr (a ++ b) := by
  have h : (bStr a ++ bStr b).data = (bStr (a ++ b)).data := by
    apply Array.toList_inj.1
    simp [bStr]
  cases h1 : bStr a ++ bStr b with
  | mk d1 =>
    rw [h1] at h
    cases h2 : bStr (a ++ b) with
    | mk d2 =>
      rw [h2] at h
      simp only at h
      rw [h]
theorem bStr_of (s : ByteArray) : s = bStr s.data.toList := by
  cases s with
  | mk d => simp [bStr]

/-- What Text and Num answer, failing or not. -/
def textT (l : List UInt8) : List UInt8 × List UInt8 × Bool := match textP l with
  | some (t, r) => (t, r, false)
  | none => ([], [], true)
def numT (l : List UInt8) : Nat × List UInt8 × Bool := match numP l with
  | some (n, r) => (n, r, false)
  | none => (0, [], true)
theorem t_any {b : Nat} {l : List UInt8} {f : Bool} {w : World} (h : RdL w b l f) (hff : f = true → l = []) (hs : l.length ≤ 9223372036854775807) {t r : List UInt8} {g : Bool} (ht : textT l = (t, r, g)) :
    Calls Tryd.prog 31 #[.pointer (some ⟨b, 0, none⟩)] w fun e w' => e = .returned (.string (bStr t)) ∧ RdL w' b r g ∧ w.grownBy w' (some b) := by
  cases ho : textP l with
  | none =>
    unfold textT at ht
    rw [ho] at ht
    cases ht
    exact t_no h hff hs ho
  | some q =>
    obtain ⟨t', r'⟩ := q
    unfold textT at ht
    rw [ho] at ht
    cases ht
    exact t_yes h hff hs ho
theorem n_any {b : Nat} {l : List UInt8} {f : Bool} {w : World} (h : RdL w b l f) (hff : f = true → l = []) (hs : l.length ≤ 9223372036854775807) {n : Nat} {r : List UInt8} {g : Bool} (ht : numT l = (n, r, g)) :
    Calls Tryd.prog 32 #[.pointer (some ⟨b, 0, none⟩)] w fun e w' => e = .returned (.int .i64 n) ∧ RdL w' b r g ∧ w.grownBy w' (some b) := by
  cases ho : numP l with
  | none =>
    unfold numT at ht
    rw [ho] at ht
    cases ht
    exact n_no h hff hs ho
  | some q =>
    obtain ⟨n', r'⟩ := q
    unfold numT at ht
    rw [ho] at ht
    cases ht
    exact n_yes h hff hs ho
theorem textT_len {l t r : List UInt8} {g : Bool} (h : textT l = (t, r, g)) : t.length ≤ l.length ∧ r.length ≤ l.length ∧ (g = true → r = []) := by
  unfold textT at h
  cases ho : textP l with
  | none =>
    rw [ho] at h
    cases h
    exact ⟨by simp, by simp, fun _ => rfl⟩
  | some q =>
    obtain ⟨t', r'⟩ := q
    rw [ho] at h
    cases h
    have h5 := congrArg List.length ((text_codec l t r).1 ho).2
    unfold wText at h5
    simp only [List.length_append, List.length_cons] at h5
    exact ⟨by omega, by omega, fun e => by cases e⟩
theorem numT_le {l r : List UInt8} {n : Nat} {g : Bool} (h : numT l = (n, r, g)) : n ≤ 9223372036854775807 := by
  unfold numT at h
  cases ho : numP l with
  | none => rw [ho] at h; cases h; omega
  | some q =>
    obtain ⟨n', r'⟩ := q
    rw [ho] at h
    cases h
    exact ((num_codec l n r).1 ho).1
/-- The loop of the law breaks where no record stands; else it reads it. -/
theorem law_step {rest t r1 r2 : List UInt8} {n : Nat} {g1 g2 : Bool} (h1 : textT rest = (t, r1, g1)) (h2 : numT r1 = (n, r2, g2)) (hl : rest.length ≤ 300) :
    ((n = sumP t ∧ (wText t ++ wInt n).length ≤ rest.length ∧ rest.take (wText t ++ wInt n).length = wText t ++ wInt n) → stepP rest = some (t, r2) ∧ g2 = false) ∧
    (¬ (n = sumP t ∧ (wText t ++ wInt n).length ≤ rest.length ∧ rest.take (wText t ++ wInt n).length = wText t ++ wInt n) → stepP rest = none) := by
  have key : ∀ t' r', stepP rest = some (t', r') → t' = t ∧ r' = r2 ∧ n = sumP t ∧ g2 = false := fun t' r' hs => by
    obtain ⟨ha, hb⟩ := stepP_iff.1 hs
    have hs1 := sumP_lt t'
    have e1 : textP rest = some (t', wInt (sumP t') ++ r') := (text_codec _ _ _).2 ⟨by show t'.length ≤ _; omega, by rw [hb]; unfold formP; rw [List.append_assoc]⟩
    have e2 : numP (wInt (sumP t') ++ r') = some (sumP t', r') := (num_codec _ _ _).2 ⟨by show sumP t' ≤ _; omega, rfl⟩
    unfold textT at h1
    rw [e1] at h1
    cases h1
    unfold numT at h2
    rw [e2] at h2
    cases h2
    exact ⟨rfl, rfl, rfl, rfl⟩
  constructor
  · rintro ⟨ha, hb, hc⟩
    have htl := (textT_len h1).1
    have hst : stepP rest = some (t, rest.drop (wText t ++ wInt n).length) := stepP_iff.2 ⟨by omega, by
      have e := List.take_append_drop (wText t ++ wInt n).length rest
      rw [hc] at e
      unfold formP
      rw [← ha]
      exact e.symm⟩
    obtain ⟨-, k2, -, k4⟩ := key _ _ hst
    rw [hst, k2]
    exact ⟨rfl, k4⟩
  · intro hn
    cases hs : stepP rest with
    | none => rfl
    | some q =>
      obtain ⟨t', r'⟩ := q
      obtain ⟨k1, k2, k3, k4⟩ := key _ _ hs
      subst k1
      obtain ⟨ha, hb⟩ := stepP_iff.1 hs
      refine absurd ⟨k3, ?_, ?_⟩ hn
      · have := congrArg List.length hb
        unfold formP at this
        rw [List.length_append, ← k3] at this
        omega
      · rw [hb]
        unfold formP
        rw [← k3]
        exact List.take_left' rfl
theorem w_text {t : List UInt8} {w : World} (ht : t.length ≤ 1000000) (hT : Tab w) : Calls Tryd.prog 33 #[.string (bStr t)] w fun e w' => e = .returned (.string (bStr (wText t))) ∧ Below w.heap.size w w' := by
  have := wText_any (bStr t) (by rw [bStr_size]; omega) w hT
  rw [bStr_data] at this
  exact this
theorem w_num {n : Nat} {w : World} (hn : n ≤ 9223372036854775807) (hT : Tab w) : Calls Tryd.prog 34 #[.int .i64 (n : Int)] w fun e w' => e = .returned (.string (bStr (wInt n))) ∧ Below w.heap.size w w' := by
  have := wNum_any (n : Int) (by omega) (by omega) w hT
  rw [if_neg (by omega)] at this
  exact this
theorem RdL.below {w w' : World} {b : Nat} {l : List UInt8} {f : Bool} (h : RdL w b l f) (hb : Below w.heap.size w w') : RdL w' b l f := Blk.below h hb (Blk.lt h)
/-- A row that a disk does not own. -/
theorem Reads.free {w w' : World} {own own' : Nat → Option Nat} {B size n : Nat} {A : Option Addr} {xs : List Value} (h : Reads w B size A n xs) (ho : 0 < n → ∀ ad, A = some ad → own ad.block = none) (t : Tr (fun _ => True) w own own' w') : Reads w' B size A n xs := by
  refine ⟨h.1, fun hp => ?_⟩
  obtain ⟨ad, e, h1, h2⟩ := h.2 hp
  exact ⟨ad, e, h1, fun j u hj => t.cell (h2 j u hj) (fun r e2 => by rw [block_of_add, ho hp ad e] at e2; cases e2)⟩
theorem own_free {w : World} {e n : Nat} {A : Option Addr} {c : Nat} {xs : List Value} {P : Nat → Prop} (h : w.ownsRow 0 e 1 (.slice A n c) n xs) (hP : ∀ g, (Value.slice A n c).ownBlock = some g → P g) : 0 < n → ∀ ad, A = some ad → P ad.block := fun hp ad e => by
  subst e
  obtain ⟨g, c', hv, _, _⟩ := own_some h rfl hp
  injection hv with hA _ _
  injection hA with hA
  subst hA
  exact hP g rfl

theorem reads_lt {w w' : World} {B n : Nat} {A : Option Addr} {xs : List Value} (h : Reads w B 1 A n xs) (hb : Below w.heap.size w w') : Reads w' w.heap.size 1 A n xs := by
  refine ⟨h.1, fun hp => ?_⟩
  obtain ⟨ad, e, h1, h2⟩ := h.2 hp
  have hlt : ∀ j u, xs[j]? = some u → ad.block < w.heap.size := fun j u hj => by
    have := World.block_lt_of_cell? w (ad.add j) (h2 j u hj)
    rwa [block_of_add] at this
  refine ⟨ad, e, ?_, fun j u hj => (hb.cell (p := ad.add j) (by rw [block_of_add]; exact hlt j u hj)).trans (h2 j u hj)⟩
  have hx : 0 < xs.length := by rw [h.1]; omega
  exact hlt 0 xs[0] (List.getElem?_eq_getElem hx)

set_option maxHeartbeats 8000000 in
theorem reads_walk (s : ByteArray) (w : World) (hT : Tab w) (hs : s.size ≤ 9223372036854775807) :
    Calls Tryd.prog 5 #[.string s] w fun e w' => e = .returned (.bool true) ∧ Below w.heap.size w w' := by
  have HS := Lib.hid (small_any w hT)
  by_cases hbig : 300 < s.size
  · have hbig' : (300 : Int) < (s.size : Int) := by omega
    go_enter Tryd.func5, Tryd.ntmps5
    go_wp2_with fail
    refine HS.out.mono ?_
    rintro e w1 ⟨rfl, b1⟩
    have HB := Lib.hid b1
    clear b1
    go_wp2_with fail
    go_ret
    exact ⟨rfl, HB.out⟩
  · obtain ⟨l, hsl⟩ : ∃ l, s = bStr l := ⟨_, bStr_of s⟩
    subst hsl
    have q0 := bStr_size l
    rw [q0] at hbig hs
    have hl : l.length ≤ 300 := by omega
    have hbig' : ¬ (300 : Int) < (l.length : Int) := by omega
    have hf7 : I64 7 := by unfold I64; omega
    obtain ⟨S1, hw1, hc1, hd1⟩ := first_write hl
    obtain ⟨ts, r, hrec⟩ : ∃ ts r, recs l = (ts, r) := ⟨_, _, rfl⟩
    obtain ⟨hls, htl, hst⟩ := recs_end l
    rw [hrec] at hls htl hst
    replace hls : l = formsP ts ++ r := hls
    replace htl : ∀ t ∈ ts, t.length ≤ 20000 := htl
    replace hst : stepP r = none := hst
    obtain ⟨S2, ho2, hc2, hd2, -⟩ := calm_open hc1 (f := 7) (by decide) (ts := ts) (r := r) (by rw [hd1]; exact hrec)
    obtain ⟨S3, ho3, hc3, hd3, -⟩ := calm_open hc2 (f := 7) (by decide) (ts := ts) (r := []) (by rw [hd2]; exact recs_forms htl)
    have hr2 : readP S2 7 0 ((formsP ts).length : Nat) = (formsP ts, 0) := by have := calm_read hc2 (f := 7) (by decide); rwa [hd2] at this
    have hr3 : readP S3 7 0 ((formsP ts).length : Nat) = (formsP ts, 0) := by have := calm_read hc3 (f := 7) (by decide); rwa [hd3] at this
    have hN : (formsP ts).length ≤ l.length := by have := congrArg List.length hls; rw [List.length_append] at this; omega
    have hex0 : (bStr l).extract 0 (formsP ts).length = bStr (formsP ts) := by
      rw [bStr_ex, List.drop_zero, Nat.sub_zero]
      congr 1
      rw [hls]
      exact List.take_left' rfl
    have htn := list_len ts
    have HW1 : Hid ((writeP newD 7 0 (bStr l).data.toList).1 = S1) := by rw [bStr_data, hw1]; exact rfl
    have HW2 : Hid ((writeP newD 7 0 (bStr l).data.toList).2 = 0) := by rw [bStr_data, hw1]; exact rfl
    have HO2 := Lib.hid ho2
    have HO3 := Lib.hid ho3
    have HR2 := Lib.hid hr2
    have HR3 := Lib.hid hr3
    have HD2 := Lib.hid (congrArg List.length hd2)
    have HD3 := Lib.hid (congrArg List.length hd3)
    have HREC := Lib.hid hrec
    clear hw1 hc1 hd1 hst htl hls ho2 hc2 hd2 ho3 hc3 hd3 hr2 hr3 hrec
    go_enter Tryd.func5, Tryd.ntmps5
    go_wp2_with fail
    refine HS.out.mono ?_
    rintro e w1 ⟨rfl, b1⟩
    have HB := Lib.hid b1
    clear b1 HS
    go_wp2_with fail
    refine (x_new HB.out).mono ?_
    rintro e w2 ⟨bd, o2, rfl, hx2, -, -⟩
    have H2 := Lib.hid hx2
    clear hx2 HB
    go_wp2_with fail
    refine (x_write H2.out (by rw [q0]; omega) HW1.out HW2.out).mono ?_
    rintro e w3 ⟨o3, rfl, hx3, -⟩
    have H3 := Lib.hid hx3
    clear hx3 H2 HW1 HW2
    go_wp2_with fail
    refine (open_ok H3.out (by decide) (by decide) HO2.out).mono ?_
    rintro e w4 ⟨o4, bj, oj, rfl, hx4, hj4, ap4, -⟩
    have H4 := Lib.hid hx4
    have J4 := Lib.hid hj4
    clear hx4 hj4 ap4 H3 HO2
    go_wp2_with fail
    refine (x_all J4.out (show ts.length ≤ 1073741824 by omega)).mono ?_
    rintro e w5 ⟨v5, rfl, ho5, b5, n5⟩
    obtain ⟨A5, c5, rfl, _, _⟩ := own_slice ho5
    have H5 := Lib.hid (H4.out.go b5)
    have R5 : Hid (Reads w5 w5.heap.size 1 A5 ts.length (ts.map strV)) := Reads.of_own ho5
    have F5 : Hid (0 < ts.length → ∀ ad, A5 = some ad → o4 ad.block = none) := own_free (P := fun g => o4 g = none) ho5 (fun g e => own_none H4.out.da.inb (n5 g e))
    clear ho5 b5 n5 H4 J4
    go_wp2_with fail
    refine (open_any (bStr l) w5).mono ?_
    rintro e w6 ⟨rfl, hr6, b6⟩
    have HR6 : Hid (RdL w6 w5.heap.size l false) := hr6
    have HB6 := Lib.hid b6
    have hsz6 : w5.heap.size < w6.heap.size := Blk.lt hr6
    clear hr6 b6
    go_wp2_with fail
    go_loopw [9, 10] (fun o z wr => ∃ (us : List (List UInt8)) (rest : List UInt8) (A : Option Addr) (c : Nat), o = .slice A us.length c ∧ z = .int .i64 ((formsP us).length : Nat) ∧ l = formsP us ++ rest ∧ us.length ≤ (formsP us).length ∧ Hid (∀ t ∈ us, t.length ≤ 20000) ∧ Hid (RdL wr w5.heap.size rest false) ∧ Hid (wr.ownsRow 0 9 1 (.slice A us.length c) us.length (us.map strV)) ∧ Hid (∀ g, (Value.slice A us.length c).ownBlock = some g → w5.heap.size < g) ∧ Hid (Below w5.heap.size w5 wr)) (fun _ z _ => l.length - (RowKit.intOf z).toNat)
    case atStart => exact ⟨[], l, none, 0, rfl, rfl, rfl, Nat.le_refl _, (fun t h => by cases h), HR6.out, World.ownsRow_nil _ _ _ _, (fun g e => by cases e), HB6.out⟩
    case round =>
      clear HR6 HB6
      obtain ⟨us, rest, A, c, rfl, rfl, hlr, hul, HT, HRD, HO, HFR, HB⟩ := hrel
      have hlen : l.length = (formsP us).length + rest.length := by have := congrArg List.length hlr; rw [List.length_append] at this; exact this
      by_cases hrest : rest.length = 0
      · have hr0 : rest = [] := List.eq_nil_of_length_eq_zero hrest
        have hus : us = ts ∧ r = [] := by
          have := recs_is hlr HT.out (by rw [hr0]; exact stepP_nil)
          rw [HREC.out, hr0] at this
          cases this
          exact ⟨rfl, rfl⟩
        obtain ⟨rfl, -⟩ := hus
        have hrest' : ¬ (0 : Int) < (rest.length : Int) := by omega
        clear hlr hlen hr0
        go_wp2_with fail
        refine (l_any HRD.out).mono ?_
        rintro e w' ⟨rfl, rfl⟩
        have HX := Lib.hid (H5.out.go HB.out)
        have FX : Hid (0 < us.length → ∀ ad, A = some ad → o4 ad.block = none) := own_free (P := fun g => o4 g = none) HO.out (fun g e => own_none H5.out.da.inb (Nat.le_of_lt (HFR.out g e)))
        have RX := Lib.hid (R5.out.below HB.out)
        have QX := Lib.hid (Reads.of_own HO.out)
        go_wp2_with fail
        refine (x_size HX.out hf7 HD2.out).mono ?_
        rintro e w' ⟨rfl, rfl⟩
        go_wp2_with fail
        refine (x_read HX.out hf7 HR2.out).mono ?_
        rintro e w' ⟨rfl, rfl⟩
        go_wp2_with fail
        refine (open_ok HX.out (by decide) (by decide) HO3.out).mono ?_
        rintro e w7 ⟨o7, bk, ok, rfl, hx7, hk7, ap7, t7⟩
        have H7 := Lib.hid hx7
        have K7 := Lib.hid hk7
        have R7 := Lib.hid (RX.out.free F5.out t7)
        have Q7 := Lib.hid (QX.out.free FX.out t7)
        clear hx7 hk7 ap7 t7
        go_wp2_with fail
        refine (x_size H7.out hf7 HD3.out).mono ?_
        rintro e w' ⟨rfl, rfl⟩
        go_wp2_with fail
        refine (x_read H7.out hf7 HR3.out).mono ?_
        rintro e w' ⟨rfl, rfl⟩
        have hbl := bStr_toList (formsP us)
        go_wp2_with fail
        refine (same_any A5 A us.length us.length c5 c _ _ us us w7 R7.out Q7.out (by omega) (by omega) (r := true) (by simp)).mono ?_
        rintro e w8 ⟨rfl, hd8⟩
        have H8 := Lib.hid (H7.out.go hd8.below)
        have K8 := Lib.hid (K7.out.past hd8.below)
        have Q8 : Hid (Reads w8 wr.heap.size 1 A us.length (us.map strV)) := by obtain ⟨d, rfl⟩ := hd8; exact Q7.out
        clear hd8
        go_wp2_with fail
        refine (x_all K8.out (show us.length ≤ 1073741824 by omega)).mono ?_
        rintro e w9 ⟨v9, rfl, ho9, b9, n9⟩
        obtain ⟨A9, c9, rfl, _, _⟩ := own_slice ho9
        have H9 := Lib.hid (H8.out.go b9)
        have R9 := Lib.hid (Reads.of_own ho9)
        have Q9 : Hid (Reads w9 w8.heap.size 1 A us.length (us.map strV)) := reads_lt Q8.out b9
        clear ho9 b9 n9
        go_wp2_with fail
        refine (same_any A9 A us.length us.length c9 c _ _ us us w9 R9.out Q9.out (by omega) (by omega) (r := true) (by simp)).mono ?_
        rintro e w10 ⟨rfl, hd10⟩
        have HE := Lib.hid (H9.out.go hd10.below).below
        clear hd10
        go_wp2_with fail
        go_ret
        exact ⟨rfl, HE.out⟩
      · have hrest' : (0 : Int) < (rest.length : Int) := by omega
        obtain ⟨t, r1, g1, h1⟩ : ∃ t r1 g1, textT rest = (t, r1, g1) := ⟨_, _, _, rfl⟩
        obtain ⟨n, r2, g2, h2⟩ : ∃ n r2 g2, numT r1 = (n, r2, g2) := ⟨_, _, _, rfl⟩
        obtain ⟨k1, k2, k3⟩ := textT_len h1
        have k4 := numT_le h2
        obtain ⟨hgo, hstop⟩ := law_step h1 h2 (by omega)
        have HT1 := Lib.hid h1
        have HT2 := Lib.hid h2
        have HK3 := Lib.hid k3
        have hsl := sumP_lt t
        have hwt := wText_len (t := t) (by omega)
        have hwi := wInt_len (n := (n : Int)) (by omega) (by omega)
        have hfl : (wText t ++ wInt (n : Int)).length ≤ 400 := by rw [List.length_append]; omega
        have hap := bStr_app (wText t) (wInt (n : Int))
        have q3 := bStr_size (wText t)
        have q4 := bStr_size (wInt (n : Int))
        have q2 := bStr_size (wText t ++ wInt (n : Int))
        have HTX := Lib.hid (rfl : wText t ++ wInt (n : Int) = wText t ++ wInt (n : Int))
        obtain ⟨fm, hfm⟩ : ∃ fm, wText t ++ wInt (n : Int) = fm := ⟨_, rfl⟩
        rw [hfm] at hgo hstop hfl hap q2
        obtain ⟨m, hm⟩ : ∃ m, fm.length = m := ⟨_, rfl⟩
        rw [hm] at hgo hstop hfl q2
        obtain ⟨sm, hsm⟩ : ∃ sm, sumP t = sm := ⟨_, rfl⟩
        rw [hsm] at hgo hstop
        have HSM := Lib.hid hsm
        generalize hF : (formsP us).length = F at *
        have HFF := Lib.hid hF
        have hlt1 : F + rest.length ≤ l.length := by omega
        have hlt2 : l.length ≤ F + rest.length := by omega
        have hcut : (l.drop F).take m = rest.take m := by
          rw [hlr, ← hF]
          congr 1
          exact List.drop_left' rfl
        have hex : (bStr l).extract F (F + m) = bStr (rest.take m) := by rw [bStr_ex, show F + m - F = m from by omega, hcut]
        have HFM := Lib.hid hfm
        have HM := Lib.hid hm
        have HLR := Lib.hid hlr
        have hb0 := bStr_toList fm
        have hb1 := bStr_toList (rest.take m)
        have htn2 : ((F : Int) + (m : Int)).toNat = F + m := by omega
        clear h1 h2 k3 hlr hlen hfm hsm hF hcut HTX hm
        have hcs : (n ≠ sm) ∨ (n = sm ∧ l.length < F + m) ∨ (n = sm ∧ ¬ l.length < F + m ∧ rest.take m ≠ fm) ∨ (n = sm ∧ ¬ l.length < F + m ∧ rest.take m = fm) := by
          by_cases c1 : n = sm
          · by_cases c2 : l.length < F + m
            · exact .inr (.inl ⟨c1, c2⟩)
            · by_cases c3 : rest.take m = fm
              · exact .inr (.inr (.inr ⟨c1, c2, c3⟩))
              · exact .inr (.inr (.inl ⟨c1, c2, c3⟩))
          · exact .inl c1
        rcases hcs with c1 | ⟨c1, c2⟩ | ⟨c1, c2, c3⟩ | ⟨c1, c2, c3⟩
        · have c1i : ((n : Int) != (sm : Int)) = true := by simpa using (show ¬ (n : Int) = (sm : Int) by omega)
          go_wp2_with fail
          refine (l_any HRD.out).mono ?_
          rintro e w' ⟨rfl, rfl⟩
          go_wp2_with fail
          refine (t_any HRD.out (fun e => by cases e) (by omega) HT1.out).mono ?_
          rintro e wa ⟨rfl, ra, ga⟩
          have RA := Lib.hid ra
          have OA := Lib.hid (row_grown HO.out ga (fun e => by have := HFR.out _ e; omega))
          have BA := Lib.hid (grown_below ga HB.out (Nat.le_refl _))
          clear ra ga
          go_wp2_with fail
          refine (n_any RA.out HK3.out (by omega) HT2.out).mono ?_
          rintro e wb ⟨rfl, rb, gb⟩
          have RB := Lib.hid rb
          have OB := Lib.hid (row_grown OA.out gb (fun e => by have := HFR.out _ e; omega))
          have BB := Lib.hid (grown_below gb BA.out (Nat.le_refl _))
          clear rb gb
          go_wp2_with fail
          refine (w_text (t := t) (by omega) (hT.on (H5.out.go BB.out).below)).mono ?_
          rintro e wc ⟨rfl, bc⟩
          have RC := Lib.hid (RB.out.below bc)
          have OC := Lib.hid (own_below OB.out bc (fun g e => (OB.out.lt g e).2))
          have BC : Hid (Below w5.heap.size w5 wc) := BB.out.trans (bc.mono BB.out.size)
          clear bc
          go_wp2_with fail
          refine (w_num (n := n) k4 (hT.on (H5.out.go BC.out).below)).mono ?_
          rintro e we ⟨rfl, be⟩
          have RE := Lib.hid (RC.out.below be)
          have OE := Lib.hid (own_below OC.out be (fun g e => (OC.out.lt g e).2))
          have BE : Hid (Below w5.heap.size w5 we) := BC.out.trans (be.mono BC.out.size)
          clear be
          go_wp2_with fail
          refine (sum_ok (t := t) we (by omega) HSM.out).mono ?_
          rintro e w' ⟨rfl, rfl⟩
          have hus : us = ts := by
            have := recs_is HLR.out HT.out (hstop (fun h => c1 h.1))
            rw [HREC.out] at this
            cases this
            rfl
          subst hus
          clear hgo hstop
          have hexF : (bStr l).extract 0 F = bStr (formsP us) := by rw [← HFF.out]; exact hex0
          have HX := Lib.hid (H5.out.go BE.out)
          have FX : Hid (0 < us.length → ∀ ad, A = some ad → o4 ad.block = none) := own_free (P := fun g => o4 g = none) OE.out (fun g e => own_none H5.out.da.inb (Nat.le_of_lt (HFR.out g e)))
          have RX := Lib.hid (R5.out.below BE.out)
          have QX := Lib.hid (Reads.of_own OE.out)
          go_wp2_with fail
          refine (x_size HX.out hf7 HD2.out).mono ?_
          rintro e w' ⟨rfl, rfl⟩
          go_wp2_with fail
          refine (x_read HX.out hf7 HR2.out).mono ?_
          rintro e w' ⟨rfl, rfl⟩
          go_wp2_with fail
          refine (open_ok HX.out (by decide) (by decide) HO3.out).mono ?_
          rintro e w7 ⟨o7, bk, ok, rfl, hx7, hk7, ap7, t7⟩
          have H7 := Lib.hid hx7
          have K7 := Lib.hid hk7
          have R7 := Lib.hid (RX.out.free F5.out t7)
          have Q7 := Lib.hid (QX.out.free FX.out t7)
          clear hx7 hk7 ap7 t7
          go_wp2_with fail
          refine (x_size H7.out hf7 HD3.out).mono ?_
          rintro e w' ⟨rfl, rfl⟩
          go_wp2_with fail
          refine (x_read H7.out hf7 HR3.out).mono ?_
          rintro e w' ⟨rfl, rfl⟩
          have hbl := bStr_toList (formsP us)
          go_wp2_with fail
          refine (same_any A5 A us.length us.length c5 c _ _ us us w7 R7.out Q7.out (by omega) (by omega) (r := true) (by simp)).mono ?_
          rintro e w8 ⟨rfl, hd8⟩
          have H8 := Lib.hid (H7.out.go hd8.below)
          have K8 := Lib.hid (K7.out.past hd8.below)
          have Q8 : Hid (Reads w8 we.heap.size 1 A us.length (us.map strV)) := by obtain ⟨d, rfl⟩ := hd8; exact Q7.out
          clear hd8
          go_wp2_with fail
          refine (x_all K8.out (show us.length ≤ 1073741824 by omega)).mono ?_
          rintro e w9 ⟨v9, rfl, ho9, b9, n9⟩
          obtain ⟨A9, c9, rfl, _, _⟩ := own_slice ho9
          have H9 := Lib.hid (H8.out.go b9)
          have R9 := Lib.hid (Reads.of_own ho9)
          have Q9 : Hid (Reads w9 w8.heap.size 1 A us.length (us.map strV)) := reads_lt Q8.out b9
          clear ho9 b9 n9
          go_wp2_with fail
          refine (same_any A9 A us.length us.length c9 c _ _ us us w9 R9.out Q9.out (by omega) (by omega) (r := true) (by simp)).mono ?_
          rintro e w10 ⟨rfl, hd10⟩
          have HE := Lib.hid (H9.out.go hd10.below).below
          clear hd10
          go_wp2_with fail
          go_ret
          exact ⟨rfl, HE.out⟩
        · subst c1
          have c1i : ((n : Int) != (n : Int)) = false := by simp
          have c2i : (l.length : Int) < (F : Int) + (m : Int) := by omega
          go_wp2_with fail
          refine (l_any HRD.out).mono ?_
          rintro e w' ⟨rfl, rfl⟩
          go_wp2_with fail
          refine (t_any HRD.out (fun e => by cases e) (by omega) HT1.out).mono ?_
          rintro e wa ⟨rfl, ra, ga⟩
          have RA := Lib.hid ra
          have OA := Lib.hid (row_grown HO.out ga (fun e => by have := HFR.out _ e; omega))
          have BA := Lib.hid (grown_below ga HB.out (Nat.le_refl _))
          clear ra ga
          go_wp2_with fail
          refine (n_any RA.out HK3.out (by omega) HT2.out).mono ?_
          rintro e wb ⟨rfl, rb, gb⟩
          have RB := Lib.hid rb
          have OB := Lib.hid (row_grown OA.out gb (fun e => by have := HFR.out _ e; omega))
          have BB := Lib.hid (grown_below gb BA.out (Nat.le_refl _))
          clear rb gb
          go_wp2_with fail
          refine (w_text (t := t) (by omega) (hT.on (H5.out.go BB.out).below)).mono ?_
          rintro e wc ⟨rfl, bc⟩
          have RC := Lib.hid (RB.out.below bc)
          have OC := Lib.hid (own_below OB.out bc (fun g e => (OB.out.lt g e).2))
          have BC : Hid (Below w5.heap.size w5 wc) := BB.out.trans (bc.mono BB.out.size)
          clear bc
          go_wp2_with fail
          refine (w_num (n := n) k4 (hT.on (H5.out.go BC.out).below)).mono ?_
          rintro e we ⟨rfl, be⟩
          have RE := Lib.hid (RC.out.below be)
          have OE := Lib.hid (own_below OC.out be (fun g e => (OC.out.lt g e).2))
          have BE : Hid (Below w5.heap.size w5 we) := BC.out.trans (be.mono BC.out.size)
          clear be
          go_wp2_with fail
          refine (sum_ok (t := t) we (by omega) HSM.out).mono ?_
          rintro e w' ⟨rfl, rfl⟩
          have hus : us = ts := by
            have := recs_is HLR.out HT.out (hstop (fun h => by have := h.2.1; omega))
            rw [HREC.out] at this
            cases this
            rfl
          subst hus
          clear hgo hstop
          have hexF : (bStr l).extract 0 F = bStr (formsP us) := by rw [← HFF.out]; exact hex0
          have HX := Lib.hid (H5.out.go BE.out)
          have FX : Hid (0 < us.length → ∀ ad, A = some ad → o4 ad.block = none) := own_free (P := fun g => o4 g = none) OE.out (fun g e => own_none H5.out.da.inb (Nat.le_of_lt (HFR.out g e)))
          have RX := Lib.hid (R5.out.below BE.out)
          have QX := Lib.hid (Reads.of_own OE.out)
          go_wp2_with fail
          refine (x_size HX.out hf7 HD2.out).mono ?_
          rintro e w' ⟨rfl, rfl⟩
          go_wp2_with fail
          refine (x_read HX.out hf7 HR2.out).mono ?_
          rintro e w' ⟨rfl, rfl⟩
          go_wp2_with fail
          refine (open_ok HX.out (by decide) (by decide) HO3.out).mono ?_
          rintro e w7 ⟨o7, bk, ok, rfl, hx7, hk7, ap7, t7⟩
          have H7 := Lib.hid hx7
          have K7 := Lib.hid hk7
          have R7 := Lib.hid (RX.out.free F5.out t7)
          have Q7 := Lib.hid (QX.out.free FX.out t7)
          clear hx7 hk7 ap7 t7
          go_wp2_with fail
          refine (x_size H7.out hf7 HD3.out).mono ?_
          rintro e w' ⟨rfl, rfl⟩
          go_wp2_with fail
          refine (x_read H7.out hf7 HR3.out).mono ?_
          rintro e w' ⟨rfl, rfl⟩
          have hbl := bStr_toList (formsP us)
          go_wp2_with fail
          refine (same_any A5 A us.length us.length c5 c _ _ us us w7 R7.out Q7.out (by omega) (by omega) (r := true) (by simp)).mono ?_
          rintro e w8 ⟨rfl, hd8⟩
          have H8 := Lib.hid (H7.out.go hd8.below)
          have K8 := Lib.hid (K7.out.past hd8.below)
          have Q8 : Hid (Reads w8 we.heap.size 1 A us.length (us.map strV)) := by obtain ⟨d, rfl⟩ := hd8; exact Q7.out
          clear hd8
          go_wp2_with fail
          refine (x_all K8.out (show us.length ≤ 1073741824 by omega)).mono ?_
          rintro e w9 ⟨v9, rfl, ho9, b9, n9⟩
          obtain ⟨A9, c9, rfl, _, _⟩ := own_slice ho9
          have H9 := Lib.hid (H8.out.go b9)
          have R9 := Lib.hid (Reads.of_own ho9)
          have Q9 : Hid (Reads w9 w8.heap.size 1 A us.length (us.map strV)) := reads_lt Q8.out b9
          clear ho9 b9 n9
          go_wp2_with fail
          refine (same_any A9 A us.length us.length c9 c _ _ us us w9 R9.out Q9.out (by omega) (by omega) (r := true) (by simp)).mono ?_
          rintro e w10 ⟨rfl, hd10⟩
          have HE := Lib.hid (H9.out.go hd10.below).below
          clear hd10
          go_wp2_with fail
          go_ret
          exact ⟨rfl, HE.out⟩
        · subst c1
          have c1i : ((n : Int) != (n : Int)) = false := by simp
          have c2i : ¬ (l.length : Int) < (F : Int) + (m : Int) := by omega
          have c2j : (F : Int) + (m : Int) ≤ (l.length : Int) := by omega
          have c3a : decide (rest.take m = fm) = false := decide_eq_false c3
          have c3b : (rest.take m == fm) = false := beq_eq_false_iff_ne.2 c3
          have c3c : (rest.take m != fm) = true := bne_iff_ne.2 c3
          have c3d : ¬ rest.take m = fm := c3
          go_wp2_with fail
          refine (l_any HRD.out).mono ?_
          rintro e w' ⟨rfl, rfl⟩
          go_wp2_with fail
          refine (t_any HRD.out (fun e => by cases e) (by omega) HT1.out).mono ?_
          rintro e wa ⟨rfl, ra, ga⟩
          have RA := Lib.hid ra
          have OA := Lib.hid (row_grown HO.out ga (fun e => by have := HFR.out _ e; omega))
          have BA := Lib.hid (grown_below ga HB.out (Nat.le_refl _))
          clear ra ga
          go_wp2_with fail
          refine (n_any RA.out HK3.out (by omega) HT2.out).mono ?_
          rintro e wb ⟨rfl, rb, gb⟩
          have RB := Lib.hid rb
          have OB := Lib.hid (row_grown OA.out gb (fun e => by have := HFR.out _ e; omega))
          have BB := Lib.hid (grown_below gb BA.out (Nat.le_refl _))
          clear rb gb
          go_wp2_with fail
          refine (w_text (t := t) (by omega) (hT.on (H5.out.go BB.out).below)).mono ?_
          rintro e wc ⟨rfl, bc⟩
          have RC := Lib.hid (RB.out.below bc)
          have OC := Lib.hid (own_below OB.out bc (fun g e => (OB.out.lt g e).2))
          have BC : Hid (Below w5.heap.size w5 wc) := BB.out.trans (bc.mono BB.out.size)
          clear bc
          go_wp2_with fail
          refine (w_num (n := n) k4 (hT.on (H5.out.go BC.out).below)).mono ?_
          rintro e we ⟨rfl, be⟩
          have RE := Lib.hid (RC.out.below be)
          have OE := Lib.hid (own_below OC.out be (fun g e => (OC.out.lt g e).2))
          have BE : Hid (Below w5.heap.size w5 we) := BC.out.trans (be.mono BC.out.size)
          clear be
          go_wp2_with fail
          refine (sum_ok (t := t) we (by omega) HSM.out).mono ?_
          rintro e w' ⟨rfl, rfl⟩
          have hus : us = ts := by
            have := recs_is HLR.out HT.out (hstop (fun h => c3 h.2.2))
            rw [HREC.out] at this
            cases this
            rfl
          subst hus
          clear hgo hstop
          have hexF : (bStr l).extract 0 F = bStr (formsP us) := by rw [← HFF.out]; exact hex0
          have HX := Lib.hid (H5.out.go BE.out)
          have FX : Hid (0 < us.length → ∀ ad, A = some ad → o4 ad.block = none) := own_free (P := fun g => o4 g = none) OE.out (fun g e => own_none H5.out.da.inb (Nat.le_of_lt (HFR.out g e)))
          have RX := Lib.hid (R5.out.below BE.out)
          have QX := Lib.hid (Reads.of_own OE.out)
          go_wp2_with fail
          refine (x_size HX.out hf7 HD2.out).mono ?_
          rintro e w' ⟨rfl, rfl⟩
          go_wp2_with fail
          refine (x_read HX.out hf7 HR2.out).mono ?_
          rintro e w' ⟨rfl, rfl⟩
          go_wp2_with fail
          refine (open_ok HX.out (by decide) (by decide) HO3.out).mono ?_
          rintro e w7 ⟨o7, bk, ok, rfl, hx7, hk7, ap7, t7⟩
          have H7 := Lib.hid hx7
          have K7 := Lib.hid hk7
          have R7 := Lib.hid (RX.out.free F5.out t7)
          have Q7 := Lib.hid (QX.out.free FX.out t7)
          clear hx7 hk7 ap7 t7
          go_wp2_with fail
          refine (x_size H7.out hf7 HD3.out).mono ?_
          rintro e w' ⟨rfl, rfl⟩
          go_wp2_with fail
          refine (x_read H7.out hf7 HR3.out).mono ?_
          rintro e w' ⟨rfl, rfl⟩
          have hbl := bStr_toList (formsP us)
          go_wp2_with fail
          refine (same_any A5 A us.length us.length c5 c _ _ us us w7 R7.out Q7.out (by omega) (by omega) (r := true) (by simp)).mono ?_
          rintro e w8 ⟨rfl, hd8⟩
          have H8 := Lib.hid (H7.out.go hd8.below)
          have K8 := Lib.hid (K7.out.past hd8.below)
          have Q8 : Hid (Reads w8 we.heap.size 1 A us.length (us.map strV)) := by obtain ⟨d, rfl⟩ := hd8; exact Q7.out
          clear hd8
          go_wp2_with fail
          refine (x_all K8.out (show us.length ≤ 1073741824 by omega)).mono ?_
          rintro e w9 ⟨v9, rfl, ho9, b9, n9⟩
          obtain ⟨A9, c9, rfl, _, _⟩ := own_slice ho9
          have H9 := Lib.hid (H8.out.go b9)
          have R9 := Lib.hid (Reads.of_own ho9)
          have Q9 : Hid (Reads w9 w8.heap.size 1 A us.length (us.map strV)) := reads_lt Q8.out b9
          clear ho9 b9 n9
          go_wp2_with fail
          refine (same_any A9 A us.length us.length c9 c _ _ us us w9 R9.out Q9.out (by omega) (by omega) (r := true) (by simp)).mono ?_
          rintro e w10 ⟨rfl, hd10⟩
          have HE := Lib.hid (H9.out.go hd10.below).below
          clear hd10
          go_wp2_with fail
          go_ret
          exact ⟨rfl, HE.out⟩
        · subst c1
          have c1i : ((n : Int) != (n : Int)) = false := by simp
          have c2i : ¬ (l.length : Int) < (F : Int) + (m : Int) := by omega
          have c2j : (F : Int) + (m : Int) ≤ (l.length : Int) := by omega
          have c3a : (rest.take m == fm) = true := beq_iff_eq.2 c3
          obtain ⟨hstep, hg2⟩ := hgo ⟨rfl, by omega, c3⟩
          subst hg2
          have HSG := Lib.hid hstep
          have C3 := Lib.hid c3
          clear hgo hstop hstep c3
          go_wp2_with fail
          refine (l_any HRD.out).mono ?_
          rintro e w' ⟨rfl, rfl⟩
          go_wp2_with fail
          refine (t_any HRD.out (fun e => by cases e) (by omega) HT1.out).mono ?_
          rintro e wa ⟨rfl, ra, ga⟩
          have RA := Lib.hid ra
          have OA := Lib.hid (row_grown HO.out ga (fun e => by have := HFR.out _ e; omega))
          have BA := Lib.hid (grown_below ga HB.out (Nat.le_refl _))
          clear ra ga
          go_wp2_with fail
          refine (n_any RA.out HK3.out (by omega) HT2.out).mono ?_
          rintro e wb ⟨rfl, rb, gb⟩
          have RB := Lib.hid rb
          have OB := Lib.hid (row_grown OA.out gb (fun e => by have := HFR.out _ e; omega))
          have BB := Lib.hid (grown_below gb BA.out (Nat.le_refl _))
          clear rb gb
          go_wp2_with fail
          refine (w_text (t := t) (by omega) (hT.on (H5.out.go BB.out).below)).mono ?_
          rintro e wc ⟨rfl, bc⟩
          have RC := Lib.hid (RB.out.below bc)
          have OC := Lib.hid (own_below OB.out bc (fun g e => (OB.out.lt g e).2))
          have BC : Hid (Below w5.heap.size w5 wc) := BB.out.trans (bc.mono BB.out.size)
          clear bc
          go_wp2_with fail
          refine (w_num (n := n) k4 (hT.on (H5.out.go BC.out).below)).mono ?_
          rintro e we ⟨rfl, be⟩
          have RE := Lib.hid (RC.out.below be)
          have OE := Lib.hid (own_below OC.out be (fun g e => (OC.out.lt g e).2))
          have BE : Hid (Below w5.heap.size w5 we) := BC.out.trans (be.mono BC.out.size)
          clear be
          go_wp2_with fail
          refine (sum_ok (t := t) we (by omega) HSM.out).mono ?_
          rintro e w' ⟨rfl, rfl⟩
          have hsz3 := BE.out.size
          have HTA := Lib.hid (BE.out.alloc (by omega) (.cells #[.string (bStr t)] 9))
          have HOA := Lib.hid (own_below OE.out ((Below.refl we.heap.size we).alloc (Nat.le_refl _) (.cells #[.string (bStr t)] 9)) (fun g e => (OE.out.lt g e).2))
          have HRA : Hid (Reads (we.alloc (.cells #[.string (bStr t)] 9)) (we.heap.size + 1) 1 (some ⟨we.heap.size, 0, none⟩) 1 ([t].map strV)) := one_new we t
          have HRDA := Lib.hid (RdL.alloc RE.out (.cells #[.string (bStr t)] 9))
          obtain ⟨i0, hi, hz0, hz1, hz2⟩ := info_parts infoStr
          go_wp2_with (at_builtin; refine wpList_append_any _ rfl (.tmp 84) (.tmp 86) 32 rfl 0 9 i0 _ 1 16 Tryd.underlying32 hi hz0 hz1 hz2 rfl (by decide) (.slice A us.length c) us.length (us.map strV) rfl HOA.out _ (some ⟨we.heap.size, 0, none⟩) 1 1 ([t].map strV) rfl HRA.out (strV_one _) (by unfold maxLen; omega) (by omega) (Nat.zero_le _) ?_; intro v' w' p1 p2 p3)
          obtain ⟨A6, c6, rfl, _, _⟩ := own_slice p1
          have HFR5 : Hid (∀ g, (Value.slice A6 (us.length + 1) c6).ownBlock = some g → w5.heap.size < g) := fun g e => by
            rcases p3 with p3 | p3
            · exact HFR.out g (p3 ▸ e)
            · rw [p3] at e; cases e; simp; omega
          have HO5 : Hid (w'.ownsRow 0 9 1 (.slice A6 (us.length + 1) c6) (us.length + 1) ((us ++ [t]).map strV)) := by
            rw [List.map_append]
            exact p1
          have HR5 : Hid (RdL w' w5.heap.size r2 false) := Blk.grown HRDA.out p2 (fun e => by have := HFR.out _ e.symm; omega)
          have HB5 : Hid (Below w5.heap.size w5 w') := HTA.out.trans ⟨p2.os, p2.tape, p2.output, p2.size, fun k hk => p2.block k (by have := HTA.out.size; omega) (fun e => by have := HFR.out _ e.symm; omega)⟩
          clear p1 p2 p3
          have hfp : formP t = fm := by
            rw [← HFM.out]
            unfold formP
            rw [HSM.out]
          have hlen2 : (formsP (us ++ [t])).length = F + m := by rw [formsP_snoc, List.length_append, hfp, HFF.out, HM.out]
          have hl2 : l = formsP (us ++ [t]) ++ r2 := by
            rw [formsP_snoc, List.append_assoc, ← (stepP_iff.1 HSG.out).2]
            exact HLR.out
          have hmp : 0 < m := by rw [← HM.out, ← hfp]; exact formP_pos t
          have HK1 := Lib.hid hlen2
          have HK4 := Lib.hid hl2
          clear hlen2 hl2 hfp
          go_wp2_with fail
          go_roundw
          case rel => exact ⟨us ++ [t], r2, A6, c6, by rw [List.length_append]; rfl, by first | (rw [HK1.out]; done) | (rw [HK1.out]; congr 1; omega) | (rw [HK1.out]; congr 1), HK4.out, by rw [List.length_append, HK1.out]; simp; omega, fun q hq => by
            rcases List.mem_append.1 hq with hq | hq
            · exact HT.out q hq
            · simp at hq; subst hq; omega, HR5.out, by rw [List.length_append]; exact HO5.out, by rw [List.length_append]; exact HFR5.out, HB5.out⟩
          case measure => simp [RowKit.intOf]; omega

end Go.Proofs.YtjlndgkahmcfdaaDoor
