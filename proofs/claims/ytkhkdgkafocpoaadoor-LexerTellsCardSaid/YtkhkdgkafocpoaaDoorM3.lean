/- The walk of LexerBack. Conditions: the variables that the calls read; the argument's length is one of Go's. -/
import Derived.Test.YtkhkdgkafocpoaaDoorM2
namespace Go.Proofs.YtkhkdgkafocpoaaDoor
set_option maxRecDepth 20000
open Go.RowKit

def cutB (s : ByteArray) : ByteArray := s.extract 0 (min s.size 900)
theorem cutB_size (s : ByteArray) : (cutB s).size = min s.size 900 := by
  have h : (cutB s).data.toList.length = (cutB s).size := by simp
  have h2 : s.data.toList.length = s.size := by simp
  unfold cutB at h ⊢
  rw [extract_take, List.length_take] at h
  omega
theorem cutB_len (s : ByteArray) : (cutB s).data.toList.length ≤ 900 := by
  have h : (cutB s).data.toList.length = (cutB s).size := by simp
  have := cutB_size s
  omega
theorem cutB_scan (s : ByteArray) : scanT (cutB s).data.toList = scanP 0 (cutB s).data.toList := by
  have := cutB_len s
  rw [scanT, if_neg (by omega)]
set_option maxHeartbeats 1000000 in
theorem cut_any (s : ByteArray) (w : World) (hs : s.size ≤ 9223372036854775807) :
    Calls Tryd.prog 10 #[.string s] w fun e w' => e = .returned (.string (cutB s)) ∧ w = w' := by
  by_cases h : (s.size : Int) ≤ 900
  · go_enter Tryd.func10, Tryd.ntmps10
    go_wp2_with fail
    go_ret
    exact ⟨by show Ending.returned (.string (s.extract 0 (min (s.size : Int) 900).toNat)) = _; rw [show (min (s.size : Int) 900).toNat = min s.size 900 by omega]; rfl, rfl⟩
  · have h' : (900 : Int) < (s.size : Int) := by omega
    go_enter Tryd.func10, Tryd.ntmps10
    go_wp2_with fail
    go_ret
    exact ⟨by show Ending.returned (.string (s.extract 0 (min (s.size : Int) 900).toNat)) = _; rw [show (min (s.size : Int) 900).toNat = min s.size 900 by omega]; rfl, rfl⟩
theorem map_len {ts us : List Tok} (h : ts.map stripT = us.map stripT) : us.length = ts.length := by
  have := congrArg List.length h
  simpa using this.symm
theorem like_of {ts us : List Tok} (h : ts.map stripT = us.map stripT) (k : Nat) (t u : ATok) (h1 : (ts.map toA)[k]? = some t) (h2 : (us.map toA)[k]? = some u) : t.kind = u.kind ∧ t.text = u.text ∧ t.n = u.n := by
  rw [List.getElem?_map] at h1 h2
  obtain ⟨a, ha, rfl⟩ := Option.map_eq_some_iff.1 h1
  obtain ⟨b, hb, rfl⟩ := Option.map_eq_some_iff.1 h2
  have e1 : (ts.map stripT)[k]? = some (stripT a) := by rw [List.getElem?_map, ha]; rfl
  have e2 : (us.map stripT)[k]? = some (stripT b) := by rw [List.getElem?_map, hb]; rfl
  rw [h, e2] at e1
  have e3 := Option.some.inj e1
  have k1 := congrArg Tok.kind e3
  have k2 := congrArg Tok.text e3
  have k3 := congrArg Tok.n e3
  exact ⟨k1.symm, k2.symm, k3.symm⟩
theorem text_le {L : List UInt8} {ts : List Tok} {B : Nat} (hL : L.length ≤ B) (h : scanP 0 L = .ok ts) : (∀ t ∈ ts.map toA, t.text.length ≤ B) ∧ ts.length ≤ B := by
  obtain ⟨h1, h2⟩ := scanP_all L 0 ts h
  have key : ∀ ts : List Tok, (∀ t ∈ ts, TokOk t) → (∀ t ∈ ts, t.text.length ≤ sumL ts) ∧ ts.length ≤ sumL ts := by
    intro ts
    induction ts with
    | nil => intro _; exact ⟨fun t ht => by simp at ht, by simp⟩
    | cons t r ih =>
      intro h
      obtain ⟨i1, i2⟩ := ih (fun u hu => h u (List.mem_cons_of_mem _ hu))
      have hs : sumL (t :: r) = (wrP t).length + sumL r := by simp [sumL]
      have h1 := (h t (by simp)).2.1
      have ht : t.text.length ≤ (wrP t).length := by
        unfold wrP
        split
        · have : ∀ v : List UInt8, v.length ≤ (escP v).length := by
            intro v
            induction v with
            | nil => simp
            | cons b v ih => rw [escP]; split <;> simp only [List.length_cons] <;> omega
          have := this t.text
          simp only [quoP, List.length_cons, List.length_append]; omega
        · exact Nat.le_refl _
      refine ⟨fun u hu => ?_, by rw [hs, List.length_cons]; omega⟩
      rcases List.mem_cons.1 hu with rfl | hu
      · omega
      · have := i1 u hu; omega
  obtain ⟨k1, k2⟩ := key ts h1
  refine ⟨fun t ht => ?_, by omega⟩
  obtain ⟨u, hu, rfl⟩ := List.mem_map.1 ht
  have := k1 u hu
  show u.text.length ≤ B
  omega
set_option maxHeartbeats 4000000 in
theorem back_walk (s : ByteArray) (w : World) (hE : Hid (Env w)) (hs : s.size ≤ 9223372036854775807) :
    Calls Tryd.prog 4 #[.string s] w fun e w' => e = .returned (.bool true) ∧ Below w.heap.size w w' := by
  have C1 := Lib.hid (sane_any w hE)
  have C2 := Lib.hid (fun w => cut_any s w hs)
  obtain ⟨x, hx⟩ : ∃ x, x = cutB s := ⟨_, rfl⟩
  have hxs : x.size ≤ 900 := by rw [hx, cutB_size]; omega
  have hxl : x.data.toList.length ≤ 900 := by rw [hx]; exact cutB_len s
  have hsc : scanT x.data.toList = scanP 0 x.data.toList := by rw [hx]; exact cutB_scan s
  rw [← hx] at C2
  clear hx
  cases hr : scanP 0 x.data.toList with
  | err a z =>
    have hz := (error_plain _ _ _ _ hr).2.2.2.2
    have hzb : (z != 0) = true := by rcases hz with rfl | rfl | rfl <;> rfl
    have HS : Hid (scanT x.data.toList = .err a z) := by show _ = _; rw [hsc, hr]
    clear hz hr hsc hxl
    go_enter Tryd.func4, Tryd.ntmps4
    go_wp2_with fail
    refine C1.out.mono ?_
    rintro e w1 ⟨rfl, hb⟩
    have HB1 := Lib.hid hb
    clear hb
    go_wp2_with fail
    refine (C2.out _).mono ?_
    rintro e w' ⟨rfl, rfl⟩
    go_wp2_with fail
    refine (scan_err (hE.out.on HB1.out) HS.out).mono ?_
    rintro e w2 ⟨rfl, hb⟩
    have HB2 : Hid (Below w.heap.size w w2) := HB1.out.trans (hb.mono HB1.out.size)
    clear hb
    go_wp2_with fail
    go_ret
    exact ⟨rfl, HB2.out⟩
  | ok ts =>
    obtain ⟨us, hb1, hb2, hb3, hb4⟩ := back_plain hxl hr
    have htx := text_le (B := 900) hxl hr
    have hty := text_le (B := 1800) hb4 hb1
    have hlen := map_len hb2
    obtain ⟨n, hn⟩ : ∃ n, ts.length = n := ⟨_, rfl⟩
    rw [hn] at hlen
    have hn9 : n ≤ 900 := by rw [← hn]; exact htx.2
    obtain ⟨T, hT⟩ : ∃ T : ByteArray, T = ⟨(printP ts).toArray⟩ := ⟨_, rfl⟩
    have hTl : T.data.toList = printP ts := by rw [hT]
    have HS : Hid (scanT x.data.toList = .ok ts) := by show _ = _; rw [hsc, hr]
    have HT : Hid (scanT T.data.toList = .ok us) := by
      show _ = _
      rw [hTl, scanT, if_neg (by omega), hb1]
    have HN := Lib.hid hn
    have HM := Lib.hid hlen
    have HP1 : Hid ((⟨(printA (ts.map toA)).toArray⟩ : ByteArray) = T) := by show _ = _; rw [hT, printA_P]
    have HP2 : Hid ((⟨(printA (us.map toA)).toArray⟩ : ByteArray) = T) := by show _ = _; rw [hT, printA_P, hb3]
    have HL := Lib.hid (like_of hb2)
    have HX : Hid (∀ t ∈ ts.map toA, t.text.length ≤ 4096) := fun t ht => by have := htx.1 t ht; omega
    have HY : Hid (∀ t ∈ us.map toA, t.text.length ≤ 4096) := fun t ht => by have := hty.1 t ht; omega
    clear hr hsc hxl hb1 hb2 hb3 hb4 htx hty hlen hn hT hTl
    go_enter Tryd.func4, Tryd.ntmps4
    go_wp2_with fail
    refine C1.out.mono ?_
    rintro e w1 ⟨rfl, hb⟩
    have HB1 := Lib.hid hb
    clear hb
    go_wp2_with fail
    refine (C2.out _).mono ?_
    rintro e w' ⟨rfl, rfl⟩
    go_wp2_with fail
    refine (scan_ok (hE.out.on HB1.out) HS.out HN.out).mono ?_
    rintro e w2 ⟨A, c, rfl, ho, hb⟩
    have HO2 := Lib.hid ho
    have HB2 : Hid (Below w.heap.size w w2) := HB1.out.trans (hb.mono HB1.out.size)
    clear ho hb
    go_wp2_with fail
    refine (Print_any A n c w2.heap.size (ts.map toA) w2 (own_reads HO2.out) (Nat.le_refl _) (by show (ts.map toA).length = n; rw [List.length_map]; exact HN.out) (by omega) HX (hE.out.on HB2.out)).mono ?_
    rintro e w3 ⟨rfl, hb⟩
    rw [HP1.out]
    have HO3 := Lib.hid (own_on HO2.out hb)
    have HB3 : Hid (Below w.heap.size w w3) := HB2.out.trans (hb.mono HB2.out.size)
    clear hb HO2
    go_wp2_with fail
    refine (scan_ok (hE.out.on HB3.out) HT.out HM.out).mono ?_
    rintro e w4 ⟨A2, c2, rfl, ho, hb⟩
    have HO4 := Lib.hid (own_on HO3.out hb)
    have HM4 := Lib.hid ho
    have HB4 : Hid (Below w.heap.size w w4) := HB3.out.trans (hb.mono HB3.out.size)
    clear ho hb HO3
    go_wp2_with fail
    refine (Like_yes A A2 n c c2 w4.heap.size (ts.map toA) (us.map toA) w4 (own_reads HO4.out) (own_reads HM4.out) (Nat.le_refl _) (by show (ts.map toA).length = n; rw [List.length_map]; exact HN.out) (by omega) (by show (us.map toA).length = n; rw [List.length_map]; exact HM.out) HL).mono ?_
    rintro e w5 ⟨rfl, hb⟩
    have HM5 := Lib.hid (own_on HM4.out hb)
    have HB5 : Hid (Below w.heap.size w w5) := HB4.out.trans (hb.mono HB4.out.size)
    clear hb HO4 HM4
    go_wp2_with fail
    refine (Print_any A2 n c2 w5.heap.size (us.map toA) w5 (own_reads HM5.out) (Nat.le_refl _) (by show (us.map toA).length = n; rw [List.length_map]; exact HM.out) (by omega) HY (hE.out.on HB5.out)).mono ?_
    rintro e w6 ⟨rfl, hb⟩
    rw [HP2.out]
    have HB6 : Hid (Below w.heap.size w w6) := HB5.out.trans (hb.mono HB5.out.size)
    clear hb HM5
    go_wp2_with fail
    go_ret
    exact ⟨by simp, HB6.out⟩
end Go.Proofs.YtkhkdgkafocpoaaDoor
