/- The walk of LexerErrors. Conditions: the variables that the calls read; the argument's length is one of Go's. -/
import Derived.Test.YtkhkdgkafocpoaaDoorM6
namespace Go.Proofs.YtkhkdgkafocpoaaDoor
set_option maxRecDepth 20000
open Go.RowKit

theorem gap_blanks (k : Nat) : gapP false (List.replicate k 32) = k := by
  induction k with
  | zero => rfl
  | succ k ih =>
    rw [List.replicate_succ]
    show gapP false (List.replicate k 32) + 1 = _
    rw [ih]
theorem scan_blanks (a k : Nat) : scanP a (List.replicate k 32) = .ok [] := scanP_idle a (by rw [gap_blanks, List.length_replicate])
theorem full_ok {X : List UInt8} {ts : List Tok} {k : Nat} (h : scanP 0 X = .ok ts) (hk : X.length + 1 + k = 4000) : scanT (X ++ 10 :: List.replicate k 32) = .ok ts := by
  rw [scanT, if_neg (by simp; omega), line_plain, h]
  simp only
  rw [scan_blanks]
  show Res.ok (ts ++ []) = _
  rw [List.append_nil]
theorem full_err {X : List UInt8} {i : Nat} {z : Int} {k : Nat} (h : scanP 0 X = .err i z) (hk : X.length + 1 + k = 4000) : scanT (X ++ 10 :: List.replicate k 32) = .err i z := by
  rw [scanT, if_neg (by simp; omega), line_plain, h]
theorem full_full {X : List UInt8} {k : Nat} (hk : X.length + 1 + k = 4001) : scanT (X ++ 10 :: List.replicate k 32) = .err 0 6 := by
  rw [scanT, if_pos (by simp; omega)]
theorem fill_list {x F : ByteArray} {m k : Nat} (hF : F.data.toList = List.replicate m 32) (hk : k ≤ m) : (x ++ ⟨#[10]⟩ ++ F.extract 0 k).data.toList = x.data.toList ++ 10 :: List.replicate k 32 := by
  rw [both_toList, extract_take, hF, List.take_replicate, Nat.min_eq_left hk]
theorem err_parts {x : ByteArray} {a : Nat} {z : Int} (hx : x.size ≤ 900) (h : scanP 0 x.data.toList = .err a z) :
    (∃ ts, scanT (x.extract 0 a).data.toList = .ok ts) ∧ scanT (x.extract a x.size).data.toList = .err 0 z ∧ (z = 2 ∨ z = 3 ∨ z = 10) ∧ a < x.size := by
  obtain ⟨_, h2, ⟨ts, h3⟩, h4, h5⟩ := error_plain _ _ _ _ h
  rw [Nat.sub_zero] at h2 h3 h4
  have hl : x.data.toList.length = x.size := by simp
  refine ⟨⟨ts, ?_⟩, ?_, h5, by omega⟩
  · rw [extract_take, scanT, if_neg (by rw [List.length_take]; omega)]; exact h3
  · rw [extract_from, scanT, if_neg (by rw [List.length_drop]; omega)]; exact h4
theorem cat_list {a b : ByteArray} {m n : Nat} (ha : a.data.toList = List.replicate m 32) (hb : b.data.toList = List.replicate n 32) : (a ++ b).data.toList = List.replicate (m + n) 32 := by
  rw [app_toList, ha, hb, List.replicate_append_replicate]
def lenOfS (v : Value) : Nat := match v with
  | .string s => s.size
  | _ => 0
theorem scan_gen' {s : ByteArray} {ts : List Tok} {w : World} (hE : Env w) (h : scanT s.data.toList = .ok ts) :
    Calls Tryd.prog 11 #[.string s] w fun e w' => ∃ A n c, e = .returned (.tuple #[.slice A n c, .int .i64 0, .int .i64 0]) ∧ Below w.heap.size w w' := by
  refine (scan_ok hE h rfl).mono fun e w' ⟨A, c, h1, _, hb⟩ => ⟨A, _, c, h1, hb⟩
set_option maxHeartbeats 16000000 in
theorem errors_f_ok (s : ByteArray) (w : World) (hE : Hid (Env w)) (hs : s.size ≤ 9223372036854775807) (ts : List Tok) (HR : Hid (scanP 0 (cutB s).data.toList = .ok ts)) :
    Calls Tryd.prog 7 #[.string s, .bool false] w fun e w' => e = .returned (.bool true) ∧ Below w.heap.size w w' := by
  have C1 := Lib.hid (sane_any w hE)
  have C2 := Lib.hid (fun w => cut_any s w hs)
  have hxs0 : (cutB s).size ≤ 900 := by rw [cutB_size]; omega
  have hxl0 := cutB_len s
  have hsx0 := cutB_scan s
  obtain ⟨x, hx⟩ : ∃ x, x = cutB s := ⟨_, rfl⟩
  rw [← hx] at C2 hxs0 hxl0 hsx0 HR
  have hxs : x.size ≤ 900 := hxs0
  have hxl := Lib.hid hxl0
  have hr := HR.out
  have HX := Lib.hid (hsx0.trans hr)
  obtain ⟨n, hn⟩ : ∃ n, ts.length = n := ⟨_, rfl⟩
  have hn9 : n ≤ 900 := by rw [← hn]; exact (text_le (B := 900) hxl0 hr).2
  have HN := Lib.hid hn
  clear hn
  clear hx hxs0 hxl0 hsx0 hr
  go_enter Tryd.func7, Tryd.ntmps7
  go_wp2_with fail
  refine C1.out.mono ?_
  rintro e w1 ⟨rfl, hb⟩
  have HB1 := Lib.hid hb
  clear hb
  go_wp2_with fail
  refine (C2.out _).mono ?_
  rintro e w' ⟨rfl, rfl⟩
  go_wp2_with fail
  refine (scan_ok (hE.out.on HB1.out) HX.out HN.out).mono ?_
  rintro e w2 ⟨A, c, rfl, ho, hb⟩
  have HB2 : Hid (Below w.heap.size w w2) := HB1.out.trans (hb.mono HB1.out.size)
  clear ho hb
  go_wp2_with fail
  go_ret
  exact ⟨rfl, HB2.out⟩
set_option maxHeartbeats 16000000 in
theorem errors_f_2 (s : ByteArray) (w : World) (hE : Hid (Env w)) (hs : s.size ≤ 9223372036854775807) (a : Nat) (HR : Hid (scanP 0 (cutB s).data.toList = .err a 2)) :
    Calls Tryd.prog 7 #[.string s, .bool false] w fun e w' => e = .returned (.bool true) ∧ Below w.heap.size w w' := by
  have C1 := Lib.hid (sane_any w hE)
  have C2 := Lib.hid (fun w => cut_any s w hs)
  have hxs0 : (cutB s).size ≤ 900 := by rw [cutB_size]; omega
  have hxl0 := cutB_len s
  have hsx0 := cutB_scan s
  obtain ⟨x, hx⟩ : ∃ x, x = cutB s := ⟨_, rfl⟩
  rw [← hx] at C2 hxs0 hxl0 hsx0 HR
  have hxs : x.size ≤ 900 := hxs0
  have hxl := Lib.hid hxl0
  have hr := HR.out
  have HX := Lib.hid (hsx0.trans hr)
  obtain ⟨⟨us, hu1⟩, hu2, _, ha⟩ := err_parts hxs hr
  have HU1 := Lib.hid hu1
  have HU2 := Lib.hid hu2
  have hac : (a : Int) < (x.size : Int) := by omega
  clear hu1 hu2
  clear hx hxs0 hxl0 hsx0 hr
  go_enter Tryd.func7, Tryd.ntmps7
  go_wp2_with fail
  refine C1.out.mono ?_
  rintro e w1 ⟨rfl, hb⟩
  have HB1 := Lib.hid hb
  clear hb
  go_wp2_with fail
  refine (C2.out _).mono ?_
  rintro e w' ⟨rfl, rfl⟩
  go_wp2_with fail
  refine (scan_err (hE.out.on HB1.out) HX.out).mono ?_
  rintro e w2 ⟨rfl, hb⟩
  have HB2 : Hid (Below w.heap.size w w2) := HB1.out.trans (hb.mono HB1.out.size)
  clear hb
  go_wp2_with fail
  refine (scan_gen' (hE.out.on HB2.out) HU1.out).mono ?_
  rintro e w5 ⟨A5, n5, c5, rfl, hb⟩
  have HB5 : Hid (Below w.heap.size w w5) := HB2.out.trans (hb.mono HB2.out.size)
  clear hb
  go_wp2_with fail
  refine (scan_err (hE.out.on HB5.out) HU2.out).mono ?_
  rintro e w6 ⟨rfl, hb⟩
  have HB6 : Hid (Below w.heap.size w w6) := HB5.out.trans (hb.mono HB5.out.size)
  clear hb
  go_wp2_with fail
  go_ret
  exact ⟨rfl, HB6.out⟩
set_option maxHeartbeats 16000000 in
theorem errors_f_3 (s : ByteArray) (w : World) (hE : Hid (Env w)) (hs : s.size ≤ 9223372036854775807) (a : Nat) (HR : Hid (scanP 0 (cutB s).data.toList = .err a 3)) :
    Calls Tryd.prog 7 #[.string s, .bool false] w fun e w' => e = .returned (.bool true) ∧ Below w.heap.size w w' := by
  have C1 := Lib.hid (sane_any w hE)
  have C2 := Lib.hid (fun w => cut_any s w hs)
  have hxs0 : (cutB s).size ≤ 900 := by rw [cutB_size]; omega
  have hxl0 := cutB_len s
  have hsx0 := cutB_scan s
  obtain ⟨x, hx⟩ : ∃ x, x = cutB s := ⟨_, rfl⟩
  rw [← hx] at C2 hxs0 hxl0 hsx0 HR
  have hxs : x.size ≤ 900 := hxs0
  have hxl := Lib.hid hxl0
  have hr := HR.out
  have HX := Lib.hid (hsx0.trans hr)
  obtain ⟨⟨us, hu1⟩, hu2, _, ha⟩ := err_parts hxs hr
  have HU1 := Lib.hid hu1
  have HU2 := Lib.hid hu2
  have hac : (a : Int) < (x.size : Int) := by omega
  clear hu1 hu2
  clear hx hxs0 hxl0 hsx0 hr
  go_enter Tryd.func7, Tryd.ntmps7
  go_wp2_with fail
  refine C1.out.mono ?_
  rintro e w1 ⟨rfl, hb⟩
  have HB1 := Lib.hid hb
  clear hb
  go_wp2_with fail
  refine (C2.out _).mono ?_
  rintro e w' ⟨rfl, rfl⟩
  go_wp2_with fail
  refine (scan_err (hE.out.on HB1.out) HX.out).mono ?_
  rintro e w2 ⟨rfl, hb⟩
  have HB2 : Hid (Below w.heap.size w w2) := HB1.out.trans (hb.mono HB1.out.size)
  clear hb
  go_wp2_with fail
  refine (scan_gen' (hE.out.on HB2.out) HU1.out).mono ?_
  rintro e w5 ⟨A5, n5, c5, rfl, hb⟩
  have HB5 : Hid (Below w.heap.size w w5) := HB2.out.trans (hb.mono HB2.out.size)
  clear hb
  go_wp2_with fail
  refine (scan_err (hE.out.on HB5.out) HU2.out).mono ?_
  rintro e w6 ⟨rfl, hb⟩
  have HB6 : Hid (Below w.heap.size w w6) := HB5.out.trans (hb.mono HB5.out.size)
  clear hb
  go_wp2_with fail
  go_ret
  exact ⟨rfl, HB6.out⟩
set_option maxHeartbeats 16000000 in
theorem errors_f_10 (s : ByteArray) (w : World) (hE : Hid (Env w)) (hs : s.size ≤ 9223372036854775807) (a : Nat) (HR : Hid (scanP 0 (cutB s).data.toList = .err a 10)) :
    Calls Tryd.prog 7 #[.string s, .bool false] w fun e w' => e = .returned (.bool true) ∧ Below w.heap.size w w' := by
  have C1 := Lib.hid (sane_any w hE)
  have C2 := Lib.hid (fun w => cut_any s w hs)
  have hxs0 : (cutB s).size ≤ 900 := by rw [cutB_size]; omega
  have hxl0 := cutB_len s
  have hsx0 := cutB_scan s
  obtain ⟨x, hx⟩ : ∃ x, x = cutB s := ⟨_, rfl⟩
  rw [← hx] at C2 hxs0 hxl0 hsx0 HR
  have hxs : x.size ≤ 900 := hxs0
  have hxl := Lib.hid hxl0
  have hr := HR.out
  have HX := Lib.hid (hsx0.trans hr)
  obtain ⟨⟨us, hu1⟩, hu2, _, ha⟩ := err_parts hxs hr
  have HU1 := Lib.hid hu1
  have HU2 := Lib.hid hu2
  have hac : (a : Int) < (x.size : Int) := by omega
  clear hu1 hu2
  clear hx hxs0 hxl0 hsx0 hr
  go_enter Tryd.func7, Tryd.ntmps7
  go_wp2_with fail
  refine C1.out.mono ?_
  rintro e w1 ⟨rfl, hb⟩
  have HB1 := Lib.hid hb
  clear hb
  go_wp2_with fail
  refine (C2.out _).mono ?_
  rintro e w' ⟨rfl, rfl⟩
  go_wp2_with fail
  refine (scan_err (hE.out.on HB1.out) HX.out).mono ?_
  rintro e w2 ⟨rfl, hb⟩
  have HB2 : Hid (Below w.heap.size w w2) := HB1.out.trans (hb.mono HB1.out.size)
  clear hb
  go_wp2_with fail
  refine (scan_gen' (hE.out.on HB2.out) HU1.out).mono ?_
  rintro e w5 ⟨A5, n5, c5, rfl, hb⟩
  have HB5 : Hid (Below w.heap.size w w5) := HB2.out.trans (hb.mono HB2.out.size)
  clear hb
  go_wp2_with fail
  refine (scan_err (hE.out.on HB5.out) HU2.out).mono ?_
  rintro e w6 ⟨rfl, hb⟩
  have HB6 : Hid (Below w.heap.size w w6) := HB5.out.trans (hb.mono HB5.out.size)
  clear hb
  go_wp2_with fail
  go_ret
  exact ⟨rfl, HB6.out⟩
set_option maxHeartbeats 16000000 in
theorem errors_t_ok (s : ByteArray) (w : World) (hE : Hid (Env w)) (hs : s.size ≤ 9223372036854775807) (ts : List Tok) (HR : Hid (scanP 0 (cutB s).data.toList = .ok ts)) :
    Calls Tryd.prog 7 #[.string s, .bool true] w fun e w' => e = .returned (.bool true) ∧ Below w.heap.size w w' := by
  have C1 := Lib.hid (sane_any w hE)
  have C2 := Lib.hid (fun w => cut_any s w hs)
  have hxs0 : (cutB s).size ≤ 900 := by rw [cutB_size]; omega
  have hxl0 := cutB_len s
  have hsx0 := cutB_scan s
  obtain ⟨x, hx⟩ : ∃ x, x = cutB s := ⟨_, rfl⟩
  rw [← hx] at C2 hxs0 hxl0 hsx0 HR
  have hxs : x.size ≤ 900 := hxs0
  have hxl := Lib.hid hxl0
  have hr := HR.out
  have HX := Lib.hid (hsx0.trans hr)
  obtain ⟨n, hn⟩ : ∃ n, ts.length = n := ⟨_, rfl⟩
  have hn9 : n ≤ 900 := by rw [← hn]; exact (text_le (B := 900) hxl0 hr).2
  have HN := Lib.hid hn
  clear hn
  clear hx hxs0 hxl0 hsx0 hr
  go_enter Tryd.func7, Tryd.ntmps7
  go_wp2_with fail
  refine C1.out.mono ?_
  rintro e w1 ⟨rfl, hb⟩
  have HB1 := Lib.hid hb
  clear hb
  go_wp2_with fail
  refine (C2.out _).mono ?_
  rintro e w' ⟨rfl, rfl⟩
  go_wp2_with fail
  refine (scan_ok (hE.out.on HB1.out) HX.out HN.out).mono ?_
  rintro e w2 ⟨A, c, rfl, ho, hb⟩
  have HB2 : Hid (Below w.heap.size w w2) := HB1.out.trans (hb.mono HB1.out.size)
  clear ho hb
  go_wp2_with fail
  go_loop [10] (fun f => ∃ (m : Nat) (F : ByteArray), 10 ≤ m ∧ m < 8000 ∧ F.size ≤ m ∧ m ≤ F.size ∧ f = .string F ∧ Hid (F.data.toList = List.replicate m 32)) (fun f => 8000 - (lenOfS f))
  case atStart => exact ⟨10, ⟨#[32, 32, 32, 32, 32, 32, 32, 32, 32, 32]⟩, by omega, by omega, Nat.le_refl _, Nat.le_refl _, rfl, rfl⟩
  case round =>
    obtain ⟨m, F, hm1, hm2, hf1, hf2, rfl, HF⟩ := hrel
    by_cases hlt : (F.size : Int) < 4000
    · have hnx : Hid ((F ++ F).data.toList = List.replicate (m + m) 32) := cat_list HF.out HF.out
      have hsz1 : (F ++ F).size ≤ m + m := by rw [app_size]; omega
      have hsz2 : m + m ≤ (F ++ F).size := by rw [app_size]; omega
      go_wp2_with fail
      go_round
      case rel => exact ⟨m + m, F ++ F, by omega, by omega, hsz1, hsz2, rfl, hnx⟩
      case measure => simp [lenOfS]; omega
    · have hF4 : (4000 : Int) ≤ (F.size : Int) := by omega
      have hk1 : 3999 - x.size ≤ m := by omega
      have hk2 : 4000 - x.size ≤ m := by omega
      have hl : x.data.toList.length = x.size := by simp
      have HZ2 : Hid (scanT (x ++ ⟨#[10]⟩ ++ F.extract 0 (4000 - x.size)).data.toList = .err 0 6) := by
        show _ = _
        rw [fill_list HF.out hk2]; exact full_full (by omega)
      have HZ1 : Hid (scanT (x ++ ⟨#[10]⟩ ++ F.extract 0 (3999 - x.size)).data.toList = .ok ts) := by
        show _ = _
        rw [fill_list HF.out hk1]; exact full_ok HR.out (by omega)
      have hes1 : (F.extract 0 (3999 - x.size)).size ≤ 8000 := by have := extract_size F (3999 - x.size); omega
      have hes2 : (F.extract 0 (4000 - x.size)).size ≤ 8000 := by have := extract_size F (4000 - x.size); omega
      clear hk1 hk2 hl hlt
      go_wp2_with fail
      refine (scan_ok (hE.out.on HB2.out) HZ1.out HN.out).mono ?_
      rintro e w3 ⟨A3, c3, rfl, ho, hb⟩
      have HB3 : Hid (Below w.heap.size w w3) := HB2.out.trans (hb.mono HB2.out.size)
      clear hb
      go_wp2_with fail
      refine (scan_err (hE.out.on HB3.out) HZ2.out).mono ?_
      rintro e w4 ⟨rfl, hb⟩
      have HB4 : Hid (Below w.heap.size w w4) := HB3.out.trans (hb.mono HB3.out.size)
      clear hb
      go_wp2_with fail
      go_ret
      exact ⟨rfl, HB4.out⟩
set_option maxHeartbeats 16000000 in
theorem errors_t_2 (s : ByteArray) (w : World) (hE : Hid (Env w)) (hs : s.size ≤ 9223372036854775807) (a : Nat) (HR : Hid (scanP 0 (cutB s).data.toList = .err a 2)) :
    Calls Tryd.prog 7 #[.string s, .bool true] w fun e w' => e = .returned (.bool true) ∧ Below w.heap.size w w' := by
  have C1 := Lib.hid (sane_any w hE)
  have C2 := Lib.hid (fun w => cut_any s w hs)
  have hxs0 : (cutB s).size ≤ 900 := by rw [cutB_size]; omega
  have hxl0 := cutB_len s
  have hsx0 := cutB_scan s
  obtain ⟨x, hx⟩ : ∃ x, x = cutB s := ⟨_, rfl⟩
  rw [← hx] at C2 hxs0 hxl0 hsx0 HR
  have hxs : x.size ≤ 900 := hxs0
  have hxl := Lib.hid hxl0
  have hr := HR.out
  have HX := Lib.hid (hsx0.trans hr)
  obtain ⟨⟨us, hu1⟩, hu2, _, ha⟩ := err_parts hxs hr
  have HU1 := Lib.hid hu1
  have HU2 := Lib.hid hu2
  have hac : (a : Int) < (x.size : Int) := by omega
  clear hu1 hu2
  clear hx hxs0 hxl0 hsx0 hr
  go_enter Tryd.func7, Tryd.ntmps7
  go_wp2_with fail
  refine C1.out.mono ?_
  rintro e w1 ⟨rfl, hb⟩
  have HB1 := Lib.hid hb
  clear hb
  go_wp2_with fail
  refine (C2.out _).mono ?_
  rintro e w' ⟨rfl, rfl⟩
  go_wp2_with fail
  refine (scan_err (hE.out.on HB1.out) HX.out).mono ?_
  rintro e w2 ⟨rfl, hb⟩
  have HB2 : Hid (Below w.heap.size w w2) := HB1.out.trans (hb.mono HB1.out.size)
  clear hb
  go_wp2_with fail
  go_loop [10] (fun f => ∃ (m : Nat) (F : ByteArray), 10 ≤ m ∧ m < 8000 ∧ F.size ≤ m ∧ m ≤ F.size ∧ f = .string F ∧ Hid (F.data.toList = List.replicate m 32)) (fun f => 8000 - (lenOfS f))
  case atStart => exact ⟨10, ⟨#[32, 32, 32, 32, 32, 32, 32, 32, 32, 32]⟩, by omega, by omega, Nat.le_refl _, Nat.le_refl _, rfl, rfl⟩
  case round =>
    obtain ⟨m, F, hm1, hm2, hf1, hf2, rfl, HF⟩ := hrel
    by_cases hlt : (F.size : Int) < 4000
    · have hnx : Hid ((F ++ F).data.toList = List.replicate (m + m) 32) := cat_list HF.out HF.out
      have hsz1 : (F ++ F).size ≤ m + m := by rw [app_size]; omega
      have hsz2 : m + m ≤ (F ++ F).size := by rw [app_size]; omega
      go_wp2_with fail
      go_round
      case rel => exact ⟨m + m, F ++ F, by omega, by omega, hsz1, hsz2, rfl, hnx⟩
      case measure => simp [lenOfS]; omega
    · have hF4 : (4000 : Int) ≤ (F.size : Int) := by omega
      have hk1 : 3999 - x.size ≤ m := by omega
      have hk2 : 4000 - x.size ≤ m := by omega
      have hl : x.data.toList.length = x.size := by simp
      have HZ2 : Hid (scanT (x ++ ⟨#[10]⟩ ++ F.extract 0 (4000 - x.size)).data.toList = .err 0 6) := by
        show _ = _
        rw [fill_list HF.out hk2]; exact full_full (by omega)
      have HZ1 : Hid (scanT (x ++ ⟨#[10]⟩ ++ F.extract 0 (3999 - x.size)).data.toList = .err a 2) := by
        show _ = _
        rw [fill_list HF.out hk1]; exact full_err HR.out (by omega)
      have hes1 : (F.extract 0 (3999 - x.size)).size ≤ 8000 := by have := extract_size F (3999 - x.size); omega
      have hes2 : (F.extract 0 (4000 - x.size)).size ≤ 8000 := by have := extract_size F (4000 - x.size); omega
      clear hk1 hk2 hl hlt
      go_wp2_with fail
      refine (scan_err (hE.out.on HB2.out) HZ1.out).mono ?_
      rintro e w3 ⟨rfl, hb⟩
      have HB3 : Hid (Below w.heap.size w w3) := HB2.out.trans (hb.mono HB2.out.size)
      clear hb
      go_wp2_with fail
      refine (scan_err (hE.out.on HB3.out) HZ2.out).mono ?_
      rintro e w4 ⟨rfl, hb⟩
      have HB4 : Hid (Below w.heap.size w w4) := HB3.out.trans (hb.mono HB3.out.size)
      clear hb
      go_wp2_with fail
      refine (scan_gen' (hE.out.on HB4.out) HU1.out).mono ?_
      rintro e w5 ⟨A5, n5, c5, rfl, hb⟩
      have HB5 : Hid (Below w.heap.size w w5) := HB4.out.trans (hb.mono HB4.out.size)
      clear hb
      go_wp2_with fail
      refine (scan_err (hE.out.on HB5.out) HU2.out).mono ?_
      rintro e w6 ⟨rfl, hb⟩
      have HB6 : Hid (Below w.heap.size w w6) := HB5.out.trans (hb.mono HB5.out.size)
      clear hb
      go_wp2_with fail
      go_ret
      exact ⟨rfl, HB6.out⟩
set_option maxHeartbeats 16000000 in
theorem errors_t_3 (s : ByteArray) (w : World) (hE : Hid (Env w)) (hs : s.size ≤ 9223372036854775807) (a : Nat) (HR : Hid (scanP 0 (cutB s).data.toList = .err a 3)) :
    Calls Tryd.prog 7 #[.string s, .bool true] w fun e w' => e = .returned (.bool true) ∧ Below w.heap.size w w' := by
  have C1 := Lib.hid (sane_any w hE)
  have C2 := Lib.hid (fun w => cut_any s w hs)
  have hxs0 : (cutB s).size ≤ 900 := by rw [cutB_size]; omega
  have hxl0 := cutB_len s
  have hsx0 := cutB_scan s
  obtain ⟨x, hx⟩ : ∃ x, x = cutB s := ⟨_, rfl⟩
  rw [← hx] at C2 hxs0 hxl0 hsx0 HR
  have hxs : x.size ≤ 900 := hxs0
  have hxl := Lib.hid hxl0
  have hr := HR.out
  have HX := Lib.hid (hsx0.trans hr)
  obtain ⟨⟨us, hu1⟩, hu2, _, ha⟩ := err_parts hxs hr
  have HU1 := Lib.hid hu1
  have HU2 := Lib.hid hu2
  have hac : (a : Int) < (x.size : Int) := by omega
  clear hu1 hu2
  clear hx hxs0 hxl0 hsx0 hr
  go_enter Tryd.func7, Tryd.ntmps7
  go_wp2_with fail
  refine C1.out.mono ?_
  rintro e w1 ⟨rfl, hb⟩
  have HB1 := Lib.hid hb
  clear hb
  go_wp2_with fail
  refine (C2.out _).mono ?_
  rintro e w' ⟨rfl, rfl⟩
  go_wp2_with fail
  refine (scan_err (hE.out.on HB1.out) HX.out).mono ?_
  rintro e w2 ⟨rfl, hb⟩
  have HB2 : Hid (Below w.heap.size w w2) := HB1.out.trans (hb.mono HB1.out.size)
  clear hb
  go_wp2_with fail
  go_loop [10] (fun f => ∃ (m : Nat) (F : ByteArray), 10 ≤ m ∧ m < 8000 ∧ F.size ≤ m ∧ m ≤ F.size ∧ f = .string F ∧ Hid (F.data.toList = List.replicate m 32)) (fun f => 8000 - (lenOfS f))
  case atStart => exact ⟨10, ⟨#[32, 32, 32, 32, 32, 32, 32, 32, 32, 32]⟩, by omega, by omega, Nat.le_refl _, Nat.le_refl _, rfl, rfl⟩
  case round =>
    obtain ⟨m, F, hm1, hm2, hf1, hf2, rfl, HF⟩ := hrel
    by_cases hlt : (F.size : Int) < 4000
    · have hnx : Hid ((F ++ F).data.toList = List.replicate (m + m) 32) := cat_list HF.out HF.out
      have hsz1 : (F ++ F).size ≤ m + m := by rw [app_size]; omega
      have hsz2 : m + m ≤ (F ++ F).size := by rw [app_size]; omega
      go_wp2_with fail
      go_round
      case rel => exact ⟨m + m, F ++ F, by omega, by omega, hsz1, hsz2, rfl, hnx⟩
      case measure => simp [lenOfS]; omega
    · have hF4 : (4000 : Int) ≤ (F.size : Int) := by omega
      have hk1 : 3999 - x.size ≤ m := by omega
      have hk2 : 4000 - x.size ≤ m := by omega
      have hl : x.data.toList.length = x.size := by simp
      have HZ2 : Hid (scanT (x ++ ⟨#[10]⟩ ++ F.extract 0 (4000 - x.size)).data.toList = .err 0 6) := by
        show _ = _
        rw [fill_list HF.out hk2]; exact full_full (by omega)
      have HZ1 : Hid (scanT (x ++ ⟨#[10]⟩ ++ F.extract 0 (3999 - x.size)).data.toList = .err a 3) := by
        show _ = _
        rw [fill_list HF.out hk1]; exact full_err HR.out (by omega)
      have hes1 : (F.extract 0 (3999 - x.size)).size ≤ 8000 := by have := extract_size F (3999 - x.size); omega
      have hes2 : (F.extract 0 (4000 - x.size)).size ≤ 8000 := by have := extract_size F (4000 - x.size); omega
      clear hk1 hk2 hl hlt
      go_wp2_with fail
      refine (scan_err (hE.out.on HB2.out) HZ1.out).mono ?_
      rintro e w3 ⟨rfl, hb⟩
      have HB3 : Hid (Below w.heap.size w w3) := HB2.out.trans (hb.mono HB2.out.size)
      clear hb
      go_wp2_with fail
      refine (scan_err (hE.out.on HB3.out) HZ2.out).mono ?_
      rintro e w4 ⟨rfl, hb⟩
      have HB4 : Hid (Below w.heap.size w w4) := HB3.out.trans (hb.mono HB3.out.size)
      clear hb
      go_wp2_with fail
      refine (scan_gen' (hE.out.on HB4.out) HU1.out).mono ?_
      rintro e w5 ⟨A5, n5, c5, rfl, hb⟩
      have HB5 : Hid (Below w.heap.size w w5) := HB4.out.trans (hb.mono HB4.out.size)
      clear hb
      go_wp2_with fail
      refine (scan_err (hE.out.on HB5.out) HU2.out).mono ?_
      rintro e w6 ⟨rfl, hb⟩
      have HB6 : Hid (Below w.heap.size w w6) := HB5.out.trans (hb.mono HB5.out.size)
      clear hb
      go_wp2_with fail
      go_ret
      exact ⟨rfl, HB6.out⟩
set_option maxHeartbeats 16000000 in
theorem errors_t_10 (s : ByteArray) (w : World) (hE : Hid (Env w)) (hs : s.size ≤ 9223372036854775807) (a : Nat) (HR : Hid (scanP 0 (cutB s).data.toList = .err a 10)) :
    Calls Tryd.prog 7 #[.string s, .bool true] w fun e w' => e = .returned (.bool true) ∧ Below w.heap.size w w' := by
  have C1 := Lib.hid (sane_any w hE)
  have C2 := Lib.hid (fun w => cut_any s w hs)
  have hxs0 : (cutB s).size ≤ 900 := by rw [cutB_size]; omega
  have hxl0 := cutB_len s
  have hsx0 := cutB_scan s
  obtain ⟨x, hx⟩ : ∃ x, x = cutB s := ⟨_, rfl⟩
  rw [← hx] at C2 hxs0 hxl0 hsx0 HR
  have hxs : x.size ≤ 900 := hxs0
  have hxl := Lib.hid hxl0
  have hr := HR.out
  have HX := Lib.hid (hsx0.trans hr)
  obtain ⟨⟨us, hu1⟩, hu2, _, ha⟩ := err_parts hxs hr
  have HU1 := Lib.hid hu1
  have HU2 := Lib.hid hu2
  have hac : (a : Int) < (x.size : Int) := by omega
  clear hu1 hu2
  clear hx hxs0 hxl0 hsx0 hr
  go_enter Tryd.func7, Tryd.ntmps7
  go_wp2_with fail
  refine C1.out.mono ?_
  rintro e w1 ⟨rfl, hb⟩
  have HB1 := Lib.hid hb
  clear hb
  go_wp2_with fail
  refine (C2.out _).mono ?_
  rintro e w' ⟨rfl, rfl⟩
  go_wp2_with fail
  refine (scan_err (hE.out.on HB1.out) HX.out).mono ?_
  rintro e w2 ⟨rfl, hb⟩
  have HB2 : Hid (Below w.heap.size w w2) := HB1.out.trans (hb.mono HB1.out.size)
  clear hb
  go_wp2_with fail
  go_loop [10] (fun f => ∃ (m : Nat) (F : ByteArray), 10 ≤ m ∧ m < 8000 ∧ F.size ≤ m ∧ m ≤ F.size ∧ f = .string F ∧ Hid (F.data.toList = List.replicate m 32)) (fun f => 8000 - (lenOfS f))
  case atStart => exact ⟨10, ⟨#[32, 32, 32, 32, 32, 32, 32, 32, 32, 32]⟩, by omega, by omega, Nat.le_refl _, Nat.le_refl _, rfl, rfl⟩
  case round =>
    obtain ⟨m, F, hm1, hm2, hf1, hf2, rfl, HF⟩ := hrel
    by_cases hlt : (F.size : Int) < 4000
    · have hnx : Hid ((F ++ F).data.toList = List.replicate (m + m) 32) := cat_list HF.out HF.out
      have hsz1 : (F ++ F).size ≤ m + m := by rw [app_size]; omega
      have hsz2 : m + m ≤ (F ++ F).size := by rw [app_size]; omega
      go_wp2_with fail
      go_round
      case rel => exact ⟨m + m, F ++ F, by omega, by omega, hsz1, hsz2, rfl, hnx⟩
      case measure => simp [lenOfS]; omega
    · have hF4 : (4000 : Int) ≤ (F.size : Int) := by omega
      have hk1 : 3999 - x.size ≤ m := by omega
      have hk2 : 4000 - x.size ≤ m := by omega
      have hl : x.data.toList.length = x.size := by simp
      have HZ2 : Hid (scanT (x ++ ⟨#[10]⟩ ++ F.extract 0 (4000 - x.size)).data.toList = .err 0 6) := by
        show _ = _
        rw [fill_list HF.out hk2]; exact full_full (by omega)
      have HZ1 : Hid (scanT (x ++ ⟨#[10]⟩ ++ F.extract 0 (3999 - x.size)).data.toList = .err a 10) := by
        show _ = _
        rw [fill_list HF.out hk1]; exact full_err HR.out (by omega)
      have hes1 : (F.extract 0 (3999 - x.size)).size ≤ 8000 := by have := extract_size F (3999 - x.size); omega
      have hes2 : (F.extract 0 (4000 - x.size)).size ≤ 8000 := by have := extract_size F (4000 - x.size); omega
      clear hk1 hk2 hl hlt
      go_wp2_with fail
      refine (scan_err (hE.out.on HB2.out) HZ1.out).mono ?_
      rintro e w3 ⟨rfl, hb⟩
      have HB3 : Hid (Below w.heap.size w w3) := HB2.out.trans (hb.mono HB2.out.size)
      clear hb
      go_wp2_with fail
      refine (scan_err (hE.out.on HB3.out) HZ2.out).mono ?_
      rintro e w4 ⟨rfl, hb⟩
      have HB4 : Hid (Below w.heap.size w w4) := HB3.out.trans (hb.mono HB3.out.size)
      clear hb
      go_wp2_with fail
      refine (scan_gen' (hE.out.on HB4.out) HU1.out).mono ?_
      rintro e w5 ⟨A5, n5, c5, rfl, hb⟩
      have HB5 : Hid (Below w.heap.size w w5) := HB4.out.trans (hb.mono HB4.out.size)
      clear hb
      go_wp2_with fail
      refine (scan_err (hE.out.on HB5.out) HU2.out).mono ?_
      rintro e w6 ⟨rfl, hb⟩
      have HB6 : Hid (Below w.heap.size w w6) := HB5.out.trans (hb.mono HB5.out.size)
      clear hb
      go_wp2_with fail
      go_ret
      exact ⟨rfl, HB6.out⟩
theorem errors_walk (s : ByteArray) (full : Bool) (w : World) (hE : Hid (Env w)) (hs : s.size ≤ 9223372036854775807) :
    Calls Tryd.prog 7 #[.string s, .bool full] w fun e w' => e = .returned (.bool true) ∧ Below w.heap.size w w' := by
  cases hr : scanP 0 (cutB s).data.toList with
  | ok ts =>
    cases full
    · exact errors_f_ok s w hE hs ts hr
    · exact errors_t_ok s w hE hs ts hr
  | err a z =>
    have hz := (error_plain _ _ _ _ hr).2.2.2.2
    rcases hz with rfl | rfl | rfl
    · cases full
      · exact errors_f_2 s w hE hs a hr
      · exact errors_t_2 s w hE hs a hr
    · cases full
      · exact errors_f_3 s w hE hs a hr
      · exact errors_t_3 s w hE hs a hr
    · cases full
      · exact errors_f_10 s w hE hs a hr
      · exact errors_t_10 s w hE hs a hr
end Go.Proofs.YtkhkdgkafocpoaaDoor
