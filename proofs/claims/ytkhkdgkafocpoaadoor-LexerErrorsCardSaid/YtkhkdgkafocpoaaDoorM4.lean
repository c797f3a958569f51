/- The walk of LexerPlaces. Conditions: the variables that the calls read; the argument's length is one of Go's. -/
import Derived.Test.YtkhkdgkafocpoaaDoorMa
namespace Go.Proofs.YtkhkdgkafocpoaaDoor
set_option maxRecDepth 20000
open Go.RowKit

theorem err_facts {x : ByteArray} {a : Nat} {z : Int} (h : scanP 0 x.data.toList = .err a z) : a < x.size ∧ (z != 0) = true := by
  obtain ⟨_, h2, _, _, h5⟩ := error_plain _ _ _ _ h
  have hl : x.data.toList.length = x.size := by simp
  refine ⟨by omega, ?_⟩
  rcases h5 with rfl | rfl | rfl <;> rfl
theorem drop_cons {ts : List Tok} {k : Nat} (h : k < ts.length) : ts.drop k = ts[k] :: ts.drop (k + 1) := List.drop_eq_getElem_cons h
theorem placed_at {L : List UInt8} {e : Nat} {ts : List Tok} {k : Nat} (h : placedP L e (ts.drop k)) (hk : k < ts.length) :
    e ≤ (ts[k]).pos ∧ (ts[k]).pos + (wrP ts[k]).length ≤ L.length ∧ 1 ≤ (wrP ts[k]).length ∧ (L.drop (ts[k]).pos).take (wrP ts[k]).length = wrP ts[k] ∧ idleP false ((L.drop e).take ((ts[k]).pos - e)) = true ∧ ((ts[k]).kind ≠ 1 → (ts[k]).n = 0) ∧ placedP L ((ts[k]).pos + (wrP ts[k]).length) (ts.drop (k + 1)) := by
  rw [drop_cons hk] at h
  exact h
/-- A slice of tokens of a text, at one place. -/
theorem tokT_at {w : World} {base n c k : Nat} {A : Option Addr} {ts : List Tok} (h : w.ownsRow base 25 4 (.slice A n c) n (tokC ts)) (hn : ts.length = n) (hk : k < n) :
    ∃ ad, A = some ad ∧ w.cell? (ad.add (k * 4)) = some (.int .i64 (ts[k]'(by omega)).kind) ∧ w.cell? ⟨(ad.add (k * 4)).block, (ad.add (k * 4)).off + 1, none⟩ = some (.string ⟨(ts[k]'(by omega)).text.toArray⟩) ∧ w.cell? ⟨(ad.add (k * 4)).block, (ad.add (k * 4)).off + 2, none⟩ = some (.int .i64 (ts[k]'(by omega)).n) ∧ w.cell? ⟨(ad.add (k * 4)).block, (ad.add (k * 4)).off + 3, none⟩ = some (.int .i64 ((ts[k]'(by omega)).pos : Int)) := by
  have hr := own_reads h
  obtain ⟨ad, e, _, h1, h2, h3, h4⟩ := tok_at hr (by rw [List.length_map]; exact hn) hk
  have hm : (ts.map toA)[k]'(by rw [List.length_map]; omega) = toA (ts[k]'(by omega)) := by rw [List.getElem_map]
  rw [hm] at h1 h2 h3 h4
  refine ⟨ad, e, h1, ?_, ?_, ?_⟩
  · rw [add_cell _ _ _ (by omega)]; exact h2
  · rw [add_cell _ _ _ (by omega)]; exact h3
  · rw [add_cell _ _ _ (by omega)]; exact h4
theorem extract_at {x : ByteArray} {p n : Nat} {l : List UInt8} (h : (x.data.toList.drop p).take n = l) : x.extract p (p + n) = ⟨l.toArray⟩ := by
  have h2 : (x.extract p (p + n)).data.toList = l := by rw [Lib.extract_data, Nat.add_sub_cancel_left]; exact h
  rw [← h2, str_mk]
theorem escP_ge (v : List UInt8) : v.length ≤ (escP v).length := by
  induction v with
  | nil => simp
  | cons b v ih => rw [escP]; split <;> simp only [List.length_cons] <;> omega
set_option maxHeartbeats 8000000 in
theorem places_walk (s : ByteArray) (w : World) (hE : Hid (Env w)) (hs : s.size ≤ 9223372036854775807) :
    Calls Tryd.prog 5 #[.string s] w fun e w' => e = .returned (.bool true) ∧ Below w.heap.size w w' := by
  have C1 := Lib.hid (sane_any w hE)
  have C2 := Lib.hid (fun w => cut_any s w hs)
  obtain ⟨x, hx⟩ : ∃ x, x = cutB s := ⟨_, rfl⟩
  have hxs : x.size ≤ 900 := by rw [hx, cutB_size]; omega
  have hxl : x.data.toList.length ≤ 900 := by rw [hx]; exact cutB_len s
  have hsc : scanT x.data.toList = scanP 0 x.data.toList := by rw [hx]; exact cutB_scan s
  rw [← hx] at C2
  clear hx
  cases hr : scanP 0 x.data.toList with
  | err a z =>
    obtain ⟨ha, hzb⟩ := err_facts hr
    have HS : Hid (scanT x.data.toList = .err a z) := by show _ = _; rw [hsc, hr]
    have hac : (a : Int) < (x.size : Int) := by omega
    clear hr hsc hxl
    go_enter Tryd.func5, Tryd.ntmps5
    go_wp2_with fail
    refine C1.out.mono ?_
    rintro e w1 ⟨rfl, hb⟩
    have HB1 := Lib.hid hb
    clear hb
    go_wp2_with fail
    refine (C2.out _).mono ?_
    rintro e w' ⟨rfl, rfl⟩
    go_wp2_with fail
    refine (scan_err (hE.out.on HB1.out) HS.out).mono ?_
    rintro e w2 ⟨rfl, hb⟩
    have HB2 : Hid (Below w.heap.size w w2) := HB1.out.trans (hb.mono HB1.out.size)
    clear hb
    go_wp2_with fail
    go_ret
    exact ⟨rfl, HB2.out⟩
  | ok ts =>
    have htx := text_le (B := 900) hxl hr
    obtain ⟨n, hn⟩ : ∃ n, ts.length = n := ⟨_, rfl⟩
    have hn9 : n ≤ 900 := by rw [← hn]; exact htx.2
    have HS : Hid (scanT x.data.toList = .ok ts) := by show _ = _; rw [hsc, hr]
    have HPL := Lib.hid (places_plain hr)
    have HN := Lib.hid hn
    clear hr hsc hxl htx hn
    go_enter Tryd.func5, Tryd.ntmps5
    go_wp2_with fail
    refine C1.out.mono ?_
    rintro e w1 ⟨rfl, hb⟩
    have HB1 := Lib.hid hb
    clear hb
    go_wp2_with fail
    refine (C2.out _).mono ?_
    rintro e w' ⟨rfl, rfl⟩
    go_wp2_with fail
    refine (scan_ok (hE.out.on HB1.out) HS.out HN.out).mono ?_
    rintro e w2 ⟨A, c, rfl, ho, hb⟩
    have HO2 := Lib.hid ho
    have HB2 : Hid (Below w.heap.size w w2) := HB1.out.trans (hb.mono HB1.out.size)
    clear ho hb
    go_wp2_with fail
    go_loopw [8, 9] (fun ev i wr => ∃ (k e : Nat), k ≤ n ∧ e ≤ x.size ∧ i = .int .i64 k ∧ ev = .int .i64 e ∧ Hid (placedP x.data.toList e (ts.drop k)) ∧ Hid (wr.ownsRow w1.heap.size 25 4 (.slice A n c) n (tokC ts)) ∧ Hid (Below w.heap.size w wr)) (fun _ i _ => n - (RowKit.intOf i).toNat)
    case atStart => exact ⟨0, 0, Nat.zero_le _, Nat.zero_le _, rfl, rfl, HPL.out, HO2.out, HB2.out⟩
    case round =>
      clear HPL HO2 HB2
      obtain ⟨k, e, hk, he, rfl, rfl, HPL, HO, HB⟩ := hrel
      by_cases hlt : k < n
      · have hlt2 : k < ts.length := by rw [HN.out]; exact hlt
        have hkc : (k : Int) < (n : Int) := by omega
        obtain ⟨ad, rfl, q0, q1, q2, q3⟩ := tokT_at HO.out HN.out hlt
        obtain ⟨p1, p2, p3, p4, p5, p6, p7⟩ := placed_at HPL.out hlt2
        obtain ⟨t, ht⟩ : ∃ t, ts[k] = t := ⟨_, rfl⟩
        rw [ht] at q0 q1 q2 q3 p1 p2 p3 p4 p5 p6 p7
        obtain ⟨p, hp⟩ : ∃ p, t.pos = p := ⟨_, rfl⟩
        obtain ⟨m, hm⟩ : ∃ m, (wrP t).length = m := ⟨_, rfl⟩
        rw [hp] at q3 p1 p2 p4 p5 p7
        rw [hm] at p2 p3 p4 p7
        rw [show x.data.toList.length = x.size by simp] at p2
        obtain ⟨kd, hkd⟩ : ∃ kd, t.kind = kd := ⟨_, rfl⟩
        obtain ⟨nn, hnn⟩ : ∃ nn, t.n = nn := ⟨_, rfl⟩
        obtain ⟨tt, htt⟩ : ∃ tt : ByteArray, ⟨t.text.toArray⟩ = tt := ⟨_, rfl⟩
        have htl : t.text = tt.data.toList := by rw [← htt]
        rw [hkd] at q0
        rw [hnn] at q2
        rw [htt] at q1
        have hfe := extract_at p4
        have HI : Hid (idleP false (x.extract e p).data.toList = true) := by
          show _ = _
          rw [Lib.extract_data]; exact p5
        have CI := Lib.hid (fun w => idle_yes (x.extract e p) w (by have := extract_size x 0; simp; omega) HI)
        have hpe : (e : Int) ≤ (p : Int) := by omega
        have hpm : (p : Int) + (m : Int) ≤ (x.size : Int) := by omega
        have HPN := Lib.hid p7
        by_cases h2 : kd = 2
        · have hwr : wrP t = quoP tt.data.toList := by rw [wrP, if_pos (by rw [hkd]; exact h2), htl]
          obtain ⟨Q, hQ⟩ : ∃ Q : ByteArray, Q = ⟨(quoP tt.data.toList).toArray⟩ := ⟨_, rfl⟩
          rw [hwr, ← hQ] at hfe
          have hQs : Q.size = m := by rw [← hm, hwr, hQ]; exact size_mk _
          have hts : tt.size ≤ 900 := by
            have h3 : (quoP tt.data.toList).length = m := by rw [← hwr]; exact hm
            have h4 : tt.data.toList.length ≤ (escP tt.data.toList).length := escP_ge _
            have h5 : tt.data.toList.length = tt.size := by simp
            simp only [quoP, List.length_cons, List.length_append, List.length_nil] at h3
            omega
          have CE : Hid (∀ w, Calls Tryd.prog 23 #[.string tt] w fun e w' => e = .returned (.string Q) ∧ w = w') := fun w => by
            have h := Escaped_any tt w (by omega)
            rw [← hQ] at h
            exact h
          have hn0 : nn = 0 := by rw [← hnn]; exact p6 (by rw [hkd]; omega)
          subst hQs hn0 h2
          have hb1 : ¬ (p : Int) < (e : Int) := by omega
          have hb2 : (p : Int) ≤ (x.size : Int) - (Q.size : Int) := by omega
          have hb3 : (1 : Int) ≤ (Q.size : Int) := by omega
          clear p2 p3 p4 p5 p6 p7 hwr hQ ht hp hm hkd hnn htt htl hlt2 hts
          go_wp2_with (first | (go_at_call 23; refine (CE.out _).mono ?_; rintro e w' ⟨rfl, rfl⟩) | (go_at_call 24; refine (CI.out _).mono ?_; rintro e w' ⟨rfl, rfl⟩))
          go_roundw
          case rel => exact ⟨k + 1, p + Q.size, by omega, by omega, by go_num, by go_num, HPN.out, HO.out.alloc _, HB.out.alloc HB.out.size _⟩
          case measure => simp [RowKit.intOf]; omega
        · have hwr : wrP t = tt.data.toList := by rw [wrP, if_neg (by rw [hkd]; exact h2), htl]
          rw [hwr, str_mk] at hfe
          have hQs : tt.size = m := by rw [← hm, hwr]; simp
          subst hQs
          have hb1 : ¬ (p : Int) < (e : Int) := by omega
          have hb2 : (p : Int) ≤ (x.size : Int) - (tt.size : Int) := by omega
          have hb3 : (1 : Int) ≤ (tt.size : Int) := by omega
          have hk2 : (kd == 2) = false := by simpa using h2
          have hk2' : (kd != 2) = true := by simpa using h2
          have CE := True.intro
          by_cases h1 : kd = 1
          · have hk1 : (kd != 1) = false := by simp [h1]
            clear p2 p3 p4 p5 p6 p7 hwr ht hp hm hkd hnn htt htl hlt2 h2 h1 CE
            go_wp2_with ((go_at_call 24; refine (CI.out _).mono ?_; rintro e w' ⟨rfl, rfl⟩))
            go_roundw
            case rel => exact ⟨k + 1, p + tt.size, by omega, by omega, by go_num, by go_num, HPN.out, HO.out.alloc _, HB.out.alloc HB.out.size _⟩
            case measure => simp [RowKit.intOf]; omega
          · have hk1 : (kd != 1) = true := by simpa using h1
            have hn0 : nn = 0 := by rw [← hnn]; exact p6 (by rw [hkd]; exact h1)
            subst hn0
            clear p2 p3 p4 p5 p6 p7 hwr ht hp hm hkd hnn htt htl hlt2 h2 h1 CE
            go_wp2_with ((go_at_call 24; refine (CI.out _).mono ?_; rintro e w' ⟨rfl, rfl⟩))
            go_roundw
            case rel => exact ⟨k + 1, p + tt.size, by omega, by omega, by go_num, by go_num, HPN.out, HO.out.alloc _, HB.out.alloc HB.out.size _⟩
            case measure => simp [RowKit.intOf]; omega
      · obtain rfl : k = n := by omega
        have HI : Hid (idleP false (x.extract e x.size).data.toList = true) := by
          show _ = _
          have h := HPL.out
          rw [← HN.out, List.drop_length] at h
          rw [extract_from]; exact h.2
        have CI := Lib.hid (fun w => idle_yes (x.extract e x.size) w (by rw [extract_from_size]; omega) HI)
        go_wp2_with fail
        refine (CI.out _).mono ?_
        rintro e w' ⟨rfl, rfl⟩
        go_wp2_with fail
        go_ret
        exact ⟨rfl, HB.out⟩
end Go.Proofs.YtkhkdgkafocpoaaDoor
