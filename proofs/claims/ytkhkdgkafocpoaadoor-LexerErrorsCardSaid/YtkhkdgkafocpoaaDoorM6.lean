/- The walk of LexerJoins. Conditions: the variables that the calls read; the arguments' lengths are Go's. -/
import Derived.Test.YtkhkdgkafocpoaaDoorM4
namespace Go.Proofs.YtkhkdgkafocpoaaDoor
set_option maxRecDepth 20000
open Go.RowKit

theorem scanP_pos : ∀ (l : List UInt8) (a : Nat) (ts : List Tok), scanP a l = .ok ts → ∀ t ∈ ts, t.pos < a + l.length := by
  refine scan_ind (fun l hg a ts h t ht => ?_) (fun l e hd hf a ts h t ht => ?_) (fun l t n hf ih a ts h u hu => ?_)
  · rw [scanP_idle a hg] at h
    injection h with h
    subst h
    cases ht
  · rw [scanP_gap0, scanP_bad _ hd (gapP_drop l false) hf] at h
    cases h
  · rw [scanP_gap0, scanP_tok _ hf] at h
    obtain ⟨us, h1, rfl⟩ := pre_ok h
    obtain ⟨g1, g2, _⟩ := firstP_tok hf
    rw [List.length_drop] at g2
    rw [List.singleton_append] at hu
    rcases List.mem_cons.1 hu with rfl | hu
    · show a + gapP false l < _
      omega
    · have h2 := ih _ us h1 u hu
      rw [List.length_drop, List.length_drop] at h2
      omega
def shT (d : Nat) (t : Tok) : Tok := { t with pos := t.pos + d }
theorem join_err {X Y : List UInt8} {i : Nat} {e : Int} (h : scanP 0 X = .err i e) : scanP 0 (X ++ 10 :: Y) = .err i e := by
  rw [line_plain, h]
theorem join_err2 {X Y : List UInt8} {a : List Tok} {k : Nat} {f : Int} (h : scanP 0 X = .ok a) (h2 : scanP 0 Y = .err k f) : scanP 0 (X ++ 10 :: Y) = .err (k + (X.length + 1)) f := by
  have e : 0 + X.length + 1 = 0 + (X.length + 1) := by omega
  rw [line_plain, h]
  simp only
  rw [e, shift_plain, h2]; rfl
theorem join_ok {X Y : List UInt8} {a b : List Tok} (h : scanP 0 X = .ok a) (h2 : scanP 0 Y = .ok b) : scanP 0 (X ++ 10 :: Y) = .ok (a ++ b.map (shT (X.length + 1))) := by
  have e : 0 + X.length + 1 = 0 + (X.length + 1) := by omega
  rw [line_plain, h]
  simp only
  rw [e, shift_plain, h2]; rfl
theorem scan_gen (s : ByteArray) {w : World} (hE : Env w) :
    Calls Tryd.prog 11 #[.string s] w fun e w' => ∃ A n c k f, e = .returned (.tuple #[.slice A n c, .int .i64 k, .int .i64 f]) ∧ Below w.heap.size w w' := by
  refine (Scan_any s w hE).mono fun e w' he => ?_
  unfold ScanEnd at he
  cases h : scanT s.data.toList with
  | ok ts =>
    rw [h] at he
    obtain ⟨⟨A, c, h1, _⟩, hb⟩ := he
    exact ⟨A, _, c, _, _, h1, hb⟩
  | err a x =>
    rw [h] at he
    exact ⟨_, _, _, _, _, he.1, he.2⟩
theorem both_toList (x y : ByteArray) : (x ++ ⟨#[10]⟩ ++ y).data.toList = x.data.toList ++ 10 :: y.data.toList := by
  rw [app_toList, app_toList, List.append_assoc]; rfl
theorem tokT_eq {w : World} {base n c k : Nat} {A : Option Addr} {ts : List Tok} {u : Tok} (h : w.ownsRow base 25 4 (.slice A n c) n (tokC ts)) (hn : ts.length = n) (hk : k < n) (hu : ts[k]? = some u) :
    ∃ ad, A = some ad ∧ w.cell? (ad.add (k * 4)) = some (.int .i64 u.kind) ∧ w.cell? ⟨(ad.add (k * 4)).block, (ad.add (k * 4)).off + 1, none⟩ = some (.string ⟨u.text.toArray⟩) ∧ w.cell? ⟨(ad.add (k * 4)).block, (ad.add (k * 4)).off + 2, none⟩ = some (.int .i64 u.n) ∧ w.cell? ⟨(ad.add (k * 4)).block, (ad.add (k * 4)).off + 3, none⟩ = some (.int .i64 (u.pos : Int)) := by
  obtain ⟨ad, e, h1, h2, h3, h4⟩ := tokT_at h hn hk
  have : ts[k]'(by omega) = u := by
    rw [List.getElem?_eq_getElem (by omega)] at hu
    exact Option.some.inj hu
  rw [this] at h1 h2 h3 h4
  exact ⟨ad, e, h1, h2, h3, h4⟩
set_option maxHeartbeats 16000000 in
theorem joins_walk (s t : ByteArray) (w : World) (hE : Hid (Env w)) (hs : s.size ≤ 9223372036854775807) (ht : t.size ≤ 9223372036854775807) :
    Calls Tryd.prog 6 #[.string s, .string t] w fun e w' => e = .returned (.bool true) ∧ Below w.heap.size w w' := by
  have C1 := Lib.hid (sane_any w hE)
  have C2 := Lib.hid (fun w => cut_any s w hs)
  have C3 := Lib.hid (fun w => cut_any t w ht)
  have hxs0 : (cutB s).size ≤ 900 := by rw [cutB_size]; omega
  have hys0 : (cutB t).size ≤ 900 := by rw [cutB_size]; omega
  have hxl0 := cutB_len s
  have hyl0 := cutB_len t
  have hsx0 := cutB_scan s
  have hsy0 := cutB_scan t
  obtain ⟨x, hx⟩ : ∃ x, x = cutB s := ⟨_, rfl⟩
  obtain ⟨y, hy⟩ : ∃ y, y = cutB t := ⟨_, rfl⟩
  rw [← hx] at C2 hxs0 hxl0 hsx0
  rw [← hy] at C3 hys0 hyl0 hsy0
  have hxs : x.size ≤ 900 := hxs0
  have hys : y.size ≤ 900 := hys0
  have hxl := Lib.hid hxl0
  have hyl := Lib.hid hyl0
  have hsx := Lib.hid hsx0
  have hsy := Lib.hid hsy0
  have hsz : Hid (scanT (x ++ ⟨#[10]⟩ ++ y).data.toList = scanP 0 (x.data.toList ++ 10 :: y.data.toList)) := by
    show _ = _
    rw [both_toList, scanT, if_neg]
    rw [List.length_append, List.length_cons]
    omega
  clear hx hy hxs0 hys0 hxl0 hyl0 hsx0 hsy0
  go_enter Tryd.func6, Tryd.ntmps6
  go_wp2_with fail
  refine C1.out.mono ?_
  rintro e w1 ⟨rfl, hb⟩
  have HB1 := Lib.hid hb
  clear hb
  go_wp2_with fail
  refine (C2.out _).mono ?_
  rintro e w' ⟨rfl, rfl⟩
  go_wp2_with fail
  refine (C3.out _).mono ?_
  rintro e w' ⟨rfl, rfl⟩
  go_wp2_with fail
  cases hr : scanP 0 x.data.toList with
  | err i z =>
    obtain ⟨_, hzb⟩ := err_facts hr
    have HX := Lib.hid (hsx.out.trans hr)
    have HZ := Lib.hid (hsz.out.trans (join_err hr))
    clear hr
    refine (scan_err (hE.out.on HB1.out) HX.out).mono ?_
    rintro e w2 ⟨rfl, hb⟩
    have HB2 : Hid (Below w.heap.size w w2) := HB1.out.trans (hb.mono HB1.out.size)
    clear hb
    go_wp2_with fail
    refine (scan_gen y (hE.out.on HB2.out)).mono ?_
    rintro e w3 ⟨A, n, c, k, f, rfl, hb⟩
    have HB3 : Hid (Below w.heap.size w w3) := HB2.out.trans (hb.mono HB2.out.size)
    clear hb
    go_wp2_with fail
    refine (scan_err (hE.out.on HB3.out) HZ.out).mono ?_
    rintro e w4 ⟨rfl, hb⟩
    have HB4 : Hid (Below w.heap.size w w4) := HB3.out.trans (hb.mono HB3.out.size)
    clear hb
    go_wp2_with fail
    go_ret
    exact ⟨by simp, HB4.out⟩
  | ok a =>
    obtain ⟨na, hna⟩ : ∃ n, a.length = n := ⟨_, rfl⟩
    have hna9 : na ≤ 900 := by rw [← hna]; exact (text_le (B := 900) hxl.out hr).2
    have HX := Lib.hid (hsx.out.trans hr)
    have HNA := Lib.hid hna
    clear hna
    refine (scan_ok (hE.out.on HB1.out) HX.out HNA.out).mono ?_
    rintro e w2 ⟨A, ca, rfl, ho, hb⟩
    have HOA := Lib.hid ho
    have HB2 : Hid (Below w.heap.size w w2) := HB1.out.trans (hb.mono HB1.out.size)
    clear ho hb
    go_wp2_with fail
    cases hq : scanP 0 y.data.toList with
    | err k f =>
      obtain ⟨hky, hzb⟩ := err_facts hq
      have HY := Lib.hid (hsy.out.trans hq)
      have HZ := Lib.hid (hsz.out.trans (join_err2 hr hq))
      have hcast : ((k + (x.data.toList.length + 1) : Nat) : Int) = (x.size : Int) + 1 + (k : Int) := by
        rw [show x.data.toList.length = x.size by simp]; omega
      have HC := Lib.hid hcast
      clear hr hq hcast
      refine (scan_err (hE.out.on HB2.out) HY.out).mono ?_
      rintro e w3 ⟨rfl, hb⟩
      have HB3 : Hid (Below w.heap.size w w3) := HB2.out.trans (hb.mono HB2.out.size)
      clear hb
      go_wp2_with fail
      refine (scan_err (hE.out.on HB3.out) HZ.out).mono ?_
      rintro e w4 ⟨rfl, hb⟩
      have HB4 : Hid (Below w.heap.size w w4) := HB3.out.trans (hb.mono HB3.out.size)
      rw [HC.out]
      clear hb
      go_wp2_with fail
      go_ret
      exact ⟨by simp, HB4.out⟩
    | ok b =>
      obtain ⟨nb, hnb⟩ : ∃ n, b.length = n := ⟨_, rfl⟩
      have hnb9 : nb ≤ 900 := by rw [← hnb]; exact (text_le (B := 900) hyl.out hq).2
      have HY := Lib.hid (hsy.out.trans hq)
      have HNB := Lib.hid hnb
      have HPB : Hid (∀ t ∈ b, t.pos < 900) := fun t ht => by have := scanP_pos _ 0 b hq t ht; have := hyl.out; omega
      have HZ := Lib.hid (hsz.out.trans (join_ok hr hq))
      have HNZ : Hid ((a ++ b.map (shT (x.data.toList.length + 1))).length = na + nb) := by
        show _ = _
        rw [List.length_append, List.length_map, HNA.out, HNB.out]
      clear hr hq hnb
      refine (scan_ok (hE.out.on HB2.out) HY.out HNB.out).mono ?_
      rintro e w3 ⟨B, cb, rfl, ho, hb⟩
      have HOA3 := Lib.hid (own_on HOA.out hb)
      have HOB := Lib.hid ho
      have HB3 : Hid (Below w.heap.size w w3) := HB2.out.trans (hb.mono HB2.out.size)
      clear ho hb HOA
      go_wp2_with fail
      refine (scan_ok (hE.out.on HB3.out) HZ.out HNZ.out).mono ?_
      rintro e w4 ⟨C, cc, rfl, ho, hb⟩
      have HOA4 := Lib.hid (own_on HOA3.out hb)
      have HOB4 := Lib.hid (own_on HOB.out hb)
      have HOC4 := Lib.hid ho
      have HB4 : Hid (Below w.heap.size w w4) := HB3.out.trans (hb.mono HB3.out.size)
      clear ho hb HOA3 HOB
      go_wp2_with fail
      go_loopw [17] (fun i wr => ∃ j : Nat, j ≤ na + nb ∧ i = .int .i64 j ∧ Hid (wr.ownsRow w1.heap.size 25 4 (.slice A na ca) na (tokC a)) ∧ Hid (wr.ownsRow w2.heap.size 25 4 (.slice B nb cb) nb (tokC b)) ∧ Hid (wr.ownsRow w3.heap.size 25 4 (.slice C (na + nb) cc) (na + nb) (tokC (a ++ b.map (shT (x.data.toList.length + 1))))) ∧ Hid (Below w.heap.size w wr)) (fun i _ => na + nb - (RowKit.intOf i).toNat)
      case atStart => exact ⟨0, Nat.zero_le _, rfl, HOA4.out, HOB4.out, HOC4.out, HB4.out⟩
      case round =>
        clear HOA4 HOB4 HOC4 HB4
        obtain ⟨j, hj, rfl, HOA, HOB, HOC, HB⟩ := hrel
        by_cases hlt : j < na + nb
        · have hjc : (j : Int) < (na : Int) + (nb : Int) := by omega
          by_cases hja : j < na
          · have hjac : (j : Int) < (na : Int) := by omega
            obtain ⟨u, hu⟩ : ∃ u, a[j]? = some u := ⟨_, List.getElem?_eq_getElem (by rw [HNA.out]; exact hja)⟩
            have hv : (a ++ b.map (shT (x.data.toList.length + 1)))[j]? = some u := by rw [List.getElem?_append_left (by rw [HNA.out]; exact hja)]; exact hu
            obtain ⟨aa, rfl, q0, q1, q2, q3⟩ := tokT_eq (HOA.out.alloc (.cells #[.int .i64 0, .string ⟨#[]⟩, .int .i64 0, .int .i64 0] 25)) HNA.out hja hu
            obtain ⟨kd, hkd⟩ : ∃ kd, u.kind = kd := ⟨_, rfl⟩
            obtain ⟨nn, hnn⟩ : ∃ nn, u.n = nn := ⟨_, rfl⟩
            obtain ⟨pp, hpp⟩ : ∃ pp : Nat, u.pos = pp := ⟨_, rfl⟩
            obtain ⟨tt, htt⟩ : ∃ tt : ByteArray, ⟨u.text.toArray⟩ = tt := ⟨_, rfl⟩
            obtain ⟨ac, rfl, r0, r1, r2, r3⟩ := tokT_eq (HOC.out.alloc (.cells #[.int .i64 kd, .string tt, .int .i64 nn, .int .i64 (pp : Int)] 25)) HNZ.out hlt hv
            rw [hkd] at q0 r0
            rw [htt] at q1 r1
            rw [hnn] at q2 r2
            rw [hpp] at q3 r3
            clear hu hv hkd hnn hpp htt
            go_wp2_with fail
            go_quiet (fail)
            go_wp2_with fail
            go_roundw
            case rel => exact ⟨j + 1, by omega, by go_num, HOA.out.alloc _, HOB.out.alloc _, HOC.out.alloc _, below_drewN (HB.out.alloc HB.out.size _) _⟩
            case measure => simp [RowKit.intOf]; omega
          · obtain ⟨i, hi⟩ : ∃ i, j = na + i := ⟨j - na, by omega⟩
            subst hi
            have hib : i < nb := by omega
            obtain ⟨u, hu⟩ : ∃ u, b[i]? = some u := ⟨_, List.getElem?_eq_getElem (by rw [HNB.out]; exact hib)⟩
            have hpu := HPB.out u (List.mem_of_getElem? hu)
            have hv : (a ++ b.map (shT (x.data.toList.length + 1)))[na + i]? = some (shT (x.data.toList.length + 1) u) := by
              rw [List.getElem?_append_right (by rw [HNA.out]; omega), HNA.out, Nat.add_sub_cancel_left, List.getElem?_map, hu]; rfl
            obtain ⟨aa, rfl, q0, q1, q2, q3⟩ := tokT_eq (HOB.out.alloc (.cells #[.int .i64 0, .string ⟨#[]⟩, .int .i64 0, .int .i64 0] 25)) HNB.out hib hu
            obtain ⟨kd, hkd⟩ : ∃ kd, u.kind = kd := ⟨_, rfl⟩
            obtain ⟨nn, hnn⟩ : ∃ nn, u.n = nn := ⟨_, rfl⟩
            obtain ⟨pp, hpp⟩ : ∃ pp : Nat, u.pos = pp := ⟨_, rfl⟩
            obtain ⟨tt, htt⟩ : ∃ tt : ByteArray, ⟨u.text.toArray⟩ = tt := ⟨_, rfl⟩
            obtain ⟨ac, rfl, r0, r1, r2, r3⟩ := tokT_eq (HOC.out.alloc (.cells #[.int .i64 kd, .string tt, .int .i64 nn, .int .i64 ((pp : Int) + (x.size : Int) + 1)] 25)) HNZ.out hlt hv
            have hpe : ((shT (x.data.toList.length + 1) u).pos : Int) = (pp : Int) + (x.size : Int) + 1 := by
              show ((u.pos + (x.data.toList.length + 1) : Nat) : Int) = _
              rw [hpp, show x.data.toList.length = x.size by simp]; omega
            rw [hkd] at q0
            rw [htt] at q1
            rw [hnn] at q2
            rw [hpp] at q3 hpu
            rw [show (shT (x.data.toList.length + 1) u).kind = kd from hkd] at r0
            rw [show (⟨(shT (x.data.toList.length + 1) u).text.toArray⟩ : ByteArray) = tt from htt] at r1
            rw [show (shT (x.data.toList.length + 1) u).n = nn from hnn] at r2
            rw [hpe] at r3
            have hji : ((na + i : Nat) : Int) - (na : Int) = (i : Int) := by omega
            clear hu hv hkd hnn hpp htt hpe
            go_wp2_with fail
            go_quiet (fail)
            go_wp2_with fail
            go_roundw
            case rel => exact ⟨na + i + 1, by omega, by go_num, HOA.out.alloc _, HOB.out.alloc _, HOC.out.alloc _, below_drewN (HB.out.alloc HB.out.size _) _⟩
            case measure => simp [RowKit.intOf]; omega
        · obtain rfl : j = na + nb := by omega
          go_wp2_with fail
          go_ret
          exact ⟨rfl, HB.out⟩
end Go.Proofs.YtkhkdgkafocpoaaDoor
