/- The walk of LexerQuotes. Conditions: the variables that the calls read; the argument's length is one of Go's. -/
import Derived.Test.YtkhkdgkafocpoaaDoorM4
namespace Go.Proofs.YtkhkdgkafocpoaaDoor
set_option maxRecDepth 20000
open Go.RowKit

/-- The only token of a text, in memory. -/
theorem tok0_at {w : World} {base c : Nat} {A : Option Addr} {u : Tok} (h : w.ownsRow base 25 4 (.slice A 1 c) 1 (tokC [u])) :
    ∃ ad, A = some ad ∧ w.cell? ad = some (.int .i64 u.kind) ∧ w.cell? ⟨ad.block, ad.off + 1, none⟩ = some (.string ⟨u.text.toArray⟩) ∧ w.cell? ⟨ad.block, ad.off + 2, none⟩ = some (.int .i64 u.n) ∧ w.cell? ⟨ad.block, ad.off + 3, none⟩ = some (.int .i64 (u.pos : Int)) := by
  obtain ⟨ad, e, h1, h2, h3, h4⟩ := tokT_at (k := 0) h rfl (by omega)
  exact ⟨ad, e, h1, h2, h3, h4⟩
theorem only_name {L : List UInt8} (h : nameP L = true) : scanP 0 L = .ok [⟨0, L, 0, 0⟩] := name_plain h
theorem one_facts {L : List UInt8} {u : Tok} (h : scanP 0 L = .ok [u]) :
    (nameP L = true → u = ⟨0, L, 0, 0⟩) ∧ (∀ n, numP L = some n → u = ⟨1, L, n, 0⟩) ∧ (u.text = L → u.pos = 0 → u.kind = 0 → nameP L = true) ∧ (u.text = L → u.pos = 0 → u.kind = 1 → ∃ n : Nat, u.n = n ∧ numP L = some n) := by
  have hu := (scanP_all L 0 [u] h).1 u (by simp)
  refine ⟨fun h1 => ?_, fun n h1 => ?_, fun h1 h2 h3 => ?_, fun h1 h2 h3 => ?_⟩
  · rw [name_plain h1] at h
    injection h with h
    injection h with h _
    exact h.symm
  · rw [num_plain h1] at h
    injection h with h
    injection h with h _
    exact h.symm
  · rw [← h1]; exact hu.2.2.1 h3
  · rw [← h1]; exact hu.2.2.2.1 h3
theorem not_one {L : List UInt8} (h : ∀ u, scanP 0 L ≠ .ok [u]) : nameP L = false ∧ numP L = none := by
  refine ⟨?_, ?_⟩
  · cases hn : nameP L
    · rfl
    · exact absurd (name_plain hn) (h _)
  · cases hn : numP L with
    | none => rfl
    | some n => exact absurd (num_plain hn) (h _)
theorem num_le {L : List UInt8} {n : Nat} (h : numP L = some n) : n ≤ 1099511627776 := by
  unfold numP at h
  split at h
  · rename_i hc
    injection h with h
    rw [← h]; exact hc.2.2.2
  · cases h
theorem name_le {L : List UInt8} (h : nameP L = true) : L.length ≤ 20 := by
  simp only [nameP, Bool.and_eq_true] at h
  simpa using h.1.2
theorem tok1_C (t : Tok) : tokC [t] = tok1 t := by simp [tokC]
theorem Name_T {s : ByteArray} {w : World} (hs : s.size ≤ 1073741824) (h : nameP s.data.toList = true) : Calls Tryd.prog 18 #[.string s] w fun e w' => e = .returned (.bool true) ∧ w = w' := by
  have := Name_any s w hs
  rw [h] at this; exact this
theorem Name_F {s : ByteArray} {w : World} (hs : s.size ≤ 1073741824) (h : nameP s.data.toList = false) : Calls Tryd.prog 18 #[.string s] w fun e w' => e = .returned (.bool false) ∧ w = w' := by
  have := Name_any s w hs
  rw [h] at this; exact this
set_option maxHeartbeats 16000000 in
theorem quotes_yes (s : ByteArray) (w : World) (hE : Hid (Env w)) (hs : s.size ≤ 9223372036854775807) (HV : Hid (valueP (cutB s).data.toList = true)) :
    Calls Tryd.prog 8 #[.string s] w fun e w' => e = .returned (.bool true) ∧ Below w.heap.size w w' := by
  have C1 := Lib.hid (sane_any w hE)
  have C2 := Lib.hid (fun w => cut_any s w hs)
  have hxs0 : (cutB s).size ≤ 900 := by rw [cutB_size]; omega
  have hxl : Hid ((cutB s).data.toList.length ≤ 900) := cutB_len s
  have hsc : Hid (scanT (cutB s).data.toList = scanP 0 (cutB s).data.toList) := cutB_scan s
  obtain ⟨x, hx⟩ : ∃ x, x = cutB s := ⟨_, rfl⟩
  rw [← hx] at C2 hxs0 hxl hsc HV
  have hxs : x.size ≤ 900 := hxs0
  clear hx hxs0
  have C3 : Hid (∀ w, Env w → Calls Tryd.prog 15 #[.string x] w fun e w' => e = .returned (.tuple #[.string ⟨(quoP x.data.toList).toArray⟩, .bool true]) ∧ Below w.heap.size w w') := fun w hE => by
    refine (Quote_any x w (by omega) hE).mono fun e w' he => ?_
    unfold QuoteEnd at he
    rw [HV.out] at he
    exact he
  have HQ : Hid (scanT (quoP x.data.toList) = .ok [⟨2, x.data.toList, 0, 0⟩]) := by
    show _ = _
    have h1 := escP_length x.data.toList
    have h2 : x.data.toList.length = x.size := by simp
    rw [scanT, if_neg (by simp only [quoP, List.length_cons, List.length_append, List.length_nil]; omega), quote_plain HV.out]
  obtain ⟨Q, hQ⟩ : ∃ Q : ByteArray, Q = ⟨(quoP x.data.toList).toArray⟩ := ⟨_, rfl⟩
  have HQ2 : Hid (scanT Q.data.toList = .ok [⟨2, x.data.toList, 0, 0⟩]) := by
    show _ = _
    rw [hQ]; exact HQ.out
  rw [← hQ] at C3
  clear hQ
  go_enter Tryd.func8, Tryd.ntmps8
  go_wp2_with fail
  refine C1.out.mono ?_
  rintro e w1 ⟨rfl, hb⟩
  have HB1 := Lib.hid hb
  clear hb
  go_wp2_with fail
  refine (C2.out _).mono ?_
  rintro e w' ⟨rfl, rfl⟩
  go_wp2_with fail
  refine (C3.out _ (hE.out.on HB1.out)).mono ?_
  rintro e w2 ⟨rfl, hb⟩
  have HB2 : Hid (Below w.heap.size w w2) := HB1.out.trans (hb.mono HB1.out.size)
  clear hb
  go_wp2_with fail
  go_loop [7, 8] (fun p i => ∃ (k : Nat) (b : Bool), k ≤ x.size ∧ i = .int .i64 k ∧ p = .bool b ∧ Hid (b = (decide (x.size ≤ 400) && (x.data.toList.take k).all plainB))) (fun _ i => x.size - (RowKit.intOf i).toNat)
  case atStart => exact ⟨0, _, Nat.zero_le _, rfl, rfl, by show _ = _; simp; omega⟩
  case round =>
    obtain ⟨k, b, hk, rfl, rfl, HA⟩ := hrel
    by_cases hlt : k < x.size
    · have hkc : (k : Int) < (x.size : Int) := by omega
      have hts := take_snoc hlt
      cases b
      · have hnx : Hid (false = (decide (x.size ≤ 400) && (x.data.toList.take (k + 1)).all plainB)) := by
          show _ = _
          rw [hts, List.all_append, ← Bool.and_assoc, ← HA.out]; rfl
        clear hts
        go_wp2_with fail
        go_round
        case rel => exact ⟨k + 1, false, by omega, by go_num, rfl, hnx⟩
        case measure => simp [RowKit.intOf]; omega
      · have hal : (decide (x.size ≤ 400) && (x.data.toList.take (k + 1)).all plainB) = plainB x[k] := by
          rw [hts, List.all_append, ← Bool.and_assoc, ← HA.out]; simp
        by_cases h32 : 32 ≤ (x[k].toNat : Int)
        · by_cases h126 : (x[k].toNat : Int) ≤ 126
          · have hnx : Hid (true = (decide (x.size ≤ 400) && (x.data.toList.take (k + 1)).all plainB)) := by
              show _ = _
              rw [hal]; unfold plainB; symm; simp; omega
            clear hts hal
            go_wp2_with fail
            go_round
            case rel => exact ⟨k + 1, true, by omega, by go_num, rfl, hnx⟩
            case measure => simp [RowKit.intOf]; omega
          · have hnx : Hid (false = (decide (x.size ≤ 400) && (x.data.toList.take (k + 1)).all plainB)) := by
              show _ = _
              rw [hal]; unfold plainB; symm; simp; omega
            have hd : decide ((x[k].toNat : Int) ≤ 126) = false := by simpa using h126
            clear hts hal h126
            go_wp2_with fail
            go_round
            case rel => exact ⟨k + 1, false, by omega, by go_num, rfl, hnx⟩
            case measure => simp [RowKit.intOf]; omega
        · have hnx : Hid (false = (decide (x.size ≤ 400) && (x.data.toList.take (k + 1)).all plainB)) := by
            show _ = _
            rw [hal]; unfold plainB; symm; simp; omega
          have hd : decide (32 ≤ (x[k].toNat : Int)) = false := by simpa using h32
          clear hts hal h32
          go_wp2_with fail
          go_round
          case rel => exact ⟨k + 1, false, by omega, by go_num, rfl, hnx⟩
          case measure => simp [RowKit.intOf]; omega
    · obtain rfl : k = x.size := by omega
      have hbv : b = true := by
        rw [HA.out, ← HV.out, valueP, List.take_of_length_le (by simp)]
        simp
      subst hbv
      clear HA hlt hk
      go_wp2_with fail
      refine (scan_ok (hE.out.on HB2.out) HQ2.out rfl).mono ?_
      rintro e w3 ⟨A3, c3, rfl, ho, hb⟩
      have HB3 : Hid (Below w.heap.size w w3) := HB2.out.trans (hb.mono HB2.out.size)
      obtain ⟨ad, rfl, q0, q1, q2, q3⟩ := tok0_at ho
      rw [show (⟨(x.data.toList).toArray⟩ : ByteArray) = x from str_mk x] at q1
      clear ho hb
      go_wp2_with fail
      clear q0 q1 q2 q3
      cases hr : scanP 0 x.data.toList with
      | err a z =>
        obtain ⟨_, hzb⟩ := err_facts hr
        have hno := not_one (L := x.data.toList) (fun u h => by rw [hr] at h; cases h)
        have HS := Lib.hid ((hsc.out).trans hr)
        have HNM := Lib.hid hno.1
        have HNU := Lib.hid hno.2
        clear hr hno
        refine (scan_err (hE.out.on HB3.out) HS.out).mono ?_
        rintro e w7 ⟨rfl, hb⟩
        have HB7 : Hid (Below w.heap.size w w7) := HB3.out.trans (hb.mono HB3.out.size)
        clear hb
        go_wp2_with fail
        refine (num_no (by omega) (hE.out.on HB7.out) HNU.out).mono ?_
        rintro e w8 ⟨rfl, hb⟩
        have HB8 : Hid (Below w.heap.size w w8) := HB7.out.trans (hb.mono HB7.out.size)
        clear hb
        go_wp2_with fail
        refine (Name_F (by omega) HNM.out).mono ?_
        rintro e w' ⟨rfl, rfl⟩
        go_wp2_with fail
        go_ret
        exact ⟨rfl, HB8.out⟩
      | ok ts =>
        obtain ⟨n, hn⟩ : ∃ n, ts.length = n := ⟨_, rfl⟩
        have HS := Lib.hid ((hsc.out).trans hr)
        by_cases h1 : n = 1
        · subst h1
          obtain ⟨u, rfl⟩ : ∃ u, ts = [u] := List.length_eq_one_iff.1 hn
          obtain ⟨o1, o2, o3, o4⟩ := one_facts hr
          clear hr hn
          refine (scan_ok (hE.out.on HB3.out) HS.out rfl).mono ?_
          rintro e w7 ⟨A, c, rfl, ho, hb⟩
          have HO7 := Lib.hid ho
          have HB7 : Hid (Below w.heap.size w w7) := HB3.out.trans (hb.mono HB3.out.size)
          clear ho hb
          by_cases hw : u.text = x.data.toList
          · by_cases hp : u.pos = 0
            · by_cases hk0 : u.kind = 0
              · have HNM := Lib.hid (o3 hw hp hk0)
                have h20 : (x.size : Int) ≤ 20 := by
                  have h := name_le HNM.out
                  rw [show x.data.toList.length = x.size by simp] at h
                  omega
                have HNU : Hid (numP x.data.toList = none) := by
                  show _ = _
                  cases hq : numP x.data.toList with
                  | none => rfl
                  | some m => have := o2 m hq; rw [this] at hk0; simp at hk0
                have htt : (⟨u.text.toArray⟩ : ByteArray) = x := by rw [hw, str_mk]
                clear o1 o2 o3 o4 hw
                go_wp2_with fail
                refine (num_no (by omega) (hE.out.on HB7.out) HNU.out).mono ?_
                rintro e w8 ⟨rfl, hb⟩
                have HB8 : Hid (Below w.heap.size w w8) := HB7.out.trans (hb.mono HB7.out.size)
                have ho8 := own_on HO7.out hb
                obtain ⟨ad, rfl, q0, q1, q2, q3⟩ := tok0_at ho8
                clear hb ho8 HO7
                rw [hk0] at q0
                rw [htt] at q1
                rw [hp] at q3
                obtain ⟨nn, hnn⟩ : ∃ nn, u.n = nn := ⟨_, rfl⟩
                rw [hnn] at q2
                clear hnn hk0 hp htt
                go_wp2_with fail
                refine (Name_T (by omega) HNM.out).mono ?_
                rintro e w' ⟨rfl, rfl⟩
                go_wp2_with fail
                go_ret
                exact ⟨rfl, HB8.out⟩
              · by_cases hk1 : u.kind = 1
                · obtain ⟨m, hm, hnu⟩ := o4 hw hp hk1
                  have HNU := Lib.hid hnu
                  have hm40 : (m : Int) ≤ 1099511627776 := by have := num_le hnu; omega
                  have hm40' := Lib.hid hm40
                  have HNM : Hid (nameP x.data.toList = false) := by
                    show _ = _
                    cases hq : nameP x.data.toList
                    · rfl
                    · have := o1 hq; rw [this] at hk1; simp at hk1
                  have htt : (⟨u.text.toArray⟩ : ByteArray) = x := by rw [hw, str_mk]
                  clear o1 o2 o3 o4 hw hnu hk0 hm40
                  go_wp2_with fail
                  refine (num_yes (by omega) (hE.out.on HB7.out) HNU.out).mono ?_
                  rintro e w8 ⟨rfl, hb⟩
                  have HB8 : Hid (Below w.heap.size w w8) := HB7.out.trans (hb.mono HB7.out.size)
                  have ho8 := own_on HO7.out hb
                  obtain ⟨ad, rfl, q0, q1, q2, q3⟩ := tok0_at ho8
                  clear hb ho8 HO7
                  rw [hk1] at q0
                  rw [htt] at q1
                  rw [hp] at q3
                  rw [hm] at q2
                  have hm40 := hm40'.out
                  clear hk1 hp hm htt
                  go_wp2_with fail
                  refine (Name_F (by omega) HNM.out).mono ?_
                  rintro e w' ⟨rfl, rfl⟩
                  go_wp2_with fail
                  go_ret
                  exact ⟨rfl, HB8.out⟩
                · have HNU : Hid (numP x.data.toList = none) := by
                    show _ = _
                    cases hq : numP x.data.toList with
                    | none => rfl
                    | some m => have := o2 m hq; rw [this] at hk1; simp at hk1
                  have HNM : Hid (nameP x.data.toList = false) := by
                    show _ = _
                    cases hq : nameP x.data.toList
                    · rfl
                    · have := o1 hq; rw [this] at hk0; simp at hk0
                  have htt : (⟨u.text.toArray⟩ : ByteArray) = x := by rw [hw, str_mk]
                  have hb0 : (u.kind == 0) = false := by simpa using hk0
                  have hb1 : (u.kind == 1) = false := by simpa using hk1
                  clear o1 o2 o3 o4 hw hk0 hk1
                  go_wp2_with fail
                  refine (num_no (by omega) (hE.out.on HB7.out) HNU.out).mono ?_
                  rintro e w8 ⟨rfl, hb⟩
                  have HB8 : Hid (Below w.heap.size w w8) := HB7.out.trans (hb.mono HB7.out.size)
                  have ho8 := own_on HO7.out hb
                  obtain ⟨ad, rfl, q0, q1, q2, q3⟩ := tok0_at ho8
                  clear hb ho8 HO7
                  obtain ⟨kd, hkd⟩ : ∃ kd, u.kind = kd := ⟨_, rfl⟩
                  obtain ⟨nn, hnn⟩ : ∃ nn, u.n = nn := ⟨_, rfl⟩
                  rw [hkd] at q0 hb0 hb1
                  rw [hnn] at q2
                  rw [htt] at q1
                  rw [hp] at q3
                  clear hkd hnn hp htt
                  go_wp2_with fail
                  refine (Name_F (by omega) HNM.out).mono ?_
                  rintro e w' ⟨rfl, rfl⟩
                  go_wp2_with fail
                  go_ret
                  exact ⟨rfl, HB8.out⟩
            · have HNU : Hid (numP x.data.toList = none) := by
                show _ = _
                cases hq : numP x.data.toList with
                | none => rfl
                | some m => exact absurd (by rw [o2 m hq]) hp
              have HNM : Hid (nameP x.data.toList = false) := by
                show _ = _
                cases hq : nameP x.data.toList
                · rfl
                · exact absurd (by rw [o1 hq]) hp
              have htt : (⟨u.text.toArray⟩ : ByteArray) = x := by rw [hw, str_mk]
              have hpb : ((u.pos : Int) == 0) = false := by
                have : (u.pos : Int) ≠ 0 := by omega
                simpa using this
              clear o1 o2 o3 o4 hw hp
              go_wp2_with fail
              refine (num_no (by omega) (hE.out.on HB7.out) HNU.out).mono ?_
              rintro e w8 ⟨rfl, hb⟩
              have HB8 : Hid (Below w.heap.size w w8) := HB7.out.trans (hb.mono HB7.out.size)
              have ho8 := own_on HO7.out hb
              obtain ⟨ad, rfl, q0, q1, q2, q3⟩ := tok0_at ho8
              clear hb ho8 HO7
              obtain ⟨kd, hkd⟩ : ∃ kd, u.kind = kd := ⟨_, rfl⟩
              obtain ⟨nn, hnn⟩ : ∃ nn, u.n = nn := ⟨_, rfl⟩
              obtain ⟨pp, hpp⟩ : ∃ pp : Nat, u.pos = pp := ⟨_, rfl⟩
              rw [hkd] at q0
              rw [hnn] at q2
              rw [htt] at q1
              rw [hpp] at q3 hpb
              clear hkd hnn hpp htt
              go_wp2_with fail
              refine (Name_F (by omega) HNM.out).mono ?_
              rintro e w' ⟨rfl, rfl⟩
              go_wp2_with fail
              go_ret
              exact ⟨rfl, HB8.out⟩
          · have HNU : Hid (numP x.data.toList = none) := by
              show _ = _
              cases hq : numP x.data.toList with
              | none => rfl
              | some m => exact absurd (by rw [o2 m hq]) hw
            have HNM : Hid (nameP x.data.toList = false) := by
              show _ = _
              cases hq : nameP x.data.toList
              · rfl
              · exact absurd (by rw [o1 hq]) hw
            obtain ⟨tt, htt⟩ : ∃ tt : ByteArray, ⟨u.text.toArray⟩ = tt := ⟨_, rfl⟩
            have hne : ¬ tt.toList = x.toList := by
              rw [Lib.toList_data, Lib.toList_data, ← htt]; exact hw
            have hneb : (tt.toList == x.toList) = false := by simpa using hne
            clear o1 o2 o3 o4 hw
            go_wp2_with fail
            refine (num_no (by omega) (hE.out.on HB7.out) HNU.out).mono ?_
            rintro e w8 ⟨rfl, hb⟩
            have HB8 : Hid (Below w.heap.size w w8) := HB7.out.trans (hb.mono HB7.out.size)
            have ho8 := own_on HO7.out hb
            obtain ⟨ad, rfl, q0, q1, q2, q3⟩ := tok0_at ho8
            clear hb ho8 HO7
            obtain ⟨kd, hkd⟩ : ∃ kd, u.kind = kd := ⟨_, rfl⟩
            obtain ⟨nn, hnn⟩ : ∃ nn, u.n = nn := ⟨_, rfl⟩
            obtain ⟨pp, hpp⟩ : ∃ pp : Nat, u.pos = pp := ⟨_, rfl⟩
            rw [hkd] at q0
            rw [hnn] at q2
            rw [htt] at q1
            rw [hpp] at q3
            clear hkd hnn hpp htt
            go_wp2_with fail
            refine (Name_F (by omega) HNM.out).mono ?_
            rintro e w' ⟨rfl, rfl⟩
            go_wp2_with fail
            go_ret
            exact ⟨rfl, HB8.out⟩
        · have hno := not_one (L := x.data.toList) (fun u h => by rw [hr] at h; injection h with h; rw [h] at hn; exact h1 hn.symm)
          have hn9 : n ≤ 900 := by rw [← hn]; exact (text_le (B := 900) hxl.out hr).2
          have HN := Lib.hid hn
          have HNM := Lib.hid hno.1
          have HNU := Lib.hid hno.2
          have hb1 : ((n : Int) != 1) = true := by
            have : (n : Int) ≠ 1 := by omega
            simpa using this
          clear hr hno hn h1
          refine (scan_ok (hE.out.on HB3.out) HS.out HN.out).mono ?_
          rintro e w7 ⟨A, c, rfl, ho, hb⟩
          have HB7 : Hid (Below w.heap.size w w7) := HB3.out.trans (hb.mono HB3.out.size)
          clear ho hb
          go_wp2_with fail
          refine (num_no (by omega) (hE.out.on HB7.out) HNU.out).mono ?_
          rintro e w8 ⟨rfl, hb⟩
          have HB8 : Hid (Below w.heap.size w w8) := HB7.out.trans (hb.mono HB7.out.size)
          clear hb
          go_wp2_with fail
          refine (Name_F (by omega) HNM.out).mono ?_
          rintro e w' ⟨rfl, rfl⟩
          go_wp2_with fail
          go_ret
          exact ⟨rfl, HB8.out⟩
set_option maxHeartbeats 16000000 in
theorem quotes_no (s : ByteArray) (w : World) (hE : Hid (Env w)) (hs : s.size ≤ 9223372036854775807) (HV : Hid (valueP (cutB s).data.toList = false)) :
    Calls Tryd.prog 8 #[.string s] w fun e w' => e = .returned (.bool true) ∧ Below w.heap.size w w' := by
  have C1 := Lib.hid (sane_any w hE)
  have C2 := Lib.hid (fun w => cut_any s w hs)
  have hxs0 : (cutB s).size ≤ 900 := by rw [cutB_size]; omega
  have hxl : Hid ((cutB s).data.toList.length ≤ 900) := cutB_len s
  have hsc : Hid (scanT (cutB s).data.toList = scanP 0 (cutB s).data.toList) := cutB_scan s
  obtain ⟨x, hx⟩ : ∃ x, x = cutB s := ⟨_, rfl⟩
  rw [← hx] at C2 hxs0 hxl hsc HV
  have hxs : x.size ≤ 900 := hxs0
  clear hx hxs0
  have C3 : Hid (∀ w, Env w → Calls Tryd.prog 15 #[.string x] w fun e w' => e = .returned (.tuple #[.string ⟨#[]⟩, .bool false]) ∧ Below w.heap.size w w') := fun w hE => by
    refine (Quote_any x w (by omega) hE).mono fun e w' he => ?_
    unfold QuoteEnd at he
    rw [HV.out] at he
    exact he
  go_enter Tryd.func8, Tryd.ntmps8
  go_wp2_with fail
  refine C1.out.mono ?_
  rintro e w1 ⟨rfl, hb⟩
  have HB1 := Lib.hid hb
  clear hb
  go_wp2_with fail
  refine (C2.out _).mono ?_
  rintro e w' ⟨rfl, rfl⟩
  go_wp2_with fail
  refine (C3.out _ (hE.out.on HB1.out)).mono ?_
  rintro e w2 ⟨rfl, hb⟩
  have HB2 : Hid (Below w.heap.size w w2) := HB1.out.trans (hb.mono HB1.out.size)
  clear hb
  go_wp2_with fail
  go_loop [7, 8] (fun p i => ∃ (k : Nat) (b : Bool), k ≤ x.size ∧ i = .int .i64 k ∧ p = .bool b ∧ Hid (b = (decide (x.size ≤ 400) && (x.data.toList.take k).all plainB))) (fun _ i => x.size - (RowKit.intOf i).toNat)
  case atStart => exact ⟨0, _, Nat.zero_le _, rfl, rfl, by show _ = _; simp; omega⟩
  case round =>
    obtain ⟨k, b, hk, rfl, rfl, HA⟩ := hrel
    by_cases hlt : k < x.size
    · have hkc : (k : Int) < (x.size : Int) := by omega
      have hts := take_snoc hlt
      cases b
      · have hnx : Hid (false = (decide (x.size ≤ 400) && (x.data.toList.take (k + 1)).all plainB)) := by
          show _ = _
          rw [hts, List.all_append, ← Bool.and_assoc, ← HA.out]; rfl
        clear hts
        go_wp2_with fail
        go_round
        case rel => exact ⟨k + 1, false, by omega, by go_num, rfl, hnx⟩
        case measure => simp [RowKit.intOf]; omega
      · have hal : (decide (x.size ≤ 400) && (x.data.toList.take (k + 1)).all plainB) = plainB x[k] := by
          rw [hts, List.all_append, ← Bool.and_assoc, ← HA.out]; simp
        by_cases h32 : 32 ≤ (x[k].toNat : Int)
        · by_cases h126 : (x[k].toNat : Int) ≤ 126
          · have hnx : Hid (true = (decide (x.size ≤ 400) && (x.data.toList.take (k + 1)).all plainB)) := by
              show _ = _
              rw [hal]; unfold plainB; symm; simp; omega
            clear hts hal
            go_wp2_with fail
            go_round
            case rel => exact ⟨k + 1, true, by omega, by go_num, rfl, hnx⟩
            case measure => simp [RowKit.intOf]; omega
          · have hnx : Hid (false = (decide (x.size ≤ 400) && (x.data.toList.take (k + 1)).all plainB)) := by
              show _ = _
              rw [hal]; unfold plainB; symm; simp; omega
            have hd : decide ((x[k].toNat : Int) ≤ 126) = false := by simpa using h126
            clear hts hal h126
            go_wp2_with fail
            go_round
            case rel => exact ⟨k + 1, false, by omega, by go_num, rfl, hnx⟩
            case measure => simp [RowKit.intOf]; omega
        · have hnx : Hid (false = (decide (x.size ≤ 400) && (x.data.toList.take (k + 1)).all plainB)) := by
            show _ = _
            rw [hal]; unfold plainB; symm; simp; omega
          have hd : decide (32 ≤ (x[k].toNat : Int)) = false := by simpa using h32
          clear hts hal h32
          go_wp2_with fail
          go_round
          case rel => exact ⟨k + 1, false, by omega, by go_num, rfl, hnx⟩
          case measure => simp [RowKit.intOf]; omega
    · obtain rfl : k = x.size := by omega
      have hbv : b = false := by
        rw [HA.out, ← HV.out, valueP, List.take_of_length_le (by simp)]
        simp
      subst hbv
      clear HA hlt hk
      go_wp2_with fail
      cases hr : scanP 0 x.data.toList with
      | err a z =>
        obtain ⟨_, hzb⟩ := err_facts hr
        have hno := not_one (L := x.data.toList) (fun u h => by rw [hr] at h; cases h)
        have HS := Lib.hid ((hsc.out).trans hr)
        have HNM := Lib.hid hno.1
        have HNU := Lib.hid hno.2
        clear hr hno
        refine (scan_err (hE.out.on HB2.out) HS.out).mono ?_
        rintro e w7 ⟨rfl, hb⟩
        have HB7 : Hid (Below w.heap.size w w7) := HB2.out.trans (hb.mono HB2.out.size)
        clear hb
        go_wp2_with fail
        refine (num_no (by omega) (hE.out.on HB7.out) HNU.out).mono ?_
        rintro e w8 ⟨rfl, hb⟩
        have HB8 : Hid (Below w.heap.size w w8) := HB7.out.trans (hb.mono HB7.out.size)
        clear hb
        go_wp2_with fail
        refine (Name_F (by omega) HNM.out).mono ?_
        rintro e w' ⟨rfl, rfl⟩
        go_wp2_with fail
        go_ret
        exact ⟨rfl, HB8.out⟩
      | ok ts =>
        obtain ⟨n, hn⟩ : ∃ n, ts.length = n := ⟨_, rfl⟩
        have HS := Lib.hid ((hsc.out).trans hr)
        by_cases h1 : n = 1
        · subst h1
          obtain ⟨u, rfl⟩ : ∃ u, ts = [u] := List.length_eq_one_iff.1 hn
          obtain ⟨o1, o2, o3, o4⟩ := one_facts hr
          clear hr hn
          refine (scan_ok (hE.out.on HB2.out) HS.out rfl).mono ?_
          rintro e w7 ⟨A, c, rfl, ho, hb⟩
          have HO7 := Lib.hid ho
          have HB7 : Hid (Below w.heap.size w w7) := HB2.out.trans (hb.mono HB2.out.size)
          clear ho hb
          by_cases hw : u.text = x.data.toList
          · by_cases hp : u.pos = 0
            · by_cases hk0 : u.kind = 0
              · have HNM := Lib.hid (o3 hw hp hk0)
                have h20 : (x.size : Int) ≤ 20 := by
                  have h := name_le HNM.out
                  rw [show x.data.toList.length = x.size by simp] at h
                  omega
                have HNU : Hid (numP x.data.toList = none) := by
                  show _ = _
                  cases hq : numP x.data.toList with
                  | none => rfl
                  | some m => have := o2 m hq; rw [this] at hk0; simp at hk0
                have htt : (⟨u.text.toArray⟩ : ByteArray) = x := by rw [hw, str_mk]
                clear o1 o2 o3 o4 hw
                go_wp2_with fail
                refine (num_no (by omega) (hE.out.on HB7.out) HNU.out).mono ?_
                rintro e w8 ⟨rfl, hb⟩
                have HB8 : Hid (Below w.heap.size w w8) := HB7.out.trans (hb.mono HB7.out.size)
                have ho8 := own_on HO7.out hb
                obtain ⟨ad, rfl, q0, q1, q2, q3⟩ := tok0_at ho8
                clear hb ho8 HO7
                rw [hk0] at q0
                rw [htt] at q1
                rw [hp] at q3
                obtain ⟨nn, hnn⟩ : ∃ nn, u.n = nn := ⟨_, rfl⟩
                rw [hnn] at q2
                clear hnn hk0 hp htt
                go_wp2_with fail
                refine (Name_T (by omega) HNM.out).mono ?_
                rintro e w' ⟨rfl, rfl⟩
                go_wp2_with fail
                go_ret
                exact ⟨rfl, HB8.out⟩
              · by_cases hk1 : u.kind = 1
                · obtain ⟨m, hm, hnu⟩ := o4 hw hp hk1
                  have HNU := Lib.hid hnu
                  have hm40 : (m : Int) ≤ 1099511627776 := by have := num_le hnu; omega
                  have hm40' := Lib.hid hm40
                  have HNM : Hid (nameP x.data.toList = false) := by
                    show _ = _
                    cases hq : nameP x.data.toList
                    · rfl
                    · have := o1 hq; rw [this] at hk1; simp at hk1
                  have htt : (⟨u.text.toArray⟩ : ByteArray) = x := by rw [hw, str_mk]
                  clear o1 o2 o3 o4 hw hnu hk0 hm40
                  go_wp2_with fail
                  refine (num_yes (by omega) (hE.out.on HB7.out) HNU.out).mono ?_
                  rintro e w8 ⟨rfl, hb⟩
                  have HB8 : Hid (Below w.heap.size w w8) := HB7.out.trans (hb.mono HB7.out.size)
                  have ho8 := own_on HO7.out hb
                  obtain ⟨ad, rfl, q0, q1, q2, q3⟩ := tok0_at ho8
                  clear hb ho8 HO7
                  rw [hk1] at q0
                  rw [htt] at q1
                  rw [hp] at q3
                  rw [hm] at q2
                  have hm40 := hm40'.out
                  clear hk1 hp hm htt
                  go_wp2_with fail
                  refine (Name_F (by omega) HNM.out).mono ?_
                  rintro e w' ⟨rfl, rfl⟩
                  go_wp2_with fail
                  go_ret
                  exact ⟨rfl, HB8.out⟩
                · have HNU : Hid (numP x.data.toList = none) := by
                    show _ = _
                    cases hq : numP x.data.toList with
                    | none => rfl
                    | some m => have := o2 m hq; rw [this] at hk1; simp at hk1
                  have HNM : Hid (nameP x.data.toList = false) := by
                    show _ = _
                    cases hq : nameP x.data.toList
                    · rfl
                    · have := o1 hq; rw [this] at hk0; simp at hk0
                  have htt : (⟨u.text.toArray⟩ : ByteArray) = x := by rw [hw, str_mk]
                  have hb0 : (u.kind == 0) = false := by simpa using hk0
                  have hb1 : (u.kind == 1) = false := by simpa using hk1
                  clear o1 o2 o3 o4 hw hk0 hk1
                  go_wp2_with fail
                  refine (num_no (by omega) (hE.out.on HB7.out) HNU.out).mono ?_
                  rintro e w8 ⟨rfl, hb⟩
                  have HB8 : Hid (Below w.heap.size w w8) := HB7.out.trans (hb.mono HB7.out.size)
                  have ho8 := own_on HO7.out hb
                  obtain ⟨ad, rfl, q0, q1, q2, q3⟩ := tok0_at ho8
                  clear hb ho8 HO7
                  obtain ⟨kd, hkd⟩ : ∃ kd, u.kind = kd := ⟨_, rfl⟩
                  obtain ⟨nn, hnn⟩ : ∃ nn, u.n = nn := ⟨_, rfl⟩
                  rw [hkd] at q0 hb0 hb1
                  rw [hnn] at q2
                  rw [htt] at q1
                  rw [hp] at q3
                  clear hkd hnn hp htt
                  go_wp2_with fail
                  refine (Name_F (by omega) HNM.out).mono ?_
                  rintro e w' ⟨rfl, rfl⟩
                  go_wp2_with fail
                  go_ret
                  exact ⟨rfl, HB8.out⟩
            · have HNU : Hid (numP x.data.toList = none) := by
                show _ = _
                cases hq : numP x.data.toList with
                | none => rfl
                | some m => exact absurd (by rw [o2 m hq]) hp
              have HNM : Hid (nameP x.data.toList = false) := by
                show _ = _
                cases hq : nameP x.data.toList
                · rfl
                · exact absurd (by rw [o1 hq]) hp
              have htt : (⟨u.text.toArray⟩ : ByteArray) = x := by rw [hw, str_mk]
              have hpb : ((u.pos : Int) == 0) = false := by
                have : (u.pos : Int) ≠ 0 := by omega
                simpa using this
              clear o1 o2 o3 o4 hw hp
              go_wp2_with fail
              refine (num_no (by omega) (hE.out.on HB7.out) HNU.out).mono ?_
              rintro e w8 ⟨rfl, hb⟩
              have HB8 : Hid (Below w.heap.size w w8) := HB7.out.trans (hb.mono HB7.out.size)
              have ho8 := own_on HO7.out hb
              obtain ⟨ad, rfl, q0, q1, q2, q3⟩ := tok0_at ho8
              clear hb ho8 HO7
              obtain ⟨kd, hkd⟩ : ∃ kd, u.kind = kd := ⟨_, rfl⟩
              obtain ⟨nn, hnn⟩ : ∃ nn, u.n = nn := ⟨_, rfl⟩
              obtain ⟨pp, hpp⟩ : ∃ pp : Nat, u.pos = pp := ⟨_, rfl⟩
              rw [hkd] at q0
              rw [hnn] at q2
              rw [htt] at q1
              rw [hpp] at q3 hpb
              clear hkd hnn hpp htt
              go_wp2_with fail
              refine (Name_F (by omega) HNM.out).mono ?_
              rintro e w' ⟨rfl, rfl⟩
              go_wp2_with fail
              go_ret
              exact ⟨rfl, HB8.out⟩
          · have HNU : Hid (numP x.data.toList = none) := by
              show _ = _
              cases hq : numP x.data.toList with
              | none => rfl
              | some m => exact absurd (by rw [o2 m hq]) hw
            have HNM : Hid (nameP x.data.toList = false) := by
              show _ = _
              cases hq : nameP x.data.toList
              · rfl
              · exact absurd (by rw [o1 hq]) hw
            obtain ⟨tt, htt⟩ : ∃ tt : ByteArray, ⟨u.text.toArray⟩ = tt := ⟨_, rfl⟩
            have hne : ¬ tt.toList = x.toList := by
              rw [Lib.toList_data, Lib.toList_data, ← htt]; exact hw
            have hneb : (tt.toList == x.toList) = false := by simpa using hne
            clear o1 o2 o3 o4 hw
            go_wp2_with fail
            refine (num_no (by omega) (hE.out.on HB7.out) HNU.out).mono ?_
            rintro e w8 ⟨rfl, hb⟩
            have HB8 : Hid (Below w.heap.size w w8) := HB7.out.trans (hb.mono HB7.out.size)
            have ho8 := own_on HO7.out hb
            obtain ⟨ad, rfl, q0, q1, q2, q3⟩ := tok0_at ho8
            clear hb ho8 HO7
            obtain ⟨kd, hkd⟩ : ∃ kd, u.kind = kd := ⟨_, rfl⟩
            obtain ⟨nn, hnn⟩ : ∃ nn, u.n = nn := ⟨_, rfl⟩
            obtain ⟨pp, hpp⟩ : ∃ pp : Nat, u.pos = pp := ⟨_, rfl⟩
            rw [hkd] at q0
            rw [hnn] at q2
            rw [htt] at q1
            rw [hpp] at q3
            clear hkd hnn hpp htt
            go_wp2_with fail
            refine (Name_F (by omega) HNM.out).mono ?_
            rintro e w' ⟨rfl, rfl⟩
            go_wp2_with fail
            go_ret
            exact ⟨rfl, HB8.out⟩
        · have hno := not_one (L := x.data.toList) (fun u h => by rw [hr] at h; injection h with h; rw [h] at hn; exact h1 hn.symm)
          have hn9 : n ≤ 900 := by rw [← hn]; exact (text_le (B := 900) hxl.out hr).2
          have HN := Lib.hid hn
          have HNM := Lib.hid hno.1
          have HNU := Lib.hid hno.2
          have hb1 : ((n : Int) != 1) = true := by
            have : (n : Int) ≠ 1 := by omega
            simpa using this
          clear hr hno hn h1
          refine (scan_ok (hE.out.on HB2.out) HS.out HN.out).mono ?_
          rintro e w7 ⟨A, c, rfl, ho, hb⟩
          have HB7 : Hid (Below w.heap.size w w7) := HB2.out.trans (hb.mono HB2.out.size)
          clear ho hb
          go_wp2_with fail
          refine (num_no (by omega) (hE.out.on HB7.out) HNU.out).mono ?_
          rintro e w8 ⟨rfl, hb⟩
          have HB8 : Hid (Below w.heap.size w w8) := HB7.out.trans (hb.mono HB7.out.size)
          clear hb
          go_wp2_with fail
          refine (Name_F (by omega) HNM.out).mono ?_
          rintro e w' ⟨rfl, rfl⟩
          go_wp2_with fail
          go_ret
          exact ⟨rfl, HB8.out⟩
theorem quotes_walk (s : ByteArray) (w : World) (hE : Hid (Env w)) (hs : s.size ≤ 9223372036854775807) :
    Calls Tryd.prog 8 #[.string s] w fun e w' => e = .returned (.bool true) ∧ Below w.heap.size w w' := by
  cases hv : valueP (cutB s).data.toList
  · exact quotes_no s w hE hs hv
  · exact quotes_yes s w hE hs hv
end Go.Proofs.YtkhkdgkafocpoaaDoor
