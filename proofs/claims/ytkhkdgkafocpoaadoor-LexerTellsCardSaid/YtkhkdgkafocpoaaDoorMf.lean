/- The walks of the reference's Scan and Print. Conditions: lengths. -/
import Derived.Test.YtkhkdgkafocpoaaDoorMe
namespace Go.Proofs.YtkhkdgkafocpoaaDoor
set_option maxRecDepth 20000
open Go.RowKit

/-- The rest of a scan, in a gap or not. -/
def scanG (c : Bool) (a : Nat) (l : List UInt8) : Res := scanP (a + gapP c l) (l.drop (gapP c l))
theorem scanG_start (l : List UInt8) : scanP 0 l = (scanG false 0 l).pre [] := by
  rw [Res.pre_nil, scanG, scanP_gap0]
theorem scanG_step {c c' : Bool} {b : UInt8} {l : List UInt8} {a : Nat} (h : gapStep c b = some c') : scanG c a (b :: l) = scanG c' (a + 1) l := by
  have hg : gapP c (b :: l) = gapP c' l + 1 := by rw [gapP, h]
  rw [scanG, scanG, hg, List.drop_succ_cons]
  congr 1
  omega
theorem scanG_hash {l : List UInt8} {a : Nat} : scanG false a (35 :: l) = scanG true a (35 :: l) := by
  rw [scanG_step (c := false) (c' := true) rfl, scanG_step (c := true) (c' := true) rfl]
theorem scanG_none {b : UInt8} {l : List UInt8} {a : Nat} (h : gapStep false b = none) : scanG false a (b :: l) = scanP a (b :: l) := by
  have hg : gapP false (b :: l) = 0 := by rw [gapP, h]
  rw [scanG, hg]; rfl
theorem scanG_after {a : Nat} {l : List UInt8} : scanP a l = scanG false a l := by rw [scanG, scanP_gap0]
theorem token_bad {s : ByteArray} {k : Nat} {w : World} {x : Int} (hs : s.size ≤ 268435456) (hk : k < s.size) (h : firstP (s.data.toList.drop k) = .bad x) :
    Calls Tryd.prog 28 #[.string s, .int .i64 (k : Int)] w fun e w' => e = .returned (.tuple #[.agg #[.int .i64 0, .string ⟨#[]⟩, .int .i64 0, .int .i64 0], .int .i64 0, .int .i64 x]) ∧ Below w.heap.size w w' := by
  have := refToken_any s k w hs hk
  rw [h] at this
  exact this
theorem token_tok {s : ByteArray} {k : Nat} {w : World} {t : Tok} {n : Nat} (hs : s.size ≤ 268435456) (hk : k < s.size) (h : firstP (s.data.toList.drop k) = .tok t n) :
    Calls Tryd.prog 28 #[.string s, .int .i64 (k : Int)] w fun e w' => e = .returned (.tuple #[.agg #[.int .i64 t.kind, .string ⟨t.text.toArray⟩, .int .i64 t.n, .int .i64 (k : Int)], .int .i64 ((k + n : Nat) : Int), .int .i64 0]) ∧ Below w.heap.size w w' := by
  have := refToken_any s k w hs hk
  rw [h] at this
  exact this
def boolN (v : Value) : Nat := match v with
  | .bool true => 0
  | _ => 1
set_option maxHeartbeats 8000000 in
theorem refScan_any (s : ByteArray) (w : World) :
    Calls Tryd.prog 12 #[.string s] w (ScanEnd (scanT s.data.toList) w) := by
  have hl : s.data.toList.length = s.size := by simp
  have HB0 : Hid (Below w.heap.size w w) := Below.refl _ _
  by_cases h4 : (4000 : Int) < (s.size : Int)
  · have hres : Hid (scanT s.data.toList = .err 0 6) := by
      show _ = _
      rw [scanT, hl, if_pos (by omega)]
    clear hl
    go_enter Tryd.func12, Tryd.ntmps12
    go_wp2_with fail
    go_ret3
    exact ScanEnd.no hres rfl HB0.out
  · have hs : s.size ≤ 4000 := by omega
    have hres : Hid (scanT s.data.toList = scanP 0 s.data.toList) := by
      show _ = _
      rw [scanT, hl, if_neg (by omega)]
    obtain ⟨i0, hi, hz0, hz1, hz2⟩ := info_parts infoTok
    clear hl h4
    go_enter Tryd.func12, Tryd.ntmps12
    go_wp2_with fail
    go_loopw [5, 6, 7] (fun v i c wr => ∃ (k n : Nat) (d : Bool) (ts : List Tok) (A : Option Addr) (cp : Nat), k ≤ s.size ∧ n ≤ k ∧ i = .int .i64 k ∧ c = .bool d ∧ v = .slice A n cp ∧ Hid (n = ts.length) ∧ Hid (wr.ownsRow w.heap.size 25 4 (.slice A n cp) n (tokC ts)) ∧ Hid (Below w.heap.size w wr) ∧ Hid (scanP 0 s.data.toList = (scanG d k (s.data.toList.drop k)).pre ts)) (fun _ i c _ => 2 * (s.size - (RowKit.intOf i).toNat) + boolN c)
    case atStart => exact ⟨0, 0, false, [], none, 0, Nat.zero_le _, Nat.zero_le _, rfl, rfl, rfl, rfl, World.ownsRow_nil _ _ _ _, HB0.out, scanG_start _⟩
    case round =>
      clear HB0
      obtain ⟨k, n, d, ts, A, c, hk, hnk, rfl, rfl, rfl, HN, HO, HB, HS⟩ := hrel
      by_cases hlt : k < s.size
      · have hkc : (k : Int) < (s.size : Int) := by omega
        have hA := HS.out
        rw [str_drop hlt] at hA
        have cb := refBlank_any s[k] wr
        by_cases h10 : s[k].toNat = 10
        · have hb1 : ((s[k].toNat : Int) == 10) = true := by simp [h10]
          have hbl : blankB s[k] = true := by simp [blankB, h10]
          have hgs : gapStep d s[k] = some false := by
            cases d
            · exact gap_out2 (by omega) hbl
            · rw [gap_in, h10]; rfl
          rw [scanG_step hgs] at hA
          have hnx := Lib.hid hA
          rw [hbl] at cb
          have CB := Lib.hid cb
          clear hA cb h10 hbl hgs HS
          go_wp2_with (go_at_call 27; refine CB.out.mono ?_; rintro e w' ⟨rfl, rfl⟩)
          go_roundw
          case rel => exact ⟨k + 1, n, false, ts, A, c, by omega, by omega, by go_num, rfl, rfl, HN, HO, HB, hnx⟩
          case measure => cases d <;> simp [RowKit.intOf, boolN] <;> omega
        · have hb1 : ((s[k].toNat : Int) == 10) = false := by
            have : (s[k].toNat : Int) ≠ 10 := by omega
            simpa using this
          cases d
          · cases hbl : blankB s[k]
            · rw [hbl] at cb
              have CB := Lib.hid cb
              by_cases h35 : s[k].toNat = 35
              · have hb2 : ((s[k].toNat : Int) == 35) = true := by simp [h35]
                have e35 : s[k] = 35 := UInt8.toNat_inj.1 h35
                rw [e35, scanG_hash, ← e35, ← str_drop hlt] at hA
                have hnx := Lib.hid hA
                clear hA cb h10 hbl h35 e35 HS
                go_wp2_with (go_at_call 27; refine CB.out.mono ?_; rintro e w' ⟨rfl, rfl⟩)
                go_roundw
                case rel => exact ⟨k, n, true, ts, A, c, hk, hnk, rfl, rfl, rfl, HN, HO, HB, hnx⟩
                case measure => simp [RowKit.intOf, boolN]
              · have hb2 : ((s[k].toNat : Int) == 35) = false := by
                  have : (s[k].toNat : Int) ≠ 35 := by omega
                  simpa using this
                rw [scanG_none (gap_out3 h35 hbl), ← str_drop hlt] at hA
                have hne : s.data.toList.drop k ≠ [] := by rw [str_drop hlt]; simp
                have hgz : gapP false (s.data.toList.drop k) = 0 := by rw [str_drop hlt, gapP, gap_out3 h35 hbl]
                obtain ⟨f, hf⟩ : ∃ f, firstP (s.data.toList.drop k) = f := ⟨_, rfl⟩
                cases f with
                | bad x =>
                  have hbad := firstP_bad hf
                  have hxx : (x != 0) = true := by rcases hbad with rfl | rfl | rfl <;> rfl
                  have C := Lib.hid (fun w => token_bad (w := w) (by omega) hlt hf)
                  have hr2 : Hid (scanT s.data.toList = .err k x) := by
                    show _ = _
                    rw [hres.out, hA, scanP_bad k hne hgz hf]; rfl
                  clear hA cb h10 hbl h35 hf hbad hne hgz HS
                  go_wp2_with (first | (go_at_call 27; refine CB.out.mono ?_; rintro e w' ⟨rfl, rfl⟩) | (go_at_call 28; refine (C.out _).mono ?_; rintro e w2 ⟨rfl, hb⟩; have HB2 : Hid (Below w.heap.size w w2) := HB.out.trans (hb.mono HB.out.size); clear hb))
                  go_ret3
                  exact ScanEnd.no hr2 rfl (HB2.out.alloc HB2.out.size _)
                | tok t m =>
                  have htk := firstP_tok hf
                  have hm1 := htk.1
                  have hm2 := htk.2.1
                  rw [List.length_drop, show s.data.toList.length = s.size by simp] at hm2
                  have C := Lib.hid (fun w => token_tok (w := w) (by omega) hlt hf)
                  have HS2 : Hid (scanP 0 s.data.toList = (scanG false (k + m) (s.data.toList.drop (k + m))).pre (ts ++ [{ t with pos := k }])) := by
                    show _ = _
                    rw [hA, scanP_tok k hf, Res.pre_pre, List.drop_drop, scanG_after]
                  clear hA cb h10 hbl h35 hf htk hne hgz HS
                  go_wp2_with (go_at_call 27; refine CB.out.mono ?_; rintro e w' ⟨rfl, rfl⟩)
                  refine (C.out _).mono ?_
                  rintro e w2 ⟨rfl, hb⟩
                  have HB2 : Hid (Below w.heap.size w w2) := HB.out.trans (hb.mono HB.out.size)
                  have HO2 := Lib.hid (own_on HO.out hb)
                  clear hb
                  have HB3 := Lib.hid ((HB2.out.alloc HB2.out.size (.cells #[.int .i64 t.kind, .string ⟨t.text.toArray⟩, .int .i64 t.n, .int .i64 (k : Int)] 25)).alloc (by have := HB2.out.size; simp; omega) (.cells #[.int .i64 t.kind, .string ⟨t.text.toArray⟩, .int .i64 t.n, .int .i64 (k : Int)] 25))
                  have HO3 := Lib.hid ((HO2.out.alloc (.cells #[.int .i64 t.kind, .string ⟨t.text.toArray⟩, .int .i64 t.n, .int .i64 (k : Int)] 25)).alloc (.cells #[.int .i64 t.kind, .string ⟨t.text.toArray⟩, .int .i64 t.n, .int .i64 (k : Int)] 25))
                  have HR3 : Hid (Reads ((w2.alloc (.cells #[.int .i64 t.kind, .string ⟨t.text.toArray⟩, .int .i64 t.n, .int .i64 (k : Int)] 25)).alloc (.cells #[.int .i64 t.kind, .string ⟨t.text.toArray⟩, .int .i64 t.n, .int .i64 (k : Int)] 25)) (w2.heap.size + 2) 4 (some ⟨w2.heap.size + 1, 0, none⟩) 1 (tokC [{ t with pos := k }])) := by
                    refine ⟨rfl, fun _ => ⟨_, rfl, by simp, fun j u hj => ?_⟩⟩
                    have hc := cell_of_row ((w2.alloc (.cells #[.int .i64 t.kind, .string ⟨t.text.toArray⟩, .int .i64 t.n, .int .i64 (k : Int)] 25)).alloc (.cells #[.int .i64 t.kind, .string ⟨t.text.toArray⟩, .int .i64 t.n, .int .i64 (k : Int)] 25)) (w2.alloc (.cells #[.int .i64 t.kind, .string ⟨t.text.toArray⟩, .int .i64 t.n, .int .i64 (k : Int)] 25)).heap.size j _ _ (0, 0) (heap_alloc_new (w2.alloc (.cells #[.int .i64 t.kind, .string ⟨t.text.toArray⟩, .int .i64 t.n, .int .i64 (k : Int)] 25)) _)
                    rw [show (Addr.mk (w2.heap.size + 1) 0 none).add j = ⟨(w2.alloc (.cells #[.int .i64 t.kind, .string ⟨t.text.toArray⟩, .int .i64 t.n, .int .i64 (k : Int)] 25)).heap.size, j, none⟩ from by simp [Addr.add]; omega, hc]
                    simpa [tokC, tok1] using hj
                  have HOX := Lib.hid (tokC_one [{ t with pos := k }])
                  have hww : w.heap.size ≤ w2.heap.size := HB2.out.size
                  clear HO2 HB2
                  go_wp2_with (at_builtin; refine wpList_append_any _ rfl (.tmp 46) (.tmp 48) 22 rfl w.heap.size 25 i0 _ 4 40 Tryd.underlying22 hi hz0 hz1 hz2 rfl (by decide) (.slice A n c) n _ rfl HO3.out _ (some ⟨w2.heap.size + 1, 0, none⟩) 1 1 (tokC [{ t with pos := k }]) rfl HR3.out HOX.out (by unfold maxLen; omega) (by omega) (by simp; omega) ?_; intro v' w' p1 p2 p3)
                  obtain ⟨A5, c5, rfl, _, _⟩ := own_slice p1
                  have HO5 : Hid (w'.ownsRow w.heap.size 25 4 (.slice A5 (n + 1) c5) (n + 1) (tokC (ts ++ [{ t with pos := k }]))) := by
                    rw [tokC_app]
                    exact p1
                  have HN5 : Hid (n + 1 = (ts ++ [{ t with pos := k }]).length) := by
                    show _ = _
                    rw [List.length_append, HN.out]; rfl
                  have HB5 : Hid (Below w.heap.size w w') := HB3.out.grown p2 (by simp; omega) (fun g e => (HO3.out.lt g e).1)
                  clear p1 p2 p3 HO3 HR3 HB3 HN HO HB
                  go_wp2_with fail
                  go_roundw
                  case rel => exact ⟨k + m, n + 1, false, ts ++ [{ t with pos := k }], A5, c5, by omega, by omega, by go_num, rfl, rfl, HN5, HO5, HB5, HS2⟩
                  case measure => simp [RowKit.intOf, boolN]; omega
            · have hgs : gapStep false s[k] = some false := by
                have h35 : s[k].toNat ≠ 35 := by intro h; unfold blankB at hbl; simp [h] at hbl
                exact gap_out2 h35 hbl
              rw [scanG_step hgs] at hA
              have hnx := Lib.hid hA
              rw [hbl] at cb
              have CB := Lib.hid cb
              clear hA cb h10 hbl hgs HS
              go_wp2_with (go_at_call 27; refine CB.out.mono ?_; rintro e w' ⟨rfl, rfl⟩)
              go_roundw
              case rel => exact ⟨k + 1, n, false, ts, A, c, by omega, by omega, by go_num, rfl, rfl, HN, HO, HB, hnx⟩
              case measure => simp [RowKit.intOf, boolN]; omega
          · have hgs : gapStep true s[k] = some true := by
              rw [gap_in]; simp [h10]
            rw [scanG_step hgs] at hA
            have hnx := Lib.hid hA
            clear hA cb h10 hgs HS
            go_wp2_with fail
            go_roundw
            case rel => exact ⟨k + 1, n, true, ts, A, c, by omega, by omega, by go_num, rfl, rfl, HN, HO, HB, hnx⟩
            case measure => simp [RowKit.intOf, boolN]; omega
      · obtain rfl : k = s.size := by omega
        have hr2 : Hid (scanT s.data.toList = .ok ts) := by
          show _ = _
          rw [hres.out, HS.out, str_end]
          show Res.ok (ts ++ []) = _
          rw [List.append_nil]
        go_wp2_with fail
        go_ret3
        exact ScanEnd.yes hr2 HN.out rfl HO.out HB.out
theorem printA_snoc : ∀ (l : List ATok) (t : ATok), l ≠ [] → printA (l ++ [t]) = printA l ++ 32 :: wrA t
  | [], _, h => absurd rfl h
  | [_], _, _ => rfl
  | a :: b :: r, t, _ => by
    have h := printA_snoc (b :: r) t (by simp)
    show wrA a ++ 32 :: printA ((b :: r) ++ [t]) = wrA a ++ 32 :: printA (b :: r) ++ 32 :: wrA t
    rw [h]; simp
theorem printA_take {l : List ATok} {k : Nat} {t : ATok} (h : l[k]? = some t) : printA (l.take (k + 1)) = if k = 0 then wrA t else printA (l.take k) ++ 32 :: wrA t := by
  have hk : k < l.length := (List.getElem?_eq_some_iff.1 h).1
  have e : l.take (k + 1) = l.take k ++ [t] := by
    rw [List.take_succ_eq_append_getElem hk]
    rw [List.getElem?_eq_getElem hk] at h
    rw [Option.some.inj h]
  rw [e]
  split
  · rename_i h0; subst h0; rfl
  · rename_i h0
    refine printA_snoc _ _ ?_
    intro e2
    have := congrArg List.length e2
    rw [List.length_take, List.length_nil] at this
    omega
set_option maxHeartbeats 8000000 in
theorem refPrint_any (A : Option Addr) (n c B : Nat) (l : List ATok) (w : World) (hr : Hid (Reads w B 4 A n (arC l))) (hn : Hid (l.length = n)) (hn4 : n ≤ 100) (ht : Hid (∀ t ∈ l, t.text.length ≤ 100)) :
    Calls Tryd.prog 21 #[.slice A n c] w fun e w' => e = .returned (.string ⟨(printA l).toArray⟩) ∧ w = w' := by
  go_enter Tryd.func21, Tryd.ntmps21
  go_wp2_with fail
  go_loop [3, 4] (fun v i => ∃ (k : Nat) (u : ByteArray), k ≤ n ∧ i = .int .i64 k ∧ v = .string u ∧ u.size ≤ 300 * k ∧ Hid (u.data.toList = printA (l.take k))) (fun _ i => n - (RowKit.intOf i).toNat)
  case atStart => exact ⟨0, ⟨#[]⟩, Nat.zero_le _, rfl, rfl, Nat.zero_le _, rfl⟩
  case round =>
    obtain ⟨k, u, hk, rfl, rfl, hus, HU⟩ := hrel
    by_cases hlt : k < n
    · have hkc : (k : Int) < (n : Int) := by omega
      obtain ⟨ad, t, rfl, hab, htl, q0, q1, q2, q3⟩ := tok_at' hr.out hn.out hlt
      have hpt := printA_take htl
      have htm := ht.out t (List.mem_of_getElem? htl)
      have hwl := wrA_length t
      obtain ⟨kd, hkd⟩ : ∃ kd, t.kind = kd := ⟨_, rfl⟩
      obtain ⟨tt, htt⟩ : ∃ tt : ByteArray, ⟨t.text.toArray⟩ = tt := ⟨_, rfl⟩
      have htl2 : t.text = tt.data.toList := by rw [← htt]
      have hts : tt.size ≤ 100 := by rw [← htt, size_mk]; exact htm
      rw [hkd] at q0
      rw [htt] at q1
      clear q2 q3
      by_cases h2 : kd = 2
      · have hwr : wrA t = quoP tt.data.toList := by rw [wrA, if_pos (by rw [hkd]; exact h2), htl2]
        obtain ⟨Q, hQ⟩ : ∃ Q : ByteArray, Q = ⟨(quoP tt.data.toList).toArray⟩ := ⟨_, rfl⟩
        have hQl : Q.data.toList = wrA t := by rw [hQ, hwr]
        have hQs : Q.size ≤ 202 := by
          have h1 : Q.size = Q.data.toList.length := Lib.size_eq _
          rw [h1, hQl]; omega
        have CE : Hid (∀ w, Calls Tryd.prog 23 #[.string tt] w fun e w' => e = .returned (.string Q) ∧ w = w') := fun w => by
          have h := Escaped_any tt w (by omega)
          rw [← hQ] at h
          exact h
        subst h2
        by_cases h0 : k = 0
        · subst h0
          have q0a : w.cell? ad = some (.int .i64 2) := q0
          have q1a : w.cell? ⟨ad.block, ad.off + 1, none⟩ = some (.string tt) := q1
          have hnx : Hid ((u ++ Q).data.toList = printA (l.take (0 + 1))) := by
            show _ = _
            rw [hpt, if_pos rfl, app_toList, HU.out, hQl]; rfl
          have hsz : (u ++ Q).size ≤ 300 * (0 + 1) := by rw [app_size]; omega
          clear hpt htm hwl hkd htt htl htl2 hwr hQ hQl
          go_wp2_with (go_at_call 23; refine (CE.out _).mono ?_; rintro e w' ⟨rfl, rfl⟩)
          go_round
          case rel => exact ⟨0 + 1, _, by omega, by go_num, rfl, hsz, hnx⟩
          case measure => simp [RowKit.intOf]; omega
        · have hk0 : (0 : Int) < (k : Int) := by omega
          have hnx : Hid ((u ++ ⟨#[32]⟩ ++ Q).data.toList = printA (l.take (k + 1))) := by
            show _ = _
            rw [hpt, if_neg h0, app_toList, app_toList, HU.out, hQl]; simp
          have hsz : (u ++ ⟨#[32]⟩ ++ Q).size ≤ 300 * (k + 1) := by
            rw [app_size, app_size]
            show u.size + 1 + Q.size ≤ _
            omega
          clear hpt htm hwl hkd htt htl htl2 hwr hQ hQl h0
          go_wp2_with (go_at_call 23; refine (CE.out _).mono ?_; rintro e w' ⟨rfl, rfl⟩)
          go_round
          case rel => exact ⟨k + 1, _, by omega, by go_num, rfl, hsz, hnx⟩
          case measure => simp [RowKit.intOf]; omega
      · have hwr : wrA t = tt.data.toList := by rw [wrA, if_neg (by rw [hkd]; exact h2), htl2]
        have hkb : (kd == 2) = false := by simpa using h2
        by_cases h0 : k = 0
        · subst h0
          have q0a : w.cell? ad = some (.int .i64 kd) := q0
          have q1a : w.cell? ⟨ad.block, ad.off + 1, none⟩ = some (.string tt) := q1
          have hnx : Hid ((u ++ tt).data.toList = printA (l.take (0 + 1))) := by
            show _ = _
            rw [hpt, if_pos rfl, app_toList, HU.out, hwr]; rfl
          have hsz : (u ++ tt).size ≤ 300 * (0 + 1) := by rw [app_size]; omega
          clear hpt htm hwl hkd htt htl htl2 hwr h2
          go_wp2_with fail
          go_round
          case rel => exact ⟨0 + 1, _, by omega, by go_num, rfl, hsz, hnx⟩
          case measure => simp [RowKit.intOf]; omega
        · have hk0 : (0 : Int) < (k : Int) := by omega
          have hnx : Hid ((u ++ ⟨#[32]⟩ ++ tt).data.toList = printA (l.take (k + 1))) := by
            show _ = _
            rw [hpt, if_neg h0, app_toList, app_toList, HU.out, hwr]; simp
          have hsz : (u ++ ⟨#[32]⟩ ++ tt).size ≤ 300 * (k + 1) := by
            rw [app_size, app_size]
            show u.size + 1 + tt.size ≤ _
            omega
          clear hpt htm hwl hkd htt htl htl2 hwr h2 h0
          go_wp2_with fail
          go_round
          case rel => exact ⟨k + 1, _, by omega, by go_num, rfl, hsz, hnx⟩
          case measure => simp [RowKit.intOf]; omega
    · obtain rfl : k = n := by omega
      have hres : Hid (u = ⟨(printA l).toArray⟩) := by
        show _ = _
        have h := HU.out
        rw [List.take_of_length_le (by rw [hn.out]; exact Nat.le_refl _)] at h
        rw [← h, str_mk]
      go_wp2_with fail
      go_ret
      exact ⟨by rw [← hres.out]; rfl, rfl⟩
end Go.Proofs.YtkhkdgkafocpoaaDoor
