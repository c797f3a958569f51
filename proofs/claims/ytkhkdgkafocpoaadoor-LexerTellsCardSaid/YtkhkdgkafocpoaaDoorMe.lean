/- The walk of the reference's token. Conditions: lengths. -/
import Derived.Test.YtkhkdgkafocpoaaDoorMd
namespace Go.Proofs.YtkhkdgkafocpoaaDoor
set_option maxRecDepth 20000
open Go.RowKit

/-- How the reference's reader of a token ends. -/
def tokenV (f : First) (k : Nat) : Value := match f with
  | .tok t n => .tuple #[tokV t.kind ⟨t.text.toArray⟩ t.n (k : Int), .int .i64 ((k + n : Nat) : Int), .int .i64 0]
  | .bad x => .tuple #[zeroTok, .int .i64 0, .int .i64 x]
def TokenEnd (f : First) (k : Nat) (w : World) (e : Ending) (w' : World) : Prop := e = .returned (tokenV f k) ∧ Below w.heap.size w w'
theorem TokenEnd.no {f : First} {k : Nat} {x : Int} {w w' : World} {e : Ending} (h : Hid (f = .bad x)) (he : e = .returned (.tuple #[zeroTok, .int .i64 0, .int .i64 x])) (hb : Below w.heap.size w w') : TokenEnd f k w e w' := by
  refine ⟨?_, hb⟩
  rw [h.out]; exact he
theorem TokenEnd.yes {f : First} {k n : Nat} {kd nn m : Int} {u : ByteArray} {w w' : World} {e : Ending} (h : Hid (f = .tok ⟨kd, u.data.toList, nn, 0⟩ n)) (hm : Hid (m = ((k + n : Nat) : Int))) (he : e = .returned (.tuple #[tokV kd u nn (k : Int), .int .i64 m, .int .i64 0])) (hb : Below w.heap.size w w') : TokenEnd f k w e w' := by
  refine ⟨?_, hb⟩
  rw [h.out, he, hm.out]; rfl
theorem extract_mid (s : ByteArray) (k n : Nat) : (s.extract k (k + n)).data.toList = (s.data.toList.drop k).take n := by
  rw [Lib.extract_data, Nat.add_sub_cancel_left]
theorem extract_mid_size {s : ByteArray} {k n : Nat} (h : k + n ≤ s.size) : (s.extract k (k + n)).size = n := by
  have h1 := congrArg List.length (extract_mid s k n)
  have h2 : (s.extract k (k + n)).data.toList.length = (s.extract k (k + n)).size := (Lib.size_eq _).symm
  have h3 : s.data.toList.length = s.size := by simp
  rw [h2, List.length_take, List.length_drop] at h1
  omega
/-- Counting, from a place inside. -/
def CntS (f : UInt8 → Bool) (l r : List UInt8) (m : Nat) : Prop := cntP f l = m + cntP f r
theorem CntS.next {f : UInt8 → Bool} {l r : List UInt8} {m : Nat} {b : UInt8} (h : CntS f l (b :: r) m) (hb : f b = true) : CntS f l r (m + 1) := by
  unfold CntS at h ⊢
  rw [h, cntP, hb, if_pos rfl]; omega
theorem CntS.stop {f : UInt8 → Bool} {l r : List UInt8} {m : Nat} {b : UInt8} (h : CntS f l (b :: r) m) (hb : f b = false) : cntP f l = m := by
  unfold CntS at h
  rw [h, cntP, hb]; rfl
theorem CntS.end_ {f : UInt8 → Bool} {l : List UInt8} {m : Nat} (h : CntS f l [] m) : cntP f l = m := h
theorem num_same {s : ByteArray} {w : World} {l : List UInt8} (hs : s.size ≤ 1073741824) (hl : s.data.toList = l) :
    (numP l = none → Calls Tryd.prog 14 #[.string s] w fun e w' => e = .returned (.tuple #[.int .i64 0, .bool false]) ∧ w = w') ∧
    (∀ n, numP l = some n → Calls Tryd.prog 14 #[.string s] w fun e w' => e = .returned (.tuple #[.int .i64 (n : Int), .bool true]) ∧ w = w') := by
  subst hl
  have h := refNumber_any s w hs
  unfold NumSame at h
  refine ⟨fun hn => ?_, fun n hn => ?_⟩
  · rw [hn] at h; exact h
  · rw [hn] at h; exact h
/-- What the walk has at its beginning: the result's cell. -/
theorem tok_start (w : World) : ∃ w0, w0 = w.alloc (.cells #[.int .i64 0, .string ⟨#[]⟩, .int .i64 0, .int .i64 0] 25) ∧ Below w.heap.size w w0 ∧ Blk w0 w.heap.size 25 tok0 :=
  ⟨_, rfl, (Below.refl _ _).alloc (Nat.le_refl _) _, Blk.new _ _ _⟩
set_option maxHeartbeats 8000000 in
theorem token_name (s : ByteArray) (k : Nat) (w : World) (hs : s.size ≤ 268435456) (hk : k < s.size) (hl : letB s[k] = true) :
    Calls Tryd.prog 28 #[.string s, .int .i64 (k : Int)] w (TokenEnd (firstP (s.data.toList.drop k)) k w) := by
  obtain ⟨w0, hw0, hb0, hk0⟩ := tok_start w
  have hd := str_drop hk
  have hkc : (k : Int) < (s.size : Int) := by omega
  have hnf : Hid (nameF ((s.data.toList.drop k).take (cntP nameB (s.data.toList.drop k))) = firstP (s.data.toList.drop k)) := by
    show _ = _
    rw [hd]; exact name_first hl
  have hst : Hid (CntS nameB (s.data.toList.drop k) (s.data.toList.drop (k + 1)) 1) := by
    show CntS _ _ _ _
    rw [hd]
    have h0 : CntS nameB (s[k] :: s.data.toList.drop (k + 1)) (s[k] :: s.data.toList.drop (k + 1)) 0 := by unfold CntS; omega
    exact h0.next (letB_facts hl).1
  have c1 := refLetter_any s[k] w0
  rw [hl] at c1
  have C1 := Lib.hid c1
  have HW := Lib.hid hw0
  have HB0 := Lib.hid hb0
  have HK0 := Lib.hid hk0
  clear hd c1 hl hw0 hb0 hk0
  go_enter Tryd.func28, Tryd.ntmps28
  go_wp2_with fail
  rw [← HW.out]
  refine C1.out.mono ?_
  rintro e w' ⟨rfl, rfl⟩
  go_wp2_with fail
  go_loop [7] (fun i => ∃ m : Nat, 1 ≤ m ∧ k + m ≤ s.size ∧ i = .int .i64 ((k + m : Nat) : Int) ∧ Hid (CntS nameB (s.data.toList.drop k) (s.data.toList.drop (k + m)) m)) (fun i => s.size - (RowKit.intOf i).toNat)
  case atStart => exact ⟨1, Nat.le_refl _, hk, by go_num, hst.out⟩
  case round =>
    clear hst C1
    obtain ⟨m, hm1, hm, rfl, HA⟩ := hrel
    by_cases hlt : k + m < s.size
    · have hmc : (k : Int) + (m : Int) < (s.size : Int) := by omega
      have hA := HA.out
      rw [str_drop hlt] at hA
      have d1 := refLetter_any s[k + m] w0
      have d2 := refDigit_any s[k + m] w0
      cases hb : letB s[k + m]
      · rw [hb] at d1
        have D1 := Lib.hid d1
        cases hd : digB s[k + m]
        · rw [hd] at d2
          have D2 := Lib.hid d2
          by_cases h95 : s[k + m].toNat = 95
          · have hbb : ((s[k + m].toNat : Int) == 95) = true := by simp [h95]
            have hnx := Lib.hid (hA.next (by unfold nameB; simp [h95]))
            clear d1 d2 hb hd h95 hA
            go_wp2_with (first | (go_at_call 39; refine D1.out.mono ?_; rintro e w' ⟨rfl, rfl⟩) | (go_at_call 33; refine D2.out.mono ?_; rintro e w' ⟨rfl, rfl⟩))
            go_round
            case rel => exact ⟨m + 1, by omega, by omega, by go_num, hnx⟩
            case measure => simp [RowKit.intOf]; omega
          · have hbb : ((s[k + m].toNat : Int) == 95) = false := by
              have : (s[k + m].toNat : Int) ≠ 95 := by omega
              simpa using this
            have hcnt := Lib.hid (hA.stop (by unfold nameB; rw [hb, hd]; simpa using h95))
            clear d1 d2 hb hd h95 hA
            have hfe : Hid (nameF (s.extract k (k + m)).data.toList = firstP (s.data.toList.drop k)) := by
              show _ = _
              rw [extract_mid, ← hcnt.out]; exact hnf.out
            have hsz := extract_mid_size hm
            obtain ⟨X, hX⟩ : ∃ X, s.extract k (k + m) = X := ⟨_, rfl⟩
            rw [hX] at hfe hsz
            have N1 := refName_any X w0 (by omega)
            obtain ⟨q0, q1, q2, q3, f0, f1, f2, f3⟩ := tok_cells HK0.out
            cases hv : nameP X.data.toList
            · have hres : Hid (firstP (s.data.toList.drop k) = .bad 3) := by
                show _ = _
                rw [← hfe.out, nameF, hv]; rfl
              rw [hv] at N1
              have NN := Lib.hid N1
              have HSZ := Lib.hid hsz
              clear N1 hv hsz
              go_wp2_with (first | (go_at_call 39; refine D1.out.mono ?_; rintro e w' ⟨rfl, rfl⟩) | (go_at_call 33; refine D2.out.mono ?_; rintro e w' ⟨rfl, rfl⟩) | (go_at_call 19; refine NN.out.mono ?_; rintro e w' ⟨rfl, rfl⟩))
              go_wp2_with fail
              refine bodyPost_ret (v := .tuple #[zeroTok, .int .i64 0, .int .i64 3]) (by simp [results, Tryd.results28, go_sem, zeroTok, q0, q1, q2, q3]) rfl (TokenEnd.no hres rfl ?_)
              repeat (refine below_set ?_ (Nat.le_refl _) _ _)
              exact HB0.out
            · have hxl : X.data.toList.length = m := by rw [← hsz]; simp
              have hres : Hid (firstP (s.data.toList.drop k) = .tok ⟨0, X.data.toList, 0, 0⟩ m) := by
                show _ = _
                rw [← hfe.out, nameF, hv, hxl]; rfl
              rw [hv] at N1
              have NN := Lib.hid N1
              have HM : Hid ((k : Int) + (m : Int) = ((k + m : Nat) : Int)) := by show _ = _; omega
              have HSZ := Lib.hid hsz
              clear N1 hv hxl hsz
              go_wp2_with (first | (go_at_call 39; refine D1.out.mono ?_; rintro e w' ⟨rfl, rfl⟩) | (go_at_call 33; refine D2.out.mono ?_; rintro e w' ⟨rfl, rfl⟩) | (go_at_call 19; refine NN.out.mono ?_; rintro e w' ⟨rfl, rfl⟩))
              go_wp2_with fail
              refine bodyPost_ret (v := .tuple #[tokV 0 X 0 (k : Int), .int .i64 ((k : Int) + (m : Int)), .int .i64 0]) (by simp [results, Tryd.results28, go_sem, tokV, q0, q1, q2, q3]) rfl (TokenEnd.yes hres HM rfl ?_)
              repeat (refine below_set ?_ (Nat.le_refl _) _ _)
              exact HB0.out
        · rw [hd] at d2
          have D2 := Lib.hid d2
          have hnx := Lib.hid (hA.next (by unfold nameB; rw [hd]; simp))
          clear d1 d2 hb hd hA
          go_wp2_with (first | (go_at_call 39; refine D1.out.mono ?_; rintro e w' ⟨rfl, rfl⟩) | (go_at_call 33; refine D2.out.mono ?_; rintro e w' ⟨rfl, rfl⟩))
          go_round
          case rel => exact ⟨m + 1, by omega, by omega, by go_num, hnx⟩
          case measure => simp [RowKit.intOf]; omega
      · rw [hb] at d1
        have D1 := Lib.hid d1
        have hnx := Lib.hid (hA.next (by unfold nameB; rw [hb]; simp))
        clear d1 d2 hb hA
        go_wp2_with ((go_at_call 39; refine D1.out.mono ?_; rintro e w' ⟨rfl, rfl⟩))
        go_round
        case rel => exact ⟨m + 1, by omega, by omega, by go_num, hnx⟩
        case measure => simp [RowKit.intOf]; omega
    · have hme : k + m = s.size := by omega
      have hcnt : Hid (cntP nameB (s.data.toList.drop k) = m) := by
        have h := HA.out
        rw [hme, str_end] at h
        exact h.end_
      have hmc : ¬ (k : Int) + (m : Int) < (s.size : Int) := by omega
      clear hme
      have hfe : Hid (nameF (s.extract k (k + m)).data.toList = firstP (s.data.toList.drop k)) := by
        show _ = _
        rw [extract_mid, ← hcnt.out]; exact hnf.out
      have hsz := extract_mid_size hm
      obtain ⟨X, hX⟩ : ∃ X, s.extract k (k + m) = X := ⟨_, rfl⟩
      rw [hX] at hfe hsz
      have N1 := refName_any X w0 (by omega)
      obtain ⟨q0, q1, q2, q3, f0, f1, f2, f3⟩ := tok_cells HK0.out
      cases hv : nameP X.data.toList
      · have hres : Hid (firstP (s.data.toList.drop k) = .bad 3) := by
          show _ = _
          rw [← hfe.out, nameF, hv]; rfl
        rw [hv] at N1
        have NN := Lib.hid N1
        have HSZ := Lib.hid hsz
        clear N1 hv hsz
        go_wp2_with (first | (go_at_call 19; refine NN.out.mono ?_; rintro e w' ⟨rfl, rfl⟩))
        go_wp2_with fail
        refine bodyPost_ret (v := .tuple #[zeroTok, .int .i64 0, .int .i64 3]) (by simp [results, Tryd.results28, go_sem, zeroTok, q0, q1, q2, q3]) rfl (TokenEnd.no hres rfl ?_)
        repeat (refine below_set ?_ (Nat.le_refl _) _ _)
        exact HB0.out
      · have hxl : X.data.toList.length = m := by rw [← hsz]; simp
        have hres : Hid (firstP (s.data.toList.drop k) = .tok ⟨0, X.data.toList, 0, 0⟩ m) := by
          show _ = _
          rw [← hfe.out, nameF, hv, hxl]; rfl
        rw [hv] at N1
        have NN := Lib.hid N1
        have HM : Hid ((k : Int) + (m : Int) = ((k + m : Nat) : Int)) := by show _ = _; omega
        have HSZ := Lib.hid hsz
        clear N1 hv hxl hsz
        go_wp2_with (first | (go_at_call 19; refine NN.out.mono ?_; rintro e w' ⟨rfl, rfl⟩))
        go_wp2_with fail
        refine bodyPost_ret (v := .tuple #[tokV 0 X 0 (k : Int), .int .i64 ((k : Int) + (m : Int)), .int .i64 0]) (by simp [results, Tryd.results28, go_sem, tokV, q0, q1, q2, q3]) rfl (TokenEnd.yes hres HM rfl ?_)
        repeat (refine below_set ?_ (Nat.le_refl _) _ _)
        exact HB0.out
set_option maxHeartbeats 8000000 in
theorem token_num (s : ByteArray) (k : Nat) (w : World) (hs : s.size ≤ 268435456) (hk : k < s.size) (hl : letB s[k] = false) (hg : digB s[k] = true) :
    Calls Tryd.prog 28 #[.string s, .int .i64 (k : Int)] w (TokenEnd (firstP (s.data.toList.drop k)) k w) := by
  obtain ⟨w0, hw0, hb0, hk0⟩ := tok_start w
  have hd := str_drop hk
  have hkc : (k : Int) < (s.size : Int) := by omega
  have hnf : Hid (numF ((s.data.toList.drop k).take (cntP digB (s.data.toList.drop k))) = firstP (s.data.toList.drop k)) := by
    show _ = _
    rw [hd]; exact num_first hl hg
  have hst : Hid (CntS digB (s.data.toList.drop k) (s.data.toList.drop (k + 1)) 1) := by
    show CntS _ _ _ _
    rw [hd]
    have h0 : CntS digB (s[k] :: s.data.toList.drop (k + 1)) (s[k] :: s.data.toList.drop (k + 1)) 0 := by unfold CntS; omega
    exact h0.next hg
  have c1 := refLetter_any s[k] w0
  rw [hl] at c1
  have C1 := Lib.hid c1
  have c2 := refDigit_any s[k] w0
  rw [hg] at c2
  have C2 := Lib.hid c2
  have HW := Lib.hid hw0
  have HB0 := Lib.hid hb0
  have HK0 := Lib.hid hk0
  clear hd c1 c2 hl hg hw0 hb0 hk0
  go_enter Tryd.func28, Tryd.ntmps28
  go_wp2_with fail
  rw [← HW.out]
  refine C1.out.mono ?_
  rintro e w' ⟨rfl, rfl⟩
  go_wp2_with fail
  refine C2.out.mono ?_
  rintro e w' ⟨rfl, rfl⟩
  go_wp2_with fail
  go_loop [7] (fun i => ∃ m : Nat, 1 ≤ m ∧ k + m ≤ s.size ∧ i = .int .i64 ((k + m : Nat) : Int) ∧ Hid (CntS digB (s.data.toList.drop k) (s.data.toList.drop (k + m)) m)) (fun i => s.size - (RowKit.intOf i).toNat)
  case atStart => exact ⟨1, Nat.le_refl _, hk, by go_num, hst.out⟩
  case round =>
    clear hst C1 C2
    obtain ⟨m, hm1, hm, rfl, HA⟩ := hrel
    by_cases hlt : k + m < s.size
    · have hmc : (k : Int) + (m : Int) < (s.size : Int) := by omega
      have hA := HA.out
      rw [str_drop hlt] at hA
      have d2 := refDigit_any s[k + m] w0
      cases hd : digB s[k + m]
      · rw [hd] at d2
        have D2 := Lib.hid d2
        have hcnt := Lib.hid (hA.stop hd)
        clear d2 hd hA
        have hfe : Hid (numF (s.extract k (k + m)).data.toList = firstP (s.data.toList.drop k)) := by
          show _ = _
          rw [extract_mid, ← hcnt.out]; exact hnf.out
        have hsz := extract_mid_size hm
        obtain ⟨X, hX⟩ : ∃ X, s.extract k (k + m) = X := ⟨_, rfl⟩
        rw [hX] at hfe hsz
        obtain ⟨N1, N2⟩ := num_same (s := X) (w := w0) (by omega) rfl
        obtain ⟨q0, q1, q2, q3, f0, f1, f2, f3⟩ := tok_cells HK0.out
        cases hv : numP X.data.toList with
        | none =>
          have hres : Hid (firstP (s.data.toList.drop k) = .bad 3) := by
            show _ = _
            rw [← hfe.out, numF, hv]
          have NN := Lib.hid (N1 hv)
          have HSZ := Lib.hid hsz
          clear N1 N2 hv hsz
          go_wp2_with (first | (go_at_call 33; refine D2.out.mono ?_; rintro e w' ⟨rfl, rfl⟩) | (go_at_call 14; refine NN.out.mono ?_; rintro e w' ⟨rfl, rfl⟩))
          go_wp2_with fail
          refine bodyPost_ret (v := .tuple #[zeroTok, .int .i64 0, .int .i64 3]) (by simp [results, Tryd.results28, go_sem, zeroTok, q0, q1, q2, q3]) rfl (TokenEnd.no hres rfl ?_)
          repeat (refine below_set ?_ (Nat.le_refl _) _ _)
          exact HB0.out
        | some n =>
          have hxl : X.data.toList.length = m := by rw [← hsz]; simp
          have hres : Hid (firstP (s.data.toList.drop k) = .tok ⟨1, X.data.toList, (n : Int), 0⟩ m) := by
            show _ = _
            rw [← hfe.out, numF, hv, hxl]
          have NN := Lib.hid (N2 n hv)
          have HM : Hid ((k : Int) + (m : Int) = ((k + m : Nat) : Int)) := by show _ = _; omega
          have HSZ := Lib.hid hsz
          clear N1 N2 hv hxl hsz
          go_wp2_with (first | (go_at_call 33; refine D2.out.mono ?_; rintro e w' ⟨rfl, rfl⟩) | (go_at_call 14; refine NN.out.mono ?_; rintro e w' ⟨rfl, rfl⟩))
          go_wp2_with fail
          refine bodyPost_ret (v := .tuple #[tokV 1 X (n : Int) (k : Int), .int .i64 ((k : Int) + (m : Int)), .int .i64 0]) (by simp [results, Tryd.results28, go_sem, tokV, q0, q1, q2, q3]) rfl (TokenEnd.yes hres HM rfl ?_)
          repeat (refine below_set ?_ (Nat.le_refl _) _ _)
          exact HB0.out
      · rw [hd] at d2
        have D2 := Lib.hid d2
        have hnx := Lib.hid (hA.next hd)
        clear d2 hd hA
        go_wp2_with ((go_at_call 33; refine D2.out.mono ?_; rintro e w' ⟨rfl, rfl⟩))
        go_round
        case rel => exact ⟨m + 1, by omega, by omega, by go_num, hnx⟩
        case measure => simp [RowKit.intOf]; omega
    · have hme : k + m = s.size := by omega
      have hcnt : Hid (cntP digB (s.data.toList.drop k) = m) := by
        have h := HA.out
        rw [hme, str_end] at h
        exact h.end_
      have hmc : ¬ (k : Int) + (m : Int) < (s.size : Int) := by omega
      clear hme
      have hfe : Hid (numF (s.extract k (k + m)).data.toList = firstP (s.data.toList.drop k)) := by
        show _ = _
        rw [extract_mid, ← hcnt.out]; exact hnf.out
      have hsz := extract_mid_size hm
      obtain ⟨X, hX⟩ : ∃ X, s.extract k (k + m) = X := ⟨_, rfl⟩
      rw [hX] at hfe hsz
      obtain ⟨N1, N2⟩ := num_same (s := X) (w := w0) (by omega) rfl
      obtain ⟨q0, q1, q2, q3, f0, f1, f2, f3⟩ := tok_cells HK0.out
      cases hv : numP X.data.toList with
      | none =>
        have hres : Hid (firstP (s.data.toList.drop k) = .bad 3) := by
          show _ = _
          rw [← hfe.out, numF, hv]
        have NN := Lib.hid (N1 hv)
        have HSZ := Lib.hid hsz
        clear N1 N2 hv hsz
        go_wp2_with (first | (go_at_call 14; refine NN.out.mono ?_; rintro e w' ⟨rfl, rfl⟩))
        go_wp2_with fail
        refine bodyPost_ret (v := .tuple #[zeroTok, .int .i64 0, .int .i64 3]) (by simp [results, Tryd.results28, go_sem, zeroTok, q0, q1, q2, q3]) rfl (TokenEnd.no hres rfl ?_)
        repeat (refine below_set ?_ (Nat.le_refl _) _ _)
        exact HB0.out
      | some n =>
        have hxl : X.data.toList.length = m := by rw [← hsz]; simp
        have hres : Hid (firstP (s.data.toList.drop k) = .tok ⟨1, X.data.toList, (n : Int), 0⟩ m) := by
          show _ = _
          rw [← hfe.out, numF, hv, hxl]
        have NN := Lib.hid (N2 n hv)
        have HM : Hid ((k : Int) + (m : Int) = ((k + m : Nat) : Int)) := by show _ = _; omega
        have HSZ := Lib.hid hsz
        clear N1 N2 hv hxl hsz
        go_wp2_with (first | (go_at_call 14; refine NN.out.mono ?_; rintro e w' ⟨rfl, rfl⟩))
        go_wp2_with fail
        refine bodyPost_ret (v := .tuple #[tokV 1 X (n : Int) (k : Int), .int .i64 ((k : Int) + (m : Int)), .int .i64 0]) (by simp [results, Tryd.results28, go_sem, tokV, q0, q1, q2, q3]) rfl (TokenEnd.yes hres HM rfl ?_)
        repeat (refine below_set ?_ (Nat.le_refl _) _ _)
        exact HB0.out
set_option maxHeartbeats 8000000 in
theorem token_quo (s : ByteArray) (k : Nat) (w : World) (hs : s.size ≤ 268435456) (hk : k < s.size) (hl : letB s[k] = false) (hg : digB s[k] = false) (h34 : s[k].toNat = 34) :
    Calls Tryd.prog 28 #[.string s, .int .i64 (k : Int)] w (TokenEnd (firstP (s.data.toList.drop k)) k w) := by
  obtain ⟨w0, hw0, hb0, hk0⟩ := tok_start w
  have hd := str_drop hk
  have hkc : (k : Int) < (s.size : Int) := by omega
  have hqf : Hid (quoF (s.data.toList.drop (k + 1)) = firstP (s.data.toList.drop k)) := by
    show _ = _
    rw [hd]; exact quo_first h34
  have hb34 : ((s[k].toNat : Int) == 34) = true := by simp [h34]
  have c1 := refLetter_any s[k] w0
  rw [hl] at c1
  have C1 := Lib.hid c1
  have c2 := refDigit_any s[k] w0
  rw [hg] at c2
  have C2 := Lib.hid c2
  have c3 := refQuoted_any s k w0 (by omega) hk
  unfold QuotedEnd at c3
  rw [hqf.out] at c3
  obtain ⟨q0, q1, q2, q3, f0, f1, f2, f3⟩ := tok_cells hk0
  obtain ⟨f, hf⟩ : ∃ f, firstP (s.data.toList.drop k) = f := ⟨_, rfl⟩
  cases f with
  | bad x =>
    have hx2 : x = 2 := by
      have h := hqf.out
      rw [hf] at h
      unfold quoF at h
      split at h
      · split at h
        · cases h
        · injection h with h; exact h.symm
      · injection h with h; exact h.symm
    subst hx2
    have hres : Hid (firstP (s.data.toList.drop k) = .bad 2) := hf
    rw [hf] at c3
    have C3 := Lib.hid c3
    have HW := Lib.hid hw0
    have HB0 := Lib.hid hb0
    clear hd c1 c2 c3 hl hg h34 hqf hw0 hb0 hk0 hf
    go_enter Tryd.func28, Tryd.ntmps28
    go_wp2_with fail
    rw [← HW.out]
    refine C1.out.mono ?_
    rintro e w' ⟨rfl, rfl⟩
    go_wp2_with fail
    refine C2.out.mono ?_
    rintro e w' ⟨rfl, rfl⟩
    go_wp2_with fail
    refine C3.out.mono ?_
    rintro e w' ⟨rfl, rfl⟩
    unfold quotedV
    go_wp2_with fail
    refine bodyPost_ret (v := .tuple #[zeroTok, .int .i64 0, .int .i64 2]) (by simp [results, Tryd.results28, go_sem, zeroTok, q0, q1, q2, q3]) rfl (TokenEnd.no hres rfl ?_)
    repeat (refine below_set ?_ (Nat.le_refl _) _ _)
    exact HB0.out
  | tok t n =>
    have htk : t.kind = 2 ∧ t.n = 0 ∧ t.pos = 0 := by
      have h := hqf.out
      rw [hf] at h
      unfold quoF at h
      split at h
      · split at h
        · injection h with h _; rw [← h]; exact ⟨rfl, rfl, rfl⟩
        · cases h
      · cases h
    obtain ⟨X, hX⟩ : ∃ X : ByteArray, X = ⟨t.text.toArray⟩ := ⟨_, rfl⟩
    have hres : Hid (firstP (s.data.toList.drop k) = .tok ⟨2, X.data.toList, 0, 0⟩ n) := by
      show _ = _
      rw [hX, hf]
      cases t
      simp only at htk
      obtain ⟨rfl, rfl, rfl⟩ := htk
      rfl
    rw [hf] at c3
    have c4 : Calls Tryd.prog 46 #[.string s, .int .i64 (k : Int)] w0 fun e w' => e = .returned (.tuple #[.string X, .int .i64 ((k + n : Nat) : Int), .bool true]) ∧ w0 = w' := by
      rw [hX]; exact c3
    obtain ⟨M, hM⟩ : ∃ M : Int, ((k + n : Nat) : Int) = M := ⟨_, rfl⟩
    rw [hM] at c4
    have HM : Hid (M = ((k + n : Nat) : Int)) := hM.symm
    have C3 := Lib.hid c4
    have HW := Lib.hid hw0
    have HB0 := Lib.hid hb0
    clear hd c1 c2 c3 c4 hl hg h34 hqf hw0 hb0 hk0 hf htk hX hM
    go_enter Tryd.func28, Tryd.ntmps28
    go_wp2_with fail
    rw [← HW.out]
    refine C1.out.mono ?_
    rintro e w' ⟨rfl, rfl⟩
    go_wp2_with fail
    refine C2.out.mono ?_
    rintro e w' ⟨rfl, rfl⟩
    go_wp2_with fail
    refine C3.out.mono ?_
    rintro e w' ⟨rfl, rfl⟩
    go_wp2_with fail
    refine bodyPost_ret (v := .tuple #[tokV 2 X 0 (k : Int), .int .i64 M, .int .i64 0]) (by simp [results, Tryd.results28, go_sem, tokV, q0, q1, q2, q3]) rfl (TokenEnd.yes hres HM rfl ?_)
    repeat (refine below_set ?_ (Nat.le_refl _) _ _)
    exact HB0.out
set_option maxHeartbeats 8000000 in
theorem token_sign (s : ByteArray) (k : Nat) (w : World) (hs : s.size ≤ 268435456) (hk : k < s.size) (hl : letB s[k] = false) (hg : digB s[k] = false) (h34 : s[k].toNat ≠ 34) :
    Calls Tryd.prog 28 #[.string s, .int .i64 (k : Int)] w (TokenEnd (firstP (s.data.toList.drop k)) k w) := by
  obtain ⟨w0, hw0, hb0, hk0⟩ := tok_start w
  have hd := str_drop hk
  have hkc : (k : Int) < (s.size : Int) := by omega
  have hb34 : ((s[k].toNat : Int) == 34) = false := by
    have : (s[k].toNat : Int) ≠ 34 := by omega
    simpa using this
  have c1 := refLetter_any s[k] w0
  rw [hl] at c1
  have C1 := Lib.hid c1
  have c2 := refDigit_any s[k] w0
  rw [hg] at c2
  have C2 := Lib.hid c2
  have c3 := refSign_any s[k] w0
  obtain ⟨q0, q1, q2, q3, f0, f1, f2, f3⟩ := tok_cells hk0
  have HW := Lib.hid hw0
  have HB0 := Lib.hid hb0
  cases hsg : signB s[k]
  · have hres : Hid (firstP (s.data.toList.drop k) = .bad 10) := by
      show _ = _
      rw [hd]; exact none_first hl hg h34 hsg
    rw [hsg] at c3
    have C3 := Lib.hid c3
    clear hd c1 c2 c3 hl hg h34 hw0 hb0 hk0 hsg
    go_enter Tryd.func28, Tryd.ntmps28
    go_wp2_with fail
    rw [← HW.out]
    refine C1.out.mono ?_
    rintro e w' ⟨rfl, rfl⟩
    go_wp2_with fail
    refine C2.out.mono ?_
    rintro e w' ⟨rfl, rfl⟩
    go_wp2_with fail
    refine C3.out.mono ?_
    rintro e w' ⟨rfl, rfl⟩
    go_wp2_with fail
    refine bodyPost_ret (v := .tuple #[zeroTok, .int .i64 0, .int .i64 10]) (by simp [results, Tryd.results28, go_sem, zeroTok, q0, q1, q2, q3]) rfl (TokenEnd.no hres rfl ?_)
    repeat (refine below_set ?_ (Nat.le_refl _) _ _)
    exact HB0.out
  · have hx1 := extract_one hk
    obtain ⟨X, hX⟩ : ∃ X : ByteArray, s.extract k (k + 1) = X := ⟨_, rfl⟩
    rw [hX] at hx1
    have hres : Hid (firstP (s.data.toList.drop k) = .tok ⟨3, X.data.toList, 0, 0⟩ 1) := by
      show _ = _
      rw [hd, hx1]; exact sign_first hl hg h34 hsg
    have HM : Hid ((k : Int) + 1 = ((k + 1 : Nat) : Int)) := by show _ = _; omega
    rw [hsg] at c3
    have C3 := Lib.hid c3
    clear hd c1 c2 c3 hl hg h34 hw0 hb0 hk0 hsg hx1
    go_enter Tryd.func28, Tryd.ntmps28
    go_wp2_with fail
    rw [← HW.out]
    refine C1.out.mono ?_
    rintro e w' ⟨rfl, rfl⟩
    go_wp2_with fail
    refine C2.out.mono ?_
    rintro e w' ⟨rfl, rfl⟩
    go_wp2_with fail
    refine C3.out.mono ?_
    rintro e w' ⟨rfl, rfl⟩
    go_wp2_with fail
    refine bodyPost_ret (v := .tuple #[tokV 3 X 0 (k : Int), .int .i64 ((k : Int) + 1), .int .i64 0]) (by simp [results, Tryd.results28, go_sem, tokV, q0, q1, q2, q3]) rfl (TokenEnd.yes hres HM rfl ?_)
    repeat (refine below_set ?_ (Nat.le_refl _) _ _)
    exact HB0.out
theorem refToken_any (s : ByteArray) (k : Nat) (w : World) (hs : s.size ≤ 268435456) (hk : k < s.size) :
    Calls Tryd.prog 28 #[.string s, .int .i64 (k : Int)] w (TokenEnd (firstP (s.data.toList.drop k)) k w) := by
  cases hl : letB s[k]
  · cases hg : digB s[k]
    · by_cases h34 : s[k].toNat = 34
      · exact token_quo s k w hs hk hl hg h34
      · exact token_sign s k w hs hk hl hg h34
    · exact token_num s k w hs hk hl hg
  · exact token_name s k w hs hk hl
end Go.Proofs.YtkhkdgkafocpoaaDoor
