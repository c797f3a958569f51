/- The walk of big's Read at the text 0, and at texts that no big integer has. Conditions: lengths. -/
import Derived.Test.YtikndohlnoiebaaDoorF4
namespace Go.Proofs.YtikndohlnoiebaaDoor
set_option maxRecDepth 8000
open Go.RowKit

set_option maxHeartbeats 4000000 in
theorem read_zero (s T : ByteArray) (neg : Bool) (w : World) (hP : ∀ wx, Calls Tryd.prog 28 #[.string s, .string ⟨#[45]⟩] wx fun e w' => e = .returned (.tuple #[.string T, .bool neg]) ∧ w' = wx)
    (hdec : decB T.data.toList = true) (c0 : UInt8) (hc0 : T.data.toList[0]? = some c0) (hne : (c0.toNat : Int) = 48) (hq : (!s.toList == [48]) = false) (hs : T.size ≤ 402) :
    Calls Tryd.prog 13 #[.string s] w (BigOk w ((if neg then -1 else 1) * (vl T.data.toList : Int))) := by
  obtain ⟨z, hz⟩ : ∃ z : Int, (if neg then -1 else 1) * (vl T.data.toList : Int) = z := ⟨_, rfl⟩
  rw [hz]
  have HZ := Lib.hid hz
  have HP := Lib.hid hP
  have HD : Hid (∀ wx, Calls Tryd.prog 29 #[.string T] wx fun e w' => e = .returned (.bool true) ∧ wx = w') := fun wx => by rw [← hdec]; exact isDecimal_any T wx (by omega)
  have hall : T.data.toList.all dgB = true := by
    unfold decB at hdec
    rw [Bool.and_eq_true] at hdec
    exact hdec.2
  have HA := Lib.hid hall
  have hT0 : 0 < T.size := by
    have := (List.getElem?_eq_some_iff.1 hc0).1
    simpa using this
  have hat := str_at hT0
  have hcc : T[0] = c0 := by
    rw [hat] at hc0
    exact Option.some.inj hc0
  have HS := Lib.hid hs
  have hT1 : (0 : Int) < (T.size : Int) := by omega
  rw [← hcc] at hne
  clear hP hdec hc0 hat hall hcc hz
  have hmk : ∀ wx : World, (Instr.makeSlice 22 (.int .i64 0) (.int .i64 ((T.size : Int) / 6 + 1))).run Tryd.prog wx = .ok (.slice (some ⟨wx.heap.size, 0, none⟩) 0 (T.size / 6 + 1)) (wx.alloc (.cells (madeCells #[Value.int .i64 0] (T.size / 6 + 1)) 3)) := by
    intro wx
    obtain ⟨i0, hi, hz0, hz1, hz2⟩ := info_parts infoD
    have hr := run_make (P := Tryd.prog) wx 22 3 i0 _ Tryd.underlying22 hi hz0 .i64 .i64 0 ((T.size / 6 + 1 : Nat) : Int) (by omega) (by omega) (by rw [hz2]; omega) (by omega)
    rw [Int.toNat_natCast, hz1, Nat.mul_one] at hr
    exact hr
  have hsz1 : (w.alloc (.cells #[.int .i64 0, .slice none 0 0] 24)).heap.size = w.heap.size + 1 := by simp
  have HOW : Hid (((w.alloc (.cells #[.int .i64 0, .slice none 0 0] 24)).alloc (.cells (madeCells #[Value.int .i64 0] (T.size / 6 + 1)) 3)).ownsRow (w.heap.size + 1) 3 1 (.slice (some ⟨w.heap.size + 1, 0, none⟩) 0 (T.size / 6 + 1)) 0 (dv [])) := by
    have h := World.ownsRow_made (base := w.heap.size + 1) (e := 3) (size := 1) (w.alloc (.cells #[.int .i64 0, .slice none 0 0] 24)) (madeCells #[Value.int .i64 0] (T.size / 6 + 1)) (T.size / 6 + 1) (by rw [hsz1]; exact Nat.le_refl _) (by unfold maxLen; omega) (by simp [size_madeCells])
    rw [hsz1] at h
    exact h
  have HBW : Hid (Below (w.heap.size + 1) (w.alloc (.cells #[.int .i64 0, .slice none 0 0] 24)) ((w.alloc (.cells #[.int .i64 0, .slice none 0 0] 24)).alloc (.cells (madeCells #[Value.int .i64 0] (T.size / 6 + 1)) 3))) := (Below.refl _ _).alloc (by rw [hsz1]; exact Nat.le_refl _) _
  have HSZ : Hid (w.heap.size + 1 ≤ ((w.alloc (.cells #[.int .i64 0, .slice none 0 0] 24)).alloc (.cells (madeCells #[Value.int .i64 0] (T.size / 6 + 1)) 3)).heap.size) := by show _ ≤ _; simp
  clear hsz1
  go_enter Tryd.func13, Tryd.ntmps13
  go_wp2_with fail
  refine (HP.out _).mono ?_
  rintro e w' ⟨rfl, rfl⟩
  go_wp2_with fail
  refine (HD.out _).mono ?_
  rintro e w' ⟨rfl, rfl⟩
  go_wp2_with fail
  go_loopw [4, 6] (fun v4 v6 wr => ∃ (Tr : ByteArray) (D : List Nat) (A : Option Addr) (c : Nat), v4 = .string Tr ∧ v6 = .slice A D.length c ∧ Tr.size ≤ T.size ∧ D.length ≤ 2 * (T.size - Tr.size) ∧ Hid (RdSt (vl T.data.toList) Tr.data.toList D) ∧ Hid (wr.ownsRow (w.heap.size + 1) 3 1 (.slice A D.length c) D.length (dv D)) ∧ Hid (Below (w.heap.size + 1) (w.alloc (.cells #[.int .i64 0, .slice none 0 0] 24)) wr) ∧ Hid (w.heap.size + 1 ≤ wr.heap.size)) (fun v4 _ _ => match v4 with | .string s => s.size | _ => 0)
  case atStart => exact ⟨T, [], _, _, rfl, rfl, Nat.le_refl _, Nat.zero_le _, ⟨HA.out, ⟨fun _ h => (by cases h), (by simp [NoZ])⟩, by show 0 * _ + _ = _; omega, .inl rfl⟩, HOW, HBW, HSZ⟩
  case round =>
    clear HP HD HOW HBW HSZ hmk hne hT1 hq
    obtain ⟨Tr, D, A, c, rfl, rfl, hTs, hDl, HR, HO, HB, HSZ⟩ := hrel
    by_cases h0 : 0 < Tr.size
    · have h0' : (0 : Int) < (Tr.size : Int) := by omega
      obtain ⟨k, hk⟩ : ∃ k, k = (Tr.size - 1) % 12 + 1 := ⟨_, rfl⟩
      have hkI : (((Tr.size : Int) - 1) % 12 + 1) = (k : Int) := by omega
      have hk0 : (0 : Int) ≤ (k : Int) := by omega
      have hk1 : (k : Int) ≤ (Tr.size : Int) := by omega
      obtain ⟨gv, hgv⟩ : ∃ gv, vl (Tr.data.toList.take ((Tr.size - 1) % 12 + 1)) = gv := ⟨_, rfl⟩
      have hkl : (Tr.size - 1) % 12 + 1 ≤ Tr.size := by omega
      have hk12 : (Tr.size - 1) % 12 + 1 ≤ 12 := by omega
      have hg12 : gv < 1000000000000 := by rw [← hgv]; exact take_lt HR.out.dig hk12
      have hxl : (Tr.extract 0 ((Tr.size - 1) % 12 + 1)).data.toList = Tr.data.toList.take ((Tr.size - 1) % 12 + 1) := by rw [ext_list, List.drop_zero, Nat.sub_zero]
      have HAT : Hid (∀ wx, Calls Tryd.prog 30 #[.string (Tr.extract 0 ((Tr.size - 1) % 12 + 1))] wx fun e w' => e = .returned (.tuple #[.int .i64 (gv : Int), .nilIface]) ∧ Below wx.heap.size wx w') := fun wx => atoi_at _ gv wx (by rw [ByteArray.size_extract]; omega) (by
        rw [hxl, List.all_eq_true]
        intro x hx
        exact (List.all_eq_true.1 HR.out.dig) x (List.mem_of_mem_take hx)) (by
        rw [hxl]
        intro e
        have := congrArg List.length e
        rw [List.length_take, size_list, List.length_nil] at this
        omega) (by rw [hxl]; exact hgv)
      have hrl : (Tr.extract ((Tr.size - 1) % 12 + 1) Tr.size).data.toList = Tr.data.toList.drop ((Tr.size - 1) % 12 + 1) := by
        rw [ext_list]
        exact List.take_of_length_le (by rw [List.length_drop, size_list]; exact Nat.le_refl _)
      have hrs : (Tr.extract ((Tr.size - 1) % 12 + 1) Tr.size).size = Tr.size - ((Tr.size - 1) % 12 + 1) := by rw [ByteArray.size_extract]; omega
      have HST : Hid (∀ E, Norm E → dval E = dval D * 1000000000000 + gv → RdSt (vl T.data.toList) (Tr.extract ((Tr.size - 1) % 12 + 1) Tr.size).data.toList E) := fun E hE he => by
        rw [hrl]
        exact HR.out.step (by rw [size_list]) (by rw [size_list]; exact h0) hE (by rw [hgv]; exact he)
      have HRS := Lib.hid hrs
      have HNM := Lib.hid HR.out.norm
      clear hxl hgv hrl hrs HR
      go_wp2_with fail
      refine (HAT.out _).mono ?_
      rintro e w2 ⟨rfl, hb⟩
      have HO2 := Lib.hid (own_grown HO.out (only_of_below hb none) (fun q e e2 => by cases e2))
      have HB2 := Lib.hid (HB.out.trans (hb.mono HSZ.out))
      have HS2 := Lib.hid (Nat.le_trans HSZ.out hb.size)
      have HMB : Hid (Calls Tryd.prog 31 #[.slice A D.length c, .int .i64 1000000000000, .int .i64 (gv : Int)] w2 (MbEnd w2 (w.heap.size + 1) D 1000000000000 gv)) := multiplyBy_any (w.heap.size + 1) D.length c A D 1000000000000 gv w2 HO2.out HNM.out (by decide) (by decide) (by omega) (by omega) HS2.out
      clear hb HO HB HSZ HAT HO2
      go_wp2_with fail
      refine HMB.out.mono ?_
      rintro e w3 ⟨A3, c3, E, rfl, ho, hn, hv, hlen, hb3, hs3⟩
      have HO3 := Lib.hid ho
      have HB3 := Lib.hid (HB2.out.trans hb3)
      have HS3 := Lib.hid hs3
      have HR3 := Lib.hid (HST.out E hn hv)
      clear ho hn hv hb3 hs3 HMB HB2 HS2 HST
      go_wp2_with fail
      go_roundw
      case rel => exact ⟨Tr.extract ((Tr.size - 1) % 12 + 1) Tr.size, E, A3, c3, rfl, rfl, by have := HRS.out; omega, by have := HRS.out; omega, HR3, HO3, HB3, HS3⟩
      case measure =>
        have := HRS.out
        show (Tr.extract ((Tr.size - 1) % 12 + 1) Tr.size).size < Tr.size
        omega
    · have h0' : ¬ (0 : Int) < (Tr.size : Int) := by omega
      have hR0 : Tr.data.toList = [] := List.eq_nil_of_length_eq_zero (by rw [size_list]; omega)
      have hv : dval D = vl T.data.toList := by
        have h := HR.out.eq
        rw [hR0] at h
        have e1 : vl [] = 0 := rfl
        rw [e1, List.length_nil, Nat.pow_zero] at h
        omega
      have HV := Lib.hid hv
      have HNM := Lib.hid HR.out.norm
      have hcl := own_len HO.out
      have HRD := Lib.hid (Reads.of_own HO.out)
      have K := Lib.hid ((Blk.new w 24 #[.int .i64 0, .slice none 0 0]).below HB.out (Nat.lt_succ_self _))
      have BW : Hid (Below w.heap.size w wr) := ((Below.refl _ _).alloc (Nat.le_refl _) _).trans (HB.out.mono (Nat.le_succ _))
      have HNE : Hid (0 < D.length → ∀ ad, A = some ad → w.heap.size < ad.block) := fun hp ad e => by
        obtain ⟨g, e2, hg, -⟩ := Dig.of_row HO.out hp
        rw [e2] at e
        cases e
        exact hg
      clear hR0 hv HR HO HB HSZ
      cases neg with
      | true =>
        have HZ2 : Hid (-1 * (dval D : Int) = z) := by show _ = _; rw [HV.out]; exact HZ.out
        have HSG := Lib.hid (fun wx hx => signed_any (-1) A D.length c wx.heap.size D wx hx HNM.out (.inr (.inl rfl)) hcl)
        go_wp2_with fail
        refine (HSG.out _ HRD.out).mono ?_
        rintro e w7 ⟨s', A', c', rfl, hc', hrep, hA, hB⟩
        have HB7 := Lib.hid (BW.out.trans (hB.mono BW.out.size))
        have K7 := Lib.hid (K.out.below hB K.out.lt)
        have hrd : Reads w7 w7.heap.size 1 A' D.length (dv D) := ⟨HRD.out.1, fun hp => by rw [hA hp]; exact ((HRD.out.past hB).here).2 hp⟩
        have hE : BigOk w z _ _ := (BigEnd.stored (v0 := .int .i64 s') (Nat.le_refl _) (fun hp ad e => HNE.out hp ad ((hA hp).symm.trans e)) hrd HB7.out (HZ2.out ▸ hrep) hc' (.slice A' D.length c')).ok
        have HE := Lib.hid hE
        obtain ⟨e0, e1⟩ := two_cells K7.out (.int .i64 s') (.slice A' D.length c')
        have y0 := K7.out.frozen 0
        have y2 := K7.out.c0
        have y1 := K7.out.frozen 1
        have y3 := K7.out.c1
        clear hc' hrep hA hB hrd hE HSG
        go_wp2_with fail
        (try simp only [Exit.inBlock, Exit.then])
        refine bodyPost_ret (v := .tuple #[.agg #[.int .i64 s', .slice A' D.length c'], .int .i64 0]) (by simp [results, Tryd.results13, go_sem, e0, e1]) rfl ?_
        exact HE.out
      | false =>
        have HZ2 : Hid (1 * (dval D : Int) = z) := by show _ = _; rw [HV.out]; exact HZ.out
        have HSG := Lib.hid (fun wx hx => signed_any 1 A D.length c wx.heap.size D wx hx HNM.out (.inl rfl) hcl)
        go_wp2_with fail
        refine (HSG.out _ HRD.out).mono ?_
        rintro e w7 ⟨s', A', c', rfl, hc', hrep, hA, hB⟩
        have HB7 := Lib.hid (BW.out.trans (hB.mono BW.out.size))
        have K7 := Lib.hid (K.out.below hB K.out.lt)
        have hrd : Reads w7 w7.heap.size 1 A' D.length (dv D) := ⟨HRD.out.1, fun hp => by rw [hA hp]; exact ((HRD.out.past hB).here).2 hp⟩
        have hE : BigOk w z _ _ := (BigEnd.stored (v0 := .int .i64 s') (Nat.le_refl _) (fun hp ad e => HNE.out hp ad ((hA hp).symm.trans e)) hrd HB7.out (HZ2.out ▸ hrep) hc' (.slice A' D.length c')).ok
        have HE := Lib.hid hE
        obtain ⟨e0, e1⟩ := two_cells K7.out (.int .i64 s') (.slice A' D.length c')
        have y0 := K7.out.frozen 0
        have y2 := K7.out.c0
        have y1 := K7.out.frozen 1
        have y3 := K7.out.c1
        clear hc' hrep hA hB hrd hE HSG
        go_wp2_with fail
        (try simp only [Exit.inBlock, Exit.then])
        refine bodyPost_ret (v := .tuple #[.agg #[.int .i64 s', .slice A' D.length c'], .int .i64 0]) (by simp [results, Tryd.results13, go_sem, e0, e1]) rfl ?_
        exact HE.out
set_option maxHeartbeats 2000000 in
theorem read_nodec (s T : ByteArray) (neg : Bool) (w : World) (hP : ∀ wx, Calls Tryd.prog 28 #[.string s, .string ⟨#[45]⟩] wx fun e w' => e = .returned (.tuple #[.string T, .bool neg]) ∧ w' = wx)
    (hdec : decB T.data.toList = false) (hs : T.size ≤ 402) : Calls Tryd.prog 13 #[.string s] w (BadEnd w) := by
  have HP := Lib.hid hP
  have HD : Hid (∀ wx, Calls Tryd.prog 29 #[.string T] wx fun e w' => e = .returned (.bool false) ∧ wx = w') := fun wx => by rw [← hdec]; exact isDecimal_any T wx (by omega)
  have HB : Hid (Below w.heap.size w (w.alloc (.cells #[.int .i64 0, .slice none 0 0] 24))) := (Below.refl _ _).alloc (Nat.le_refl _) _
  clear hP hdec
  go_enter Tryd.func13, Tryd.ntmps13
  go_wp2_with fail
  refine (HP.out _).mono ?_
  rintro e w' ⟨rfl, rfl⟩
  go_wp2_with fail
  refine (HD.out _).mono ?_
  rintro e w' ⟨rfl, rfl⟩
  go_wp2_with fail
  exact bodyPost_ret (v := .tuple #[.agg #[.int .i64 0, .slice none 0 0], .int .i64 2]) (by simp [results, Tryd.results13, go_sem]) rfl ⟨rfl, HB.out⟩
set_option maxHeartbeats 2000000 in
theorem read_lead (s T : ByteArray) (neg : Bool) (w : World) (hP : ∀ wx, Calls Tryd.prog 28 #[.string s, .string ⟨#[45]⟩] wx fun e w' => e = .returned (.tuple #[.string T, .bool neg]) ∧ w' = wx)
    (hdec : decB T.data.toList = true) (c0 : UInt8) (hc0 : T.data.toList[0]? = some c0) (hne : (c0.toNat : Int) = 48) (hq : (!s.toList == [48]) = true) (hs : T.size ≤ 402) : Calls Tryd.prog 13 #[.string s] w (BadEnd w) := by
  have HP := Lib.hid hP
  have HD : Hid (∀ wx, Calls Tryd.prog 29 #[.string T] wx fun e w' => e = .returned (.bool true) ∧ wx = w') := fun wx => by rw [← hdec]; exact isDecimal_any T wx (by omega)
  have HB : Hid (Below w.heap.size w (w.alloc (.cells #[.int .i64 0, .slice none 0 0] 24))) := (Below.refl _ _).alloc (Nat.le_refl _) _
  have hT0 : 0 < T.size := by
    have := (List.getElem?_eq_some_iff.1 hc0).1
    simpa using this
  have hat := str_at hT0
  have hcc : T[0] = c0 := by
    rw [hat] at hc0
    exact Option.some.inj hc0
  have hT1 : (0 : Int) < (T.size : Int) := by omega
  rw [← hcc] at hne
  clear hP hdec hc0 hat hcc
  go_enter Tryd.func13, Tryd.ntmps13
  go_wp2_with fail
  refine (HP.out _).mono ?_
  rintro e w' ⟨rfl, rfl⟩
  go_wp2_with fail
  refine (HD.out _).mono ?_
  rintro e w' ⟨rfl, rfl⟩
  go_wp2_with fail
  exact bodyPost_ret (v := .tuple #[.agg #[.int .i64 0, .slice none 0 0], .int .i64 2]) (by simp [results, Tryd.results13, go_sem]) rfl ⟨rfl, HB.out⟩
end Go.Proofs.YtikndohlnoiebaaDoor
