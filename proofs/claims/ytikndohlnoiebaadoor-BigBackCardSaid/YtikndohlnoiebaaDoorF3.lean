/- The walk of big's multiplyBy. Conditions: lengths; the factor has at most 40 bits, and more than 20. -/
import Derived.Test.YtikndohlnoiebaaDoorF1
import Derived.Test.YtikndohlnoiebaaDoorD5
namespace Go.Proofs.YtikndohlnoiebaaDoor
set_option maxRecDepth 8000
open Go.RowKit

/-- How multiplyBy ends: the digits are the call's own, or a new block's. -/
def MbEnd (w : World) (base : Nat) (D : List Nat) (y p : Nat) (e : Ending) (w' : World) : Prop :=
  ∃ A c E, e = .returned (.slice A E.length c) ∧ w'.ownsRow base 3 1 (.slice A E.length c) E.length (dv E) ∧ Norm E ∧ dval E = dval D * y + p ∧ E.length ≤ D.length + 2 ∧ Below base w w' ∧ base ≤ w'.heap.size
theorem dv_set (l : List Nat) (i v : Nat) : (dv l).set i (.int .i64 (v : Int)) = dv (l.set i v) := by simp [dv, List.map_set]
set_option maxHeartbeats 4000000 in
theorem multiplyBy_any (base n c : Nat) (A : Option Addr) (D : List Nat) (y p : Nat) (w : World) (h : w.ownsRow base 3 1 (.slice A n c) n (dv D)) (hs : Norm D) (hy1 : 1048576 ≤ y) (hy : y ≤ 1099511627776) (hp : p < 1099511627776) (hn : n ≤ 1048576) (hb : base ≤ w.heap.size) :
    Calls Tryd.prog 31 #[.slice A n c, .int .i64 y, .int .i64 p] w (MbEnd w base D y p) := by
  have hl : D.length = n := by have := h.1; rw [dv_len] at this; omega
  subst hl
  have H := Lib.hid h
  have HS := Lib.hid hs
  have HB := Lib.hid hb
  have HY0 := Lib.hid hy1
  have HY1 := Lib.hid hy
  have HP := Lib.hid hp
  obtain ⟨Y, hY⟩ : ∃ Y : Int, (y : Int) = Y := ⟨_, rfl⟩
  obtain ⟨p', hp'⟩ : ∃ X : Int, (p : Int) = X := ⟨_, rfl⟩
  have hy0 : 0 ≤ Y := by omega
  have hy2 : Y ≤ 1099511627776 := by omega
  have hp0 : 0 ≤ p' := by omega
  have hp2 : p' < 1099511627776 := by omega
  rw [hY, hp']
  have HYY := Lib.hid hY
  have HPP := Lib.hid hp'
  have hand := and_mask
  clear h hs hb hy1 hy hp hY hp'
  go_enter Tryd.func31, Tryd.ntmps31
  go_wp2_with fail
  go_loopw [2, 11] (fun q i wr => ∃ (k : Nat) (E : List Nat) (t : Nat), k ≤ D.length ∧ i = .int .i64 k ∧ q = .int .i64 t ∧ Hid (MbSt D y p k E t) ∧ Hid (wr.ownsRow base 3 1 (.slice A D.length c) D.length (dv E)) ∧ Hid (Below base w wr) ∧ Hid (base ≤ wr.heap.size)) (fun _ i _ => D.length - (RowKit.intOf i).toNat)
  case atStart => exact ⟨0, D, p, Nat.zero_le _, rfl, by rw [HPP.out], MbSt.new HS.out.1 HP.out, H, Below.refl _ _, HB⟩
  case round =>
    clear H
    obtain ⟨k, E, t, hk, rfl, rfl, HM, HO, HBW, HZ⟩ := hrel
    by_cases hlt : k < D.length
    · obtain ⟨g, rfl, hg, hdg⟩ := Dig.of_row HO.out (by omega)
      obtain ⟨d, hd⟩ : ∃ d, D[k]? = some d := ⟨_, List.getElem?_eq_getElem hlt⟩
      have g2 := hdg.cell ((at_low HM.out.low).trans hd)
      have gf := hdg.frozen k
      obtain ⟨hdl, hov, hst⟩ := HM.out.step hd HY1.out
      have HST := Lib.hid hst
      have hkc : (k : Int) < (D.length : Int) := by omega
      obtain ⟨T, hT⟩ : ∃ X : Int, (t : Int) = X := ⟨_, rfl⟩
      obtain ⟨X, hX⟩ : ∃ X : Int, (d : Int) = X := ⟨_, rfl⟩
      have hxy0 : 0 ≤ X * Y := Int.mul_nonneg (by omega) (by omega)
      have ht0 : 0 ≤ T := by omega
      have hxy1 : T + X * Y < 1152921504606846976 := by
        have h2 := Int.ofNat_lt.2 hov
        rw [Int.natCast_add, Int.natCast_mul] at h2
        rw [← hT, ← hX, ← HYY.out]
        exact h2
      rw [hX] at g2
      rw [hT]
      have HTT := Lib.hid hT
      have HXX := Lib.hid hX
      have HG := Lib.hid hg
      have hlen : E.length = D.length := HM.out.len
      clear hd hdg hov hst hT hX hg HM
      go_wp2_with fail
      go_roundw
      case rel =>
        have e1 : ((t + d * y : Nat) : Int) = T + X * Y := by rw [← HTT.out, ← HXX.out, ← HYY.out]; simp
        exact ⟨k + 1, _, _, by omega, by go_num, by rw [← e1]; rfl, HST, by
          have h := (HO.out.stored k (.int .i64 (((t + d * y) % 1048576 : Nat) : Int))).1
          rw [dv_set, show (((t + d * y) % 1048576 : Nat) : Int) = (T + X * Y) % 1048576 by rw [← e1]; rfl] at h
          exact h, HBW.out.setCell (p := ⟨g, k, none⟩) HG.out _, by have hz := HZ.out; show _ ≤ _; simpa [World.setCell] using hz⟩
      case measure => simp [RowKit.intOf]; omega
    · obtain rfl : k = D.length := by omega
      have HT := Lib.hid (HM.out.over HS.out HY0.out)
      have hlE : E.length = D.length := HM.out.len
      have HO2 : Hid (wr.ownsRow base 3 1 (.slice A E.length c) E.length (dv E)) := by show World.ownsRow _ _ _ _ _ _ _; rw [hlE]; exact HO.out
      have hti : t < 1152921504606846976 := by have := HM.out.hi; omega
      have hvs : Value.slice A D.length c = .slice A E.length c := by rw [hlE]
      clear HM HO
      go_wp2_with fail
      go_loopw [0, 2] (fun v q wr => ∃ (F : List Nat) (t : Nat) (A' : Option Addr) (c' : Nat), v = .slice A' F.length c' ∧ q = .int .i64 t ∧ t < 1152921504606846976 ∧ Hid (MtSt (dval D * y + p) (D.length + 2) F t) ∧ Hid (wr.ownsRow base 3 1 (.slice A' F.length c') F.length (dv F)) ∧ Hid (Below base w wr) ∧ Hid (base ≤ wr.heap.size)) (fun _ q _ => (RowKit.intOf q).toNat)
      case atStart => exact ⟨E, t, A, c, hvs, rfl, hti, HT, HO2, HBW, HZ⟩
      case round =>
        clear HT HO2 HBW HZ hlE hvs hti
        obtain ⟨F, q, A2, c2, rfl, rfl, hqi, HT, HO, HBW, HZ⟩ := hrel
        by_cases h0 : 0 < q
        · have h0' : (0 : Int) < (q : Int) := by omega
          have hFl := HT.out.len
          have HQ := Lib.hid (HT.out.step h0)
          have HON := Lib.hid (one_digit wr ((q : Int) % 1048576))
          have HOW : Hid ((wr.alloc (.cells #[.int .i64 ((q : Int) % 1048576)] 3)).ownsRow base 3 1 (.slice A2 F.length c2) F.length (dv F)) := own_grown HO.out (World.grownBy_alloc wr _ none) (fun g e e2 => by cases e2)
          have HBA : Hid (Below base w (wr.alloc (.cells #[.int .i64 ((q : Int) % 1048576)] 3))) := HBW.out.alloc HZ.out _
          have HZA : Hid (base ≤ (wr.alloc (.cells #[.int .i64 ((q : Int) % 1048576)] 3)).heap.size) := Nat.le_trans HZ.out ((Below.refl wr.heap.size wr).alloc (Nat.le_refl _) _).size
          have HRD : Hid (Reads (wr.alloc (.cells #[.int .i64 ((q : Int) % 1048576)] 3)) (wr.heap.size + 1) 1 (some ⟨wr.heap.size, 0, none⟩) 1 [.int .i64 ((q : Int) % 1048576)]) := by
            refine ⟨rfl, fun _ => ⟨_, rfl, Nat.lt_succ_self _, fun j u hj => ?_⟩⟩
            have hj0 : j = 0 := by have := (List.getElem?_eq_some_iff.1 hj).1; simpa using this
            subst hj0
            cases hj
            exact HON.out
          obtain ⟨i0, hi, hz0, hz1, hz2⟩ := info_parts infoD
          clear HT HO HBW HZ HON
          go_wp2_with (at_builtin; refine wpList_append_any _ rfl (.tmp 31) (.tmp 34) 22 rfl base 3 i0 _ 1 8 Tryd.underlying22 hi hz0 hz1 hz2 rfl (by decide) (.slice A2 F.length c2) F.length (dv F) rfl HOW.out (wr.heap.size + 1) (some ⟨wr.heap.size, 0, none⟩) 1 1 [.int .i64 ((q : Int) % 1048576)] rfl HRD.out (by intro u hu; simp at hu; subst hu; rfl) (by unfold maxLen; omega) (by omega) HZA.out ?_; intro v' w' p1 p2 p3; obtain ⟨A3, c3, rfl⟩ := own_parts p1; have HP1 := Lib.hid p1; have HP2 := Lib.hid p2; clear p1 p2 p3)
          go_roundw
          case rel =>
            have hdv : dv F ++ [Value.int .i64 ((q : Int) % 1048576)] = dv (F ++ [q % 1048576]) := by simp [dv]
            have hlF : F.length + 1 = (F ++ [q % 1048576]).length := by simp
            have h1 := HP1.out
            rw [hdv, hlF] at h1
            exact ⟨F ++ [q % 1048576], q / 1048576, A3, c3, by rw [← hlF], rfl, by omega, HQ, h1, HBA.out.grown HP2.out HZA.out (fun g e => (HOW.out.lt g e).1), Nat.le_trans HZA.out HP2.out.size⟩
          case measure => simp [RowKit.intOf]; omega
        · have h0' : ¬ (0 : Int) < (q : Int) := by omega
          have hq0 : q = 0 := by omega
          have hd := (hq0 ▸ HT.out : MtSt (dval D * y + p) (D.length + 2) F 0).done
          have HF : Hid (MbEnd w base D y p (.returned (.slice A2 F.length c2)) wr) := ⟨A2, c2, F, rfl, HO.out, hd.1, hd.2.1, hd.2.2, HBW.out, HZ.out⟩
          clear hd HT HO HBW HZ
          go_wp2_with fail
          go_ret
          exact HF.out
end Go.Proofs.YtikndohlnoiebaaDoor
