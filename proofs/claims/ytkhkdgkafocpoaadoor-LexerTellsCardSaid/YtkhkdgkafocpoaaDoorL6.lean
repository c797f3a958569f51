/- The walk of lexer's reader of a quoted string. Conditions: lengths. -/
import Derived.Test.YtkhkdgkafocpoaaDoorL5
import Derived.Test.YtkhkdgkafocpoaaDoorBld
namespace Go.Proofs.YtkhkdgkafocpoaaDoor
set_option maxRecDepth 8000
open Go.RowKit

def quoF (l : List UInt8) : First := match unqP l with
  | some (v, n) => if valueP v then .tok ⟨2, v, 0, 0⟩ (n + 1) else .bad 2
  | none => .bad 2
/-- What the loop knows: what is still to be read, behind what has been. -/
def QuoS (l v r : List UInt8) (k : Nat) : Prop := unqP l = (unqP r).map fun x => (v ++ x.1, x.2 + k)
theorem QuoS.start (l : List UInt8) : QuoS l [] l 0 := by
  unfold QuoS
  cases unqP l <;> rfl
theorem QuoS.plain {l v r : List UInt8} {k : Nat} {b : UInt8} (h : QuoS l v (b :: r) k) (h1 : b.toNat ≠ 34) (h2 : b.toNat ≠ 92) : QuoS l (v ++ [b]) r (k + 1) := by
  unfold QuoS at h ⊢
  rw [h, unqP_cons, if_neg (by simpa using h1), if_neg (by simpa using h2)]
  cases unqP r with
  | none => rfl
  | some x => simp; omega
theorem QuoS.esc {l v r : List UInt8} {k : Nat} {b c : UInt8} (h : QuoS l v (b :: c :: r) k) (h2 : b.toNat = 92) (hc : c.toNat = 34 ∨ c.toNat = 92) : QuoS l (v ++ [c]) r (k + 2) := by
  unfold QuoS at h ⊢
  have h1 : ¬ (b.toNat == 34) = true := by rw [h2]; decide
  have h3 : (c.toNat == 34 || c.toNat == 92) = true := by rcases hc with hc | hc <;> simp [hc]
  rw [h, unqP_cons, if_neg h1, if_pos (by simpa using h2)]
  simp only [h3, if_true]
  cases unqP r with
  | none => rfl
  | some x => simp; omega
theorem QuoS.close {l v r : List UInt8} {k : Nat} {b : UInt8} (h : QuoS l v (b :: r) k) (h1 : b.toNat = 34) : quoF l = if valueP v then .tok ⟨2, v, 0, 0⟩ (k + 2) else .bad 2 := by
  unfold QuoS at h
  unfold quoF
  rw [h, unqP_cons, if_pos (by simpa using h1)]
  simp only [Option.map_some, List.append_nil]
  rw [show 1 + k + 1 = k + 2 from by omega]
theorem QuoS.end_ {l v : List UInt8} {k : Nat} (h : QuoS l v [] k) : quoF l = .bad 2 := by
  unfold QuoS at h
  unfold quoF
  rw [h]; rfl
theorem QuoS.end1 {l v : List UInt8} {k : Nat} {b : UInt8} (h : QuoS l v [b] k) (h2 : b.toNat = 92) : quoF l = .bad 2 := by
  unfold QuoS at h
  unfold quoF
  have h1 : ¬ (b.toNat == 34) = true := by rw [h2]; decide
  rw [h, unqP_cons, if_neg h1, if_pos (by simpa using h2)]; rfl
theorem QuoS.wrong {l v r : List UInt8} {k : Nat} {b c : UInt8} (h : QuoS l v (b :: c :: r) k) (h2 : b.toNat = 92) (h3 : c.toNat ≠ 34) (h4 : c.toNat ≠ 92) : quoF l = .bad 2 := by
  unfold QuoS at h
  unfold quoF
  have h1 : ¬ (b.toNat == 34) = true := by rw [h2]; decide
  have h5 : (c.toNat == 34 || c.toNat == 92) = false := by simp [h3, h4]
  rw [h, unqP_cons, if_neg h1, if_pos (by simpa using h2)]
  simp only [h5]; rfl
theorem Blk.under {w w' : World} {g : Nat} {t : TypeId} {cs : Array Value} (h : Blk w g t cs) (hb : Below (g + 1) w w') : Blk w' g t cs := h.below hb (Nat.lt_succ_self g)
set_option maxHeartbeats 4000000 in
theorem quoted_any (s : ByteArray) (w : World) (hs : s.size ≤ 268435456) (h0 : 1 ≤ s.size) :
    Calls Tryd.prog 44 #[.string s] w (FirstEnd (quoF (s.data.toList.drop 1)) w) := by
  have hb0 : Below w.heap.size w (w.alloc (.cells tok0 25)) := (Below.refl _ _).alloc (Nat.le_refl _) _
  have hblk : Blk (w.alloc (.cells tok0 25)) w.heap.size 25 tok0 := Blk.new _ _ _
  have hbld := Bld.new (w.alloc (.cells tok0 25))
  have hk1 := hblk.alloc (.cells #[.pointer none, .slice none 0 0] 59)
  have hb1 := hb0.alloc (by simp) (.cells #[.pointer none, .slice none 0 0] 59)
  rw [show (w.alloc (.cells tok0 25)).heap.size = w.heap.size + 1 by simp] at hbld
  obtain ⟨w1, hw1⟩ : ∃ w1, w1 = (w.alloc (.cells #[.int .i64 0, .string ⟨#[]⟩, .int .i64 0, .int .i64 0] 25)).alloc (.cells #[.pointer none, .slice none 0 0] 59) := ⟨_, rfl⟩
  have hbld : Bld (w.heap.size + 1) (w.heap.size + 1) [] w1 := by rw [hw1]; exact hbld
  have hk1 : Blk w1 w.heap.size 25 tok0 := by rw [hw1]; exact hk1
  have hb1 : Below w.heap.size w w1 := by rw [hw1]; exact hb1
  have HK := Lib.hid hk1
  have HBL := Lib.hid hbld
  have HB := Lib.hid hb1
  have HW := Lib.hid hw1
  have hsz : w.heap.size + 2 ≤ w1.heap.size := by rw [hw1]; simp
  have hsz2 : w1.heap.size ≤ w.heap.size + 2 := by rw [hw1]; simp
  clear hb0 hblk hbld hk1 hb1 hw1
  go_enter Tryd.func44, Tryd.ntmps44
  go_wp2_with fail
  go_step3
  go_wp2_with fail
  go_step3
  go_wp2_with fail
  rw [← HW.out]
  go_loopw [6, 7] (fun z c wr => ∃ (k : Nat) (v : List UInt8), 1 ≤ k ∧ k ≤ s.size ∧ z = .int .i64 k ∧ c = .bool false ∧ v.length ≤ k ∧ Hid (∃ m, m + 1 = k ∧ QuoS (s.data.toList.drop 1) v (s.data.toList.drop k) m) ∧ Hid (Bld (w.heap.size + 1) (w.heap.size + 1) v wr) ∧ Hid (Blk wr w.heap.size 25 tok0) ∧ Hid (Below w.heap.size w wr) ∧ w.heap.size + 2 ≤ wr.heap.size) (fun z _ _ => s.size - (RowKit.intOf z).toNat)
  case atStart => exact ⟨1, [], Nat.le_refl _, h0, rfl, rfl, Nat.zero_le _, ⟨0, rfl, QuoS.start _⟩, HBL.out, HK.out, HB.out, hsz⟩
  case round =>
    clear HBL HK HB hsz hsz2 HW w1
    obtain ⟨k, v, hk1, hk, rfl, rfl, hvl, HA, HBL, HK, HB, hsz⟩ := hrel
    by_cases hlt : k < s.size
    · have hkc : (k : Int) < (s.size : Int) := by omega
      have hd := str_drop hlt
      have hA := HA.out
      rw [hd] at hA
      obtain ⟨m, hmk, hA⟩ := hA
      clear hd HA
      by_cases h34 : s[k].toNat = 34
      · have HR := Lib.hid (hA.close h34)
        have hb1 : ((s[k].toNat : Int) == 34) = true := by simp [h34]
        clear hA h34
        go_wp2_with fail
        refine (bldStringF_any (w.heap.size + 1) (w.heap.size + 1) v _ (Lib.IsBuilderF.of HBL.out) (by omega)).mono ?_
        rintro e w2 ⟨rfl, hB2, hb⟩
        have HBL2 := Lib.hid hB2
        have HK2 := Lib.hid (HK.out.under hb)
        have HB2 : Hid (Below w.heap.size w _) := HB.out.trans (hb.mono (by omega))
        have hsz2 : w.heap.size + 2 ≤ w2.heap.size := by have := hb.size; omega
        clear hB2 hb
        have hvs : (⟨v.toArray⟩ : ByteArray).size ≤ 1073741824 := by rw [size_mk]; omega
        have c1 := isValue_any ⟨v.toArray⟩ w2 hvs
        rw [show (⟨v.toArray⟩ : ByteArray).data.toList = v by simp] at c1
        obtain ⟨vs, hvs'⟩ : ∃ vs : ByteArray, vs = ⟨v.toArray⟩ := ⟨_, rfl⟩
        rw [← hvs'] at c1 ⊢
        have HVS := Lib.hid hvs'
        clear hvs' hvs
        cases hvv : valueP v
        · have hres : Hid (quoF (s.data.toList.drop 1) = .bad 2) := by
            show _ = _
            rw [HR.out, hvv]; rfl
          rw [hvv] at c1
          have C1 := Lib.hid c1
          obtain ⟨q0, q1, q2, q3, f0, f1, f2, f3⟩ := tok_cells HK2.out
          clear c1 hvv hsz
          go_wp2_with fail
          refine C1.out.mono ?_
          rintro e w' ⟨rfl, rfl⟩
          go_wp2_with fail
          rw [Exit.noGoto_ret]
          refine bodyPost_ret (v := .tuple #[zeroTok, .int .i64 0, .int .i64 2]) (by simp [results, Tryd.results44, go_sem, zeroTok, q0, q1, q2, q3]) rfl (FirstEnd.no hres rfl ?_)
          repeat (refine below_set ?_ (Nat.le_refl _) _ _)
          exact HB2.out
        · have hres : Hid (quoF (s.data.toList.drop 1) = .tok ⟨2, vs.data.toList, 0, 0⟩ (k + 1)) := by
            show _ = _
            rw [HR.out, hvv, HVS.out, ← hmk]; simp
          rw [hvv] at c1
          have C1 := Lib.hid c1
          clear c1 hvv hsz
          go_wp2_with fail
          refine C1.out.mono ?_
          rintro e w' ⟨rfl, rfl⟩
          go_wp2_with fail
          refine (bldStringF_any (w.heap.size + 1) (w.heap.size + 1) v _ HBL2.out (by omega)).mono ?_
          rintro e w3 ⟨rfl, hB3, hb⟩
          have HK3 := Lib.hid (HK2.out.under hb)
          have HB3 : Hid (Below w.heap.size w _) := HB2.out.trans (hb.mono (by omega))
          have hsz3 : w.heap.size + 2 ≤ w3.heap.size := by have := hb.size; omega
          clear hB3 hb hsz2
          obtain ⟨q0, q1, q2, q3, f0, f1, f2, f3⟩ := tok_cells HK3.out
          rw [← HVS.out]
          go_wp2_with fail
          rw [Exit.noGoto_ret]
          refine bodyPost_ret (v := .tuple #[tokV 2 vs 0 0, .int .i64 ((k + 1 : Nat) : Int), .int .i64 0]) (by simp [results, Tryd.results44, go_sem, tokV, q0, q1, q2, q3]) rfl (FirstEnd.yes hres rfl ?_)
          repeat (refine below_set ?_ (Nat.le_refl _) _ _)
          exact HB3.out
      · have hb1 : ((s[k].toNat : Int) == 34) = false := by
          have : (s[k].toNat : Int) ≠ 34 := by omega
          simpa using this
        by_cases h92 : s[k].toNat = 92
        · have hb2 : ((s[k].toNat : Int) == 92) = true := by simp [h92]
          by_cases hend : k + 1 < s.size
          · have hd := str_drop hend
            rw [hd] at hA
            clear hd
            have hec : (k : Int) + 1 < (s.size : Int) := by omega
            have hne : ((k : Int) + 1 == (s.size : Int)) = false := by
              have : (k : Int) + 1 ≠ (s.size : Int) := by omega
              simpa using this
            by_cases hc : s[k + 1].toNat = 34 ∨ s[k + 1].toNat = 92
            · have hnx : Hid (∃ m, m + 1 = k + 2 ∧ QuoS (s.data.toList.drop 1) (v ++ [s[k + 1]]) (s.data.toList.drop (k + 2)) m) := ⟨m + 2, by omega, hA.esc h92 hc⟩
              by_cases hc34 : s[k + 1].toNat = 34
              · have hx1 : ((s[k + 1].toNat : Int) != 34) = false := by simp [hc34]
                clear hA hc h34 h92 hmk hc34
                go_wp2_with fail
                refine (writeByte_any (w.heap.size + 1) (w.heap.size + 1) v s[k + 1] _ _ HBL.out rfl (by omega) (by omega)).mono ?_
                rintro e w2 ⟨rfl, hB2, hb⟩
                have HBL2 := Lib.hid hB2
                have HK2 := Lib.hid (HK.out.under hb)
                have HB2 : Hid (Below w.heap.size w _) := HB.out.trans (hb.mono (by omega))
                have hsz2 : w.heap.size + 2 ≤ w2.heap.size := by have := hb.size; omega
                clear hB2 hb
                go_wp2_with fail
                go_roundw
                case rel => exact ⟨k + 2, v ++ [s[k + 1]], by omega, by omega, by go_num, rfl, by simp; omega, hnx, HBL2.out, HK2.out, HB2.out, hsz2⟩
                case measure => simp [RowKit.intOf]; omega
              · have hc92 : s[k + 1].toNat = 92 := by omega
                have hx1 : ((s[k + 1].toNat : Int) != 34) = true := by simp [hc92]
                have hx2 : ((s[k + 1].toNat : Int) != 92) = false := by simp [hc92]
                clear hA hc h34 h92 hmk hc34 hc92
                go_wp2_with fail
                refine (writeByte_any (w.heap.size + 1) (w.heap.size + 1) v s[k + 1] _ _ HBL.out rfl (by omega) (by omega)).mono ?_
                rintro e w2 ⟨rfl, hB2, hb⟩
                have HBL2 := Lib.hid hB2
                have HK2 := Lib.hid (HK.out.under hb)
                have HB2 : Hid (Below w.heap.size w _) := HB.out.trans (hb.mono (by omega))
                have hsz2 : w.heap.size + 2 ≤ w2.heap.size := by have := hb.size; omega
                clear hB2 hb
                go_wp2_with fail
                go_roundw
                case rel => exact ⟨k + 2, v ++ [s[k + 1]], by omega, by omega, by go_num, rfl, by simp; omega, hnx, HBL2.out, HK2.out, HB2.out, hsz2⟩
                case measure => simp [RowKit.intOf]; omega
            · have hres := Lib.hid (hA.wrong h92 (fun h => hc (.inl h)) (fun h => hc (.inr h)))
              have hx1 : ((s[k + 1].toNat : Int) != 34) = true := by
                have : (s[k + 1].toNat : Int) ≠ 34 := by have : s[k + 1].toNat ≠ 34 := fun h => hc (.inl h)
                                                         omega
                simpa using this
              have hx2 : ((s[k + 1].toNat : Int) != 92) = true := by
                have : (s[k + 1].toNat : Int) ≠ 92 := by have : s[k + 1].toNat ≠ 92 := fun h => hc (.inr h)
                                                         omega
                simpa using this
              obtain ⟨q0, q1, q2, q3, f0, f1, f2, f3⟩ := tok_cells HK.out
              clear hA hc h34 h92 hmk
              go_wp2_with fail
              rw [Exit.noGoto_ret]
              refine bodyPost_ret (v := .tuple #[zeroTok, .int .i64 0, .int .i64 2]) (by simp [results, Tryd.results44, go_sem, zeroTok, q0, q1, q2, q3]) rfl (FirstEnd.no hres rfl ?_)
              repeat (refine below_set ?_ (Nat.le_refl _) _ _)
              exact HB.out
          · have hke : k + 1 = s.size := by omega
            have hres : Hid (quoF (s.data.toList.drop 1) = .bad 2) := by
              have e : s.data.toList.drop (k + 1) = [] := by rw [hke]; exact str_end
              rw [e] at hA
              exact hA.end1 h92
            have hee : ((k : Int) + 1 == (s.size : Int)) = true := by
              have : (k : Int) + 1 = (s.size : Int) := by omega
              simpa using this
            obtain ⟨q0, q1, q2, q3, f0, f1, f2, f3⟩ := tok_cells HK.out
            clear hA h34 h92 hmk hke
            go_wp2_with fail
            rw [Exit.noGoto_ret]
            refine bodyPost_ret (v := .tuple #[zeroTok, .int .i64 0, .int .i64 2]) (by simp [results, Tryd.results44, go_sem, zeroTok, q0, q1, q2, q3]) rfl (FirstEnd.no hres rfl ?_)
            repeat (refine below_set ?_ (Nat.le_refl _) _ _)
            exact HB.out
        · have hb2 : ((s[k].toNat : Int) == 92) = false := by
            have : (s[k].toNat : Int) ≠ 92 := by omega
            simpa using this
          have hnx : Hid (∃ m, m + 1 = k + 1 ∧ QuoS (s.data.toList.drop 1) (v ++ [s[k]]) (s.data.toList.drop (k + 1)) m) := ⟨m + 1, by omega, hA.plain h34 h92⟩
          clear hA h34 h92 hmk
          go_wp2_with fail
          refine (writeByte_any (w.heap.size + 1) (w.heap.size + 1) v s[k] _ _ HBL.out rfl (by omega) (by omega)).mono ?_
          rintro e w2 ⟨rfl, hB2, hb⟩
          have HBL2 := Lib.hid hB2
          have HK2 := Lib.hid (HK.out.under hb)
          have HB2 : Hid (Below w.heap.size w _) := HB.out.trans (hb.mono (by omega))
          have hsz2 : w.heap.size + 2 ≤ w2.heap.size := by have := hb.size; omega
          clear hB2 hb
          go_wp2_with fail
          go_roundw
          case rel => exact ⟨k + 1, v ++ [s[k]], by omega, by omega, by go_num, rfl, by simp; omega, hnx, HBL2.out, HK2.out, HB2.out, hsz2⟩
          case measure => simp [RowKit.intOf]; omega
    · obtain rfl : k = s.size := by omega
      have hres : Hid (quoF (s.data.toList.drop 1) = .bad 2) := by
        obtain ⟨m, _, hA⟩ := HA.out
        rw [str_end] at hA
        exact hA.end_
      obtain ⟨q0, q1, q2, q3, f0, f1, f2, f3⟩ := tok_cells HK.out
      go_wp2_with fail
      rw [Exit.noGoto_ret]
      refine bodyPost_ret (v := .tuple #[zeroTok, .int .i64 0, .int .i64 2]) (by simp [results, Tryd.results44, go_sem, zeroTok, q0, q1, q2, q3]) rfl (FirstEnd.no hres rfl ?_)
      repeat (refine below_set ?_ (Nat.le_refl _) _ _)
      exact HB.out
end Go.Proofs.YtkhkdgkafocpoaaDoor
