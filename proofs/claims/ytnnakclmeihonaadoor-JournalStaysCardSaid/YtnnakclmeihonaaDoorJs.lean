/- The walks of Sum and form. Conditions: the table of strconv; sizes. -/
import Derived.Test.YtnnakclmeihonaaDoorJp
namespace Go.Proofs.YtnnakclmeihonaaDoor
open Go.RowKit Go.ChangeMaps

theorem own_below {w w' : World} {base : Nat} {e : TypeId} {size n : Nat} {v : Value} {xs : List Value} {B : Nat} (h : w.ownsRow base e size v n xs) (hb : Below B w w') (hB : ∀ g, v.ownBlock = some g → g < B) : w'.ownsRow base e size v n xs := by
  refine ⟨h.1, ?_⟩
  rcases h.2 with hn | ⟨g, cap, cur, rfl, hb1, hgg, rest⟩
  · exact .inl hn
  · exact .inr ⟨g, cap, cur, rfl, hb1, (hb.block g (hB g rfl)).trans hgg, rest⟩

/-- own, and role r at the slice v's block. -/
def giveV (own : Nat → Option Nat) (v : Value) (r : Nat) : Nat → Option Nat := fun g => if v.ownBlock = some g then some r else own g
theorem giveV_same {own : Nat → Option Nat} {v : Value} {r g : Nat} (h : v.ownBlock = some g) : giveV own v r g = some r := by simp [giveV, h]
theorem giveV_other {own : Nat → Option Nat} {v : Value} {r g : Nat} (h : v.ownBlock ≠ some g) : giveV own v r g = own g := by simp [giveV, h]
theorem Tr.giveV {R : Nat → Prop} {w w' : World} {own own' : Nat → Option Nat} (h : Tr R w own own' w') {v : Value} (hv : ∀ g, v.ownBlock = some g → w.heap.size ≤ g ∧ g < w'.heap.size) (r : Nat) : Tr R w own (giveV own' v r) w' :=
  ⟨h.os, h.tape, h.output, h.size, h.block, fun x hx => (giveV_other (fun e => by have := (hv x e).1; omega)).trans (h.kept x hx), fun x r' e => by
    by_cases hx : v.ownBlock = some x
    · exact (hv x hx).2
    · rw [giveV_other hx] at e; exact h.inb x r' e⟩
theorem Tr.of_below {w w' : World} {own : Nat → Option Nat} (R : Nat → Prop) (hi : ∀ g r, own g = some r → g < w.heap.size) (h : Below w.heap.size w w') : Tr R w own own w' :=
  ⟨h.os, h.tape, h.output, h.size, fun g hg _ => h.block g hg, fun _ _ => rfl, fun g r e => Nat.lt_of_lt_of_le (hi g r e) h.size⟩


set_option maxHeartbeats 1000000 in
theorem j_sum (s : ByteArray) (w : World) (hs : s.size ≤ 1000000000) : Calls Tryd.prog 29 #[.string s] w fun e w' => e = .returned (.int .i64 (sumP s.data.toList : Nat)) ∧ w = w' := by
  have hlen := len_eq s
  have HSP : Hid (sumP s.data.toList = sumN s.data.toList s.size) := by unfold sumP; rw [hlen]; exact rfl
  have HLT := Lib.hid (sumN_lt s.data.toList)
  clear hlen
  go_enter Tryd.func29, Tryd.ntmps29
  go_wp2_with fail
  go_loopw [3, 7] (fun a i wr => ∃ k : Nat, k ≤ s.size ∧ i = .int .i64 k ∧ a = .int .i64 (sumN s.data.toList k : Nat) ∧ w = wr) (fun _ i _ => s.size - (RowKit.intOf i).toNat)
  case atStart => exact ⟨0, Nat.zero_le _, rfl, rfl, rfl⟩
  case round =>
    obtain ⟨k, hk, rfl, rfl, rfl⟩ := hrel
    by_cases hlt : k < s.size
    · have hlt' : (k : Int) < (s.size : Int) := by omega
      have hk0 : 0 ≤ (k : Int) := by omega
      have h1 := HLT.out k
      have hat : atB s.data.toList k = s[k] := by
        have h3 := atB_lt (b := s.data.toList) (i := k) (by rw [len_eq]; exact hlt)
        rw [at_ hlt] at h3
        exact (Option.some.inj h3).symm
      have hc : s[k].toNat < 256 := s[k].toNat_lt
      have hst : sumN s.data.toList (k + 1) = (sumN s.data.toList k + s[k].toNat * (k + 1)) % 2147483647 := by
        show (sumN s.data.toList k + (atB s.data.toList k).toNat * (k + 1)) % 2147483647 = _
        rw [hat]
      generalize sumN s.data.toList k = a at *
      have hmul : s[k].toNat * (k + 1) ≤ 255 * (k + 1) := Nat.mul_le_mul_right _ (by omega)
      have hcast : ((s[k].toNat : Int) * ((k : Int) + 1)) = ((s[k].toNat * (k + 1) : Nat) : Int) := by push_cast; rfl
      have HST := Lib.hid hst
      clear hst hat
      generalize hp : s[k].toNat * (k + 1) = p at *
      have hpb : p ≤ 255000000255 := by omega
      go_wp2_with fail
      go_roundw
      case rel => exact ⟨k + 1, by omega, by go_num, by rw [HST.out]; congr 1, trivial⟩
      case measure => simp [RowKit.intOf]; omega
    · obtain rfl : k = s.size := by omega
      go_wp2_with fail
      go_ret
      exact ⟨by rw [HSP.out]; rfl, rfl⟩

theorem sumB (t : List UInt8) (w : World) (ht : t.length ≤ 1000000000) : Calls Tryd.prog 29 #[.string (bStr t)] w fun e w' => e = .returned (.int .i64 (sumP t : Nat)) ∧ w = w' := by
  have := j_sum (bStr t) w (by rw [bStr_size]; exact ht)
  rw [show (bStr t).data.toList = t by simp [bStr]] at this
  exact this

theorem wInt_len {n : Int} (h0 : -9223372036854775808 ≤ n) (h1 : n ≤ 9223372036854775807) : (wInt n).length ≤ 22 := by
  have := Lib.itoa_length_le n h0 h1
  unfold wInt
  rw [List.length_append]
  simp
  omega
theorem dec_len {n : Nat} (h : n ≤ 9223372036854775807) : (Lib.decDigits n).length ≤ 21 := by
  have h1 := Lib.itoa_length_le (n : Int) (by omega) (by omega)
  have h2 : Lib.itoa (n : Int) = Lib.decDigits n := by unfold Lib.itoa; rw [if_neg (by omega)]; rfl
  rw [h2] at h1
  exact h1
theorem wText_len {t : List UInt8} (h : t.length ≤ 9223372036854775807) : (wText t).length ≤ t.length + 23 := by
  have := dec_len h
  unfold wText
  rw [List.length_append, List.length_cons, List.length_append]
  simp
  omega
theorem formP_len {t : List UInt8} (h : t.length ≤ 9223372036854775807) : (formP t).length ≤ t.length + 45 := by
  have h1 := wText_len h
  have h2 := sumP_lt t
  have h3 := wInt_len (n := (sumP t : Nat)) (by omega) (by omega)
  unfold formP
  rw [List.length_append]
  omega

set_option maxHeartbeats 1000000 in
theorem j_form (t : List UInt8) (w : World) (ht : t.length ≤ 1000000) (hT : Tab w) : Calls Tryd.prog 39 #[.string (bStr t)] w fun e w' => e = .returned (.string (bStr (formP t))) ∧ Below w.heap.size w w' := by
  have hlt := sumP_lt t
  have hb : (bStr t).size = t.length := bStr_size t
  have HB := Lib.hid hb
  have hf : formP t = wText t ++ wInt (sumP t) := rfl
  rw [hf]
  clear hb hf
  go_enter Tryd.func39, Tryd.ntmps39
  go_wp2_with fail
  refine (wText_any (bStr t) (by rw [HB.out]; omega) w hT).mono ?_
  rintro e w1 ⟨rfl, b1⟩
  rw [show (bStr t).data.toList = t by simp [bStr]]
  have HB1 := Lib.hid b1
  clear b1
  go_wp2_with fail
  refine (sumB t w1 (by omega)).mono ?_
  rintro e w' ⟨rfl, rfl⟩
  go_wp2_with fail
  refine (wNum_any (sumP t : Nat) (by omega) (by omega) w1 (hT.on HB1.out)).mono ?_
  rintro e w2 ⟨rfl, b2⟩
  rw [if_neg (by omega)]
  have HB2 : Hid (Below w.heap.size w w2) := HB1.out.trans (b2.mono HB1.out.size)
  clear b2
  have h1 := wText_len (t := t) (by omega)
  have h2 := wInt_len (n := (sumP t : Nat)) (by omega) (by omega)
  have hd : (bStr t).data.toList = t := by simp [bStr]
  clear hd
  go_wp2_with fail
  go_ret
  refine ⟨?_, HB2.out⟩
  exact ret_str (by simp)

end Go.Proofs.YtnnakclmeihonaaDoor
