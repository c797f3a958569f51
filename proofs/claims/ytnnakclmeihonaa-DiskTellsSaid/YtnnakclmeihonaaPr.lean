/- What the law DiskReads says, plainly. Conditions: the machine is up, no crash is scheduled; bounds. -/
import Derived.Test.YtnnakclmeihonaaLd
namespace Go.Proofs.Ytnnakclmeihonaa

theorem strike0 {s : Ds} (h : s.left = 0) : strikeP s = (s, false) := by unfold strikeP; rw [if_pos h]
theorem stored_left (s : Ds) (f : Int) (a : Nat) (t : List UInt8) : (stored s f a t).left = s.left := by unfold stored; split <;> rfl
theorem stored_down (s : Ds) (f : Int) (a : Nat) (t : List UInt8) : (stored s f a t).down = s.down := by unfold stored; split <;> rfl
theorem chk_ok {f a n : Int} (hf : isF f = true) (ha : 0 ≤ a) (hn : a + n ≤ 16777216) : chk f a n = 0 := by
  unfold chk
  rw [if_neg (fun h => by rcases h with h | h <;> first | (rw [hf] at h; cases h; done) | omega), if_neg (by omega)]
theorem write_up {s : Ds} {f a : Int} {t : List UInt8} (hd : s.down = false) (hl : s.left = 0) (hf : isF f = true) (ha : 0 ≤ a) (hn : a + t.length ≤ 16777216) : writeP s f a t = (stored s f a.toNat t, 0) := by
  have hc := chk_ok hf ha hn
  have hw : writeS s f a t = stored s f a.toNat t := by unfold writeS; rw [if_pos hc]
  have hs := strike0 (s := stored s f a.toNat t) (by rw [stored_left, hl])
  unfold writeP
  rw [if_neg (by rw [hd]; decide), hw, hs, if_neg (by simp), hc]
theorem write_bad {s : Ds} {f a : Int} {t : List UInt8} (hl : s.left = 0) (h : s.down = true ∨ isF f = false) : (writeP s f a t).2 ≠ 0 := by
  unfold writeP
  split
  · show (8 : Int) ≠ 0
    decide
  · rename_i hd
    rcases h with h | h
    · exact absurd h hd
    · have hc : chk f a t.length = 1 := by unfold chk; rw [if_pos (.inl h)]
      have hw : writeS s f a t = s := by unfold writeS; rw [if_neg (by rw [hc]; decide)]
      rw [hw, strike0 hl, if_neg (by simp), hc]
      show (1 : Int) ≠ 0
      decide
theorem stored_data {s : Ds} {f : Int} {a : Nat} {t : List UInt8} : (stored s f a t).data f = if t.length = 0 then s.data f else putB (s.data f) a t := by
  unfold stored
  split
  · rfl
  · exact upd_same _ _ _
theorem putB_mid (b : List UInt8) (a : Nat) (t : List UInt8) : ((putB b a t).drop a).take t.length = t := by
  have hlen := putB_len b a t
  refine ext_atB (by rw [List.length_take, List.length_drop]; omega) (fun i hi => ?_)
  rw [List.length_take] at hi
  rw [take_atB (by omega), drop_atB, putB_at, if_pos (by omega), show a + i - a = i from by omega]
theorem stored_mid (s : Ds) (f : Int) (a : Nat) (t : List UInt8) : (((stored s f a t).data f).drop a).take t.length = t := by
  rw [stored_data]
  split
  · rename_i h
    rw [h, List.take_zero, List.eq_nil_of_length_eq_zero h]
  · exact putB_mid _ _ _
theorem read_up {s : Ds} {f a n : Int} (hd : s.down = false) (hf : isF f = true) (ha : 0 ≤ a) (hn : 0 ≤ n) : readP s f a n = (((s.data f).drop a.toNat).take n.toNat, 0) := by
  unfold readP
  rw [if_neg (by rw [hd]; decide), if_neg (fun h => by rcases h with h | h | h <;> first | (rw [hf] at h; cases h; done) | omega)]
theorem read_all {s : Ds} {f n : Int} (hd : s.down = false) (hf : isF f = true) (hn : (s.data f).length ≤ n) : readP s f 0 n = (s.data f, 0) := by
  rw [read_up hd hf (by omega) (by omega), show (0 : Int).toNat = 0 from rfl, List.drop_zero, List.take_of_length_le (by omega)]
theorem trunc_up {s : Ds} {f : Int} {n : Nat} (hd : s.down = false) (hl : s.left = 0) (hf : isF f = true) (hn : n ≤ (s.data f).length) : truncP s f n = (truncd s f n, 0) := by
  unfold truncP
  rw [if_neg (by rw [hd]; decide), strike0 hl, if_neg (by simp), if_neg (fun h => by rcases h with h | h | h <;> first | (rw [hf] at h; cases h; done) | omega | (have h2 : ((s.data f).length : Int) < (n : Int) := h; omega)), Int.toNat_natCast]
theorem crash_up {s : Ds} {keep : List Int} (hd : s.down = false) : crashP s keep = crashed s keep := by unfold crashP; rw [if_neg (by rw [hd]; decide)]
theorem crashed_data (s : Ds) (keep : List Int) : (crashed s keep).data = hardL s.data s.dur (survs keep s.pend 0) := crashD_eq s.data keep s.pend s.dur 0
theorem crashed_nil (s : Ds) : (crashed s []).data = s.dur := by rw [crashed_data, survs_none]; rfl

/-- The whole of the law, up to its last read. -/
theorem reads_last {s : Ds} {f : Int} {n : Nat} (ho : Ok s) (hd : s.down = false) (hf : isF f = true) :
    readP { crashP (truncd s f n) [] with down := false } f 0 16777216 = ((s.data f).take n, 0) := by
  have h1 : (truncd s f n).down = false := hd
  rw [crash_up h1]
  have h2 : ({ crashed (truncd s f n) [] with down := false } : Ds).data f = (s.data f).take n := by
    show (crashed (truncd s f n) []).data f = _
    rw [crashed_nil, truncd_dur, upd_same]
  have ho2 : Ok { crashed (truncd s f n) [] with down := false } := by
    have := (ho.truncd f n).crashed []
    exact this.set false this.lost this.left this.keep
  rw [read_all rfl hf (by have := ho2.size f; omega), h2]

end Go.Proofs.Ytnnakclmeihonaa
