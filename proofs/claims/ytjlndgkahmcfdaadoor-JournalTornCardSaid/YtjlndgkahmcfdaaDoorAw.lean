/- Write and Read by their plain functions. Conditions: sizes of what comes in. -/
import Derived.Test.YtjlndgkahmcfdaaDoorAt
namespace Go.Proofs.YtjlndgkahmcfdaaDoor
set_option maxRecDepth 8000
open Go.RowKit Go.ChangeMaps

/-- The error of a Write. -/
def chk (f a n : Int) : Int := if isF f = false ∨ a < 0 then 1 else if 16777216 - n < a then 6 else 0
def writeS (s : Ds) (f a : Int) (t : List UInt8) : Ds := if chk f a t.length = 0 then stored s f a.toNat t else s
def writeP (s : Ds) (f a : Int) (t : List UInt8) : Ds × Int :=
  if s.down = true then (s, 8) else if (strikeP (writeS s f a t)).2 = true then ((strikeP (writeS s f a t)).1, 8) else ((strikeP (writeS s f a t)).1, chk f a t.length)
theorem chk_zero {f a : Int} {n : Nat} (h : chk f a n = 0) : 0 ≤ f ∧ f < 16 ∧ 0 ≤ a ∧ a.toNat + n ≤ 16777216 := by
  unfold chk at h
  split at h
  · cases h
  · rename_i h1
    split at h
    · cases h
    · have h2 : isF f = true := by
        cases hf : isF f with
        | true => rfl
        | false => exact absurd (.inl hf) h1
      have h3 := isF_iff.1 h2
      omega
theorem Ok.writeS {s : Ds} (h : Ok s) (f a : Int) (t : List UInt8) : Ok (writeS s f a t) := by
  unfold Go.Proofs.YtjlndgkahmcfdaaDoor.writeS
  split
  · rename_i h1
    obtain ⟨h2, h3, h4, h5⟩ := chk_zero h1
    exact h.stored h2 h3 h5
  · exact h
theorem Ok.writeP {s : Ds} (h : Ok s) (f a : Int) (t : List UInt8) : Ok (writeP s f a t).1 := by
  unfold Go.Proofs.YtjlndgkahmcfdaaDoor.writeP
  have h1 := (h.writeS f a t).strikeP
  split
  · exact h
  · split <;> exact h1

set_option maxRecDepth 4000 in
set_option maxHeartbeats 1000000 in
theorem check_any (f a n : Int) (w : World) (hn : 0 ≤ n) (hn2 : n ≤ 9223372036854775807) : Calls Tryd.prog 64 #[.int .i64 f, .int .i64 a, .int .i64 n] w fun e w' => e = .returned (.int .i64 (chk f a n)) ∧ w = w' := by
  have HI := Lib.hid (isFile_any f)
  cases hf : isF f with
  | false =>
    have e1 : chk f a n = 1 := by unfold chk; rw [if_pos (.inl hf)]
    rw [e1]
    rw [hf] at HI
    clear hf e1
    go_enter Tryd.func64, Tryd.ntmps64
    go_wp2_with fail
    refine (HI.out _).mono ?_
    rintro e w3 ⟨rfl, rfl⟩
    go_wp2
    go_ret
    exact ⟨rfl, rfl⟩
  | true =>
    rw [hf] at HI
    by_cases ha : a < 0
    · have e1 : chk f a n = 1 := by unfold chk; rw [if_pos (.inr ha)]
      rw [e1]
      clear hf e1
      go_enter Tryd.func64, Tryd.ntmps64
      go_wp2_with fail
      refine (HI.out _).mono ?_
      rintro e w3 ⟨rfl, rfl⟩
      go_wp2
      go_ret
      exact ⟨rfl, rfl⟩
    · have ha2 : decide (a < 0) = false := by simpa using ha
      by_cases hb : 16777216 - n < a
      · have e1 : chk f a n = 6 := by unfold chk; rw [if_neg (by rw [hf]; rintro (h | h) <;> first | cases h | exact ha h), if_pos hb]
        rw [e1]
        clear hf e1
        go_enter Tryd.func64, Tryd.ntmps64
        go_wp2_with fail
        refine (HI.out _).mono ?_
        rintro e w3 ⟨rfl, rfl⟩
        go_wp2
        go_ret
        exact ⟨rfl, rfl⟩
      · have e1 : chk f a n = 0 := by unfold chk; rw [if_neg (by rw [hf]; rintro (h | h) <;> first | cases h | exact ha h), if_neg hb]
        rw [e1]
        clear hf e1
        go_enter Tryd.func64, Tryd.ntmps64
        go_wp2_with fail
        refine (HI.out _).mono ?_
        rintro e w3 ⟨rfl, rfl⟩
        go_wp2
        go_ret
        exact ⟨rfl, rfl⟩

theorem a_store (w : World) (own : Nat → Option Nat) (b : Nat) (s : Ds) (f : Int) (a : Nat) (t : ByteArray) (h : Da w own b s) (h0 : 0 ≤ f) (h1 : f < 16) (ha : a + t.size ≤ 16777216) :
    Calls Tryd.prog 65 #[.pointer (some ⟨b, 0, none⟩), .int .i64 f, .int .i64 a, .string t] w (AEnd w own b (stored s f a t.data.toList) (.tuple #[])) := by
  obtain ⟨ho, m, k, pv, kv, hd⟩ := h
  have hl : t.data.toList.length = t.size := rfl
  have hok := ho.stored h0 h1 (t := t.data.toList) (a := a) (by rw [hl]; exact ha)
  rcases Nat.eq_zero_or_pos t.size with ht | ht
  · have e1 : stored s f a t.data.toList = s := by unfold stored; rw [if_pos (by rw [hl]; exact ht)]
    rw [e1]
    refine (store_nil w own b m k pv kv s f a t hd ht).mono ?_
    rintro e w' ⟨rfl, own', pv', h1, t1⟩
    exact ⟨rfl, own', ⟨ho, m, k, pv', kv, h1⟩, t1⟩
  · have e1 : stored s f a t.data.toList = { s with data := upd s.data f (putB (s.data f) a t.data.toList), pend := addUpto s.pend f (a / 64) ((a + t.size + 63) / 64 - a / 64) } := by
      unfold stored; rw [if_neg (by rw [hl]; omega), hl]
    rw [e1] at hok ⊢
    refine (store_any w own b m k pv kv s f a t hd ht h0 h1 ha (ho.size f) (by have := pend_len ho; omega)).mono ?_
    rintro e w' ⟨rfl, own', pv', h1, t1⟩
    exact ⟨rfl, own', ⟨hok, m, k, pv', kv, h1⟩, t1⟩

set_option maxRecDepth 4000 in
set_option maxHeartbeats 1000000 in
theorem a_write (w : World) (own : Nat → Option Nat) (b : Nat) (s : Ds) (f a : Int) (t : ByteArray) (ht : t.size ≤ 16777216) (h : Da w own b s) :
    Calls Tryd.prog 28 #[.pointer (some ⟨b, 0, none⟩), .int .i64 f, .int .i64 a, .string t] w (AEnd w own b (writeP s f a t.data.toList).1 (.int .i64 (writeP s f a t.data.toList).2)) := by
  obtain ⟨ho, m, k, pv, kv, hd⟩ := h
  have c6 := hd.blk.cell 6
  have hl : t.data.toList.length = t.size := rfl
  cases hdn : s.down with
  | true =>
    have e1 : writeP s f a t.data.toList = (s, 8) := by unfold writeP; rw [if_pos hdn]
    rw [e1]
    have HE := Lib.hid (show AEnd w own b s (.int .i64 8) (.returned (.int .i64 8)) w from ⟨rfl, own, ⟨ho, m, k, pv, kv, hd⟩, hd.refl _⟩)
    rw [hdn] at c6
    clear e1 hd ho hdn hl
    go_enter Tryd.func28, Tryd.ntmps28
    go_wp2
    go_ret
    exact HE.out
  | false =>
    have e1 : writeP s f a t.data.toList = if (strikeP (writeS s f a t.data.toList)).2 = true then ((strikeP (writeS s f a t.data.toList)).1, 8) else ((strikeP (writeS s f a t.data.toList)).1, chk f a t.size) := by
      unfold writeP; rw [if_neg (by rw [hdn]; decide), hl]
    have hup : (writeS s f a t.data.toList).down = false := by
      unfold writeS stored
      split
      · split <;> exact hdn
      · exact hdn
    have HS : Hid (∀ w1 own1, Da w1 own1 b (writeS s f a t.data.toList) → Calls Tryd.prog 66 #[.pointer (some ⟨b, 0, none⟩)] w1 (AEnd w1 own1 b (strikeP (writeS s f a t.data.toList)).1 (.bool (strikeP (writeS s f a t.data.toList)).2))) := fun w1 own1 h1 => a_strikes w1 own1 b _ h1 hup
    have HK := Lib.hid (check_any f a t.size w (by omega) (by omega))
    have HDA := Lib.hid (show Da w own b s from ⟨ho, m, k, pv, kv, hd⟩)
    rw [hdn] at c6
    rw [e1]
    have HZ := Lib.hid (fun h : chk f a (t.size : Int) = 0 => chk_zero h)
    have HWS := Lib.hid (show writeS s f a t.data.toList = if chk f a t.size = 0 then stored s f a.toNat t.data.toList else s from by unfold writeS; rw [hl])
    clear e1 hup hd ho hdn hl
    generalize writeS s f a t.data.toList = s1 at *
    generalize hcv : chk f a (t.size : Int) = cv at *
    have HCV := Lib.hid hcv
    clear hcv
    by_cases hc0 : cv = 0
    · subst hc0
      obtain ⟨f0, f1, a0, a1⟩ := HZ.out rfl
      obtain ⟨x, rfl⟩ := Int.eq_ofNat_of_zero_le a0
      rw [Int.toNat_natCast] at a1 HWS
      have hs1 := HWS.out
      rw [if_pos rfl] at hs1
      subst hs1
      have HT := Lib.hid (a_store w own b s f x t HDA.out f0 f1 a1)
      clear HZ HWS HDA
      generalize stored s f x t.data.toList = s1 at *
      generalize strikeP s1 = r at *
      obtain ⟨s2, hit⟩ := r
      cases hit with
      | true =>
        rw [if_pos rfl]
        go_enter Tryd.func28, Tryd.ntmps28
        go_wp2_with fail
        refine HK.out.mono ?_
        rintro e w' ⟨rfl, rfl⟩
        go_wp2_with fail
        refine HT.out.mono ?_
        rintro e w2 ⟨rfl, own2, hd2, t2⟩
        have HS2 := Lib.hid (HS.out w2 own2 hd2)
        have HT2 := Lib.hid t2
        clear hd2 t2 HS HK HT
        go_wp2_with fail
        refine HS2.out.mono ?_
        intro e w3 h3
        obtain ⟨rfl, own3, hd3, t3⟩ := AEnd.then HT2.out h3
        have HE := Lib.hid (show AEnd w own b s2 (.int .i64 8) (.returned (.int .i64 8)) w3 from ⟨rfl, own3, hd3, t3⟩)
        clear hd3 t3 h3 HS2
        go_wp2
        go_ret
        exact HE.out
      | false =>
        rw [if_neg (by show ¬ (false = true); decide)]
        go_enter Tryd.func28, Tryd.ntmps28
        go_wp2_with fail
        refine HK.out.mono ?_
        rintro e w' ⟨rfl, rfl⟩
        go_wp2_with fail
        refine HT.out.mono ?_
        rintro e w2 ⟨rfl, own2, hd2, t2⟩
        have HS2 := Lib.hid (HS.out w2 own2 hd2)
        have HT2 := Lib.hid t2
        clear hd2 t2 HS HK HT
        go_wp2_with fail
        refine HS2.out.mono ?_
        intro e w3 h3
        obtain ⟨rfl, own3, hd3, t3⟩ := AEnd.then HT2.out h3
        have HE := Lib.hid (show AEnd w own b s2 (.int .i64 0) (.returned (.int .i64 0)) w3 from ⟨rfl, own3, hd3, t3⟩)
        clear hd3 t3 h3 HS2
        go_wp2
        go_ret
        exact HE.out
    · have hs1 := HWS.out
      rw [if_neg hc0] at hs1
      subst hs1
      have HS2 := Lib.hid (HS.out w own HDA.out)
      have hcb : (cv == 0) = false := by simpa using hc0
      clear HZ HWS HDA HS hc0
      generalize strikeP s1 = r at *
      obtain ⟨s2, hit⟩ := r
      cases hit with
      | true =>
        rw [if_pos rfl]
        go_enter Tryd.func28, Tryd.ntmps28
        go_wp2_with fail
        refine HK.out.mono ?_
        rintro e w' ⟨rfl, rfl⟩
        go_wp2_with fail
        refine HS2.out.mono ?_
        rintro e w3 ⟨rfl, own3, hd3, t3⟩
        have HE := Lib.hid (show AEnd w own b s2 (.int .i64 8) (.returned (.int .i64 8)) w3 from ⟨rfl, own3, hd3, t3⟩)
        clear hd3 t3 HS2 HK
        go_wp2
        go_ret
        exact HE.out
      | false =>
        rw [if_neg (by show ¬ (false = true); decide)]
        go_enter Tryd.func28, Tryd.ntmps28
        go_wp2_with fail
        refine HK.out.mono ?_
        rintro e w' ⟨rfl, rfl⟩
        go_wp2_with fail
        refine HS2.out.mono ?_
        rintro e w3 ⟨rfl, own3, hd3, t3⟩
        have HE := Lib.hid (show AEnd w own b s2 (.int .i64 cv) (.returned (.int .i64 cv)) w3 from ⟨rfl, own3, hd3, t3⟩)
        clear hd3 t3 HS2 HK
        go_wp2
        go_ret
        exact HE.out

end Go.Proofs.YtjlndgkahmcfdaaDoor
