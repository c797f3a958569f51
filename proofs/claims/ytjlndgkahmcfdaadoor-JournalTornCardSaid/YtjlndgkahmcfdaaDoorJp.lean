/- The journal, plainly: the sum and the form of a record, the records of a string. No condition but what each says. -/
import Derived.Test.YtjlndgkahmcfdaaDoorPure2
import Derived.Test.YtjlndgkahmcfdaaDoorDx
namespace Go.Proofs.YtjlndgkahmcfdaaDoor

/-- The sum of the first k bytes. -/
def sumN (l : List UInt8) : Nat → Nat
  | 0 => 0
  | k + 1 => (sumN l k + (atB l k).toNat * (k + 1)) % 2147483647
def sumP (l : List UInt8) : Nat := sumN l l.length
theorem sumN_lt (l : List UInt8) (k : Nat) : sumN l k < 2147483647 := by
  cases k with
  | zero => show 0 < 2147483647; omega
  | succ k => exact Nat.mod_lt _ (by omega)
theorem sumP_lt (l : List UInt8) : sumP l < 2147483647 := sumN_lt _ _
def formP (t : List UInt8) : List UInt8 := wText t ++ wInt (sumP t)
def formsP (ts : List (List UInt8)) : List UInt8 := (ts.map formP).flatten
theorem formsP_cons (t : List UInt8) (ts : List (List UInt8)) : formsP (t :: ts) = formP t ++ formsP ts := rfl
theorem formsP_snoc (ts : List (List UInt8)) (t : List UInt8) : formsP (ts ++ [t]) = formsP ts ++ formP t := by simp [formsP]
theorem formP_pos (t : List UInt8) : 0 < (formP t).length := by
  unfold formP wText
  rw [List.length_append, List.length_append, List.length_cons]
  omega
/-- One record at the beginning of a string, and what is left. -/
def stepP (l : List UInt8) : Option (List UInt8 × List UInt8) :=
  match textP l with
  | none => none
  | some (t, r) => match numP r with
    | none => none
    | some (n, r2) => if 20000 < t.length ∨ n ≠ sumP t then none else some (t, r2)
theorem stepP_iff {l t r : List UInt8} : stepP l = some (t, r) ↔ t.length ≤ 20000 ∧ l = formP t ++ r := by
  have hc := text_codec
  have hn := num_codec
  have hs := sumP_lt t
  constructor
  · intro h
    unfold stepP at h
    cases h1 : textP l with
    | none => rw [h1] at h; cases h
    | some q =>
      obtain ⟨t1, r1⟩ := q
      rw [h1] at h
      simp only at h
      cases h2 : numP r1 with
      | none => rw [h2] at h; cases h
      | some q2 =>
        obtain ⟨n, r2⟩ := q2
        rw [h2] at h
        simp only at h
        split at h
        · cases h
        · rename_i h3
          injection h with h
          injection h with ha hb
          subst ha
          subst hb
          obtain ⟨_, e1⟩ := (hc _ _ _).1 h1
          obtain ⟨_, e2⟩ := (hn _ _ _).1 h2
          have h4 : n = sumP t1 := by
            apply Decidable.byContradiction
            intro h5
            exact h3 (.inr h5)
          subst h4
          refine ⟨by omega, ?_⟩
          rw [e1, e2]
          unfold formP
          rw [List.append_assoc]
  · rintro ⟨h1, h2⟩
    have e1 : textP l = some (t, wInt (sumP t) ++ r) := (hc _ _ _).2 ⟨by show t.length ≤ _; omega, by rw [h2]; unfold formP; rw [List.append_assoc]⟩
    have e2 : numP (wInt (sumP t) ++ r) = some (sumP t, r) := (hn _ _ _).2 ⟨by show sumP t ≤ _; omega, rfl⟩
    unfold stepP
    rw [e1]
    simp only
    rw [e2]
    simp only
    rw [if_neg (by omega)]

def recsP : Nat → List UInt8 → List (List UInt8) × List UInt8
  | 0, l => ([], l)
  | k + 1, l => match stepP l with
    | none => ([], l)
    | some (t, r) => (t :: (recsP k r).1, (recsP k r).2)
/-- The records of a string, and what is left. -/
def recs (l : List UInt8) : List (List UInt8) × List UInt8 := recsP l.length l
theorem recsP_is : ∀ (ts : List (List UInt8)) (r l : List UInt8) (n : Nat), l = formsP ts ++ r → (∀ t ∈ ts, t.length ≤ 20000) → stepP r = none → l.length ≤ n → recsP n l = (ts, r)
  | [], r, l, n, hl, _, hr, _ => by
    have e : l = r := hl
    subst e
    cases n with
    | zero => rfl
    | succ n => unfold recsP; rw [hr]
  | t :: ts, r, l, n, hl, ht, hr, hn => by
    have e : l = formP t ++ (formsP ts ++ r) := by rw [hl, formsP_cons, List.append_assoc]
    have hs := stepP_iff.2 ⟨ht t (by simp), e⟩
    have hp := formP_pos t
    have hlen : l.length = (formP t).length + (formsP ts ++ r).length := by rw [e, List.length_append]
    cases n with
    | zero => omega
    | succ n =>
      have ih := recsP_is ts r (formsP ts ++ r) n rfl (fun q hq => ht q (by simp [hq])) hr (by omega)
      unfold recsP
      rw [hs]
      simp only
      rw [ih]
theorem recsP_end : ∀ (n : Nat) (l : List UInt8), l.length ≤ n → l = formsP (recsP n l).1 ++ (recsP n l).2 ∧ (∀ t ∈ (recsP n l).1, t.length ≤ 20000) ∧ stepP (recsP n l).2 = none
  | 0, l, hn => by
    have : l = [] := List.eq_nil_of_length_eq_zero (by omega)
    subst this
    refine ⟨rfl, (fun t ht => by cases ht), ?_⟩
    show stepP [] = none
    cases h : stepP [] with
    | none => rfl
    | some q =>
      have h1 := (stepP_iff (t := q.1) (r := q.2)).1 h
      have h2 := formP_pos q.1
      have h3 := congrArg List.length h1.2
      rw [List.length_append] at h3
      simp at h3
      omega
  | n + 1, l, hn => by
    cases h : stepP l with
    | none =>
      have e : recsP (n + 1) l = ([], l) := by unfold recsP; rw [h]
      rw [e]
      exact ⟨rfl, (fun t ht => by cases ht), h⟩
    | some q =>
      obtain ⟨t, r⟩ := q
      have e : recsP (n + 1) l = (t :: (recsP n r).1, (recsP n r).2) := by
        show (match stepP l with
          | none => ([], l)
          | some (t, r) => (t :: (recsP n r).1, (recsP n r).2)) = _
        rw [h]
      obtain ⟨h1, h2⟩ := stepP_iff.1 h
      have hp := formP_pos t
      have hlen : l.length = (formP t).length + r.length := by rw [h2, List.length_append]
      obtain ⟨i1, i2, i3⟩ := recsP_end n r (by omega)
      rw [e]
      refine ⟨?_, fun q hq => ?_, i3⟩
      · show l = formsP (t :: (recsP n r).1) ++ (recsP n r).2
        rw [formsP_cons, List.append_assoc, ← i1]
        exact h2
      · rcases List.mem_cons.1 hq with hq | hq
        · rw [hq]; exact h1
        · exact i2 q hq
theorem recs_is {ts : List (List UInt8)} {r l : List UInt8} (h : l = formsP ts ++ r) (ht : ∀ t ∈ ts, t.length ≤ 20000) (hr : stepP r = none) : recs l = (ts, r) := recsP_is ts r l _ h ht hr (Nat.le_refl _)
theorem recs_end (l : List UInt8) : l = formsP (recs l).1 ++ (recs l).2 ∧ (∀ t ∈ (recs l).1, t.length ≤ 20000) ∧ stepP (recs l).2 = none := recsP_end _ l (Nat.le_refl _)
theorem stepP_nil : stepP [] = none := by
  have := (recsP_end 0 [] (Nat.le_refl _)).2.2
  exact this
/-- The records of forms alone. -/
theorem recs_forms {ts : List (List UInt8)} (ht : ∀ t ∈ ts, t.length ≤ 20000) : recs (formsP ts) = (ts, []) := recs_is (List.append_nil _).symm ht stepP_nil

/-- A journal, plainly: its list; whether the disk has failed. -/
structure Js where
  list : List (List UInt8)
  broken : Bool
def openP (S : Ds) (f : Int) : Ds × Int × List (List UInt8) :=
  if (syncP S f).2 ≠ 0 then ((syncP S f).1, (syncP S f).2, []) else
  if (formsP (recs ((syncP S f).1.data f)).1).length < ((syncP S f).1.data f).length then
    (if (truncP (syncP S f).1 f ((formsP (recs ((syncP S f).1.data f)).1).length : Nat)).2 ≠ 0 then ((truncP (syncP S f).1 f ((formsP (recs ((syncP S f).1.data f)).1).length : Nat)).1, (truncP (syncP S f).1 f ((formsP (recs ((syncP S f).1.data f)).1).length : Nat)).2, [])
    else ((truncP (syncP S f).1 f ((formsP (recs ((syncP S f).1.data f)).1).length : Nat)).1, 0, (recs ((syncP S f).1.data f)).1))
  else ((syncP S f).1, 0, (recs ((syncP S f).1.data f)).1)
def appP (S : Ds) (f : Int) (j : Js) (t : List UInt8) : Ds × Js × Int :=
  if j.broken = true then (S, j, 7) else if 20000 < t.length then (S, j, 3) else if 1048576 < (formsP j.list).length + (formP t).length then (S, j, 6)
  else if (writeP S f ((formsP j.list).length : Nat) (formP t)).2 ≠ 0 then ((writeP S f ((formsP j.list).length : Nat) (formP t)).1, { j with broken := true }, (writeP S f ((formsP j.list).length : Nat) (formP t)).2)
  else ((writeP S f ((formsP j.list).length : Nat) (formP t)).1, { j with list := j.list ++ [t] }, 0)

end Go.Proofs.YtjlndgkahmcfdaaDoor

/- The walks of Sum and form. Conditions: the table of strconv; sizes. -/
namespace Go.Proofs.YtjlndgkahmcfdaaDoor
open Go.RowKit Go.ChangeMaps

theorem own_below {w w' : World} {base : Nat} {e : TypeId} {size n : Nat} {v : Value} {xs : List Value} {B : Nat} (h : w.ownsRow base e size v n xs) (hb : Below B w w') (hB : ∀ g, v.ownBlock = some g → g < B) : w'.ownsRow base e size v n xs := by
  refine ⟨h.1, ?_⟩
  rcases h.2 with hn | ⟨g, cap, cur, rfl, hb1, hgg, rest⟩
  · exact .inl hn
  · exact .inr ⟨g, cap, cur, rfl, hb1, (hb.block g (hB g rfl)).trans hgg, rest⟩

/-- own, and role r at the slice v's block. -/
def giveV (own : Nat → Option Nat) (v : Value) (r : Nat) : Nat → Option Nat := fun g => if v.ownBlock = some g then some r else own g
theorem giveV_same {own : Nat → Option Nat} {v : Value} {r g : Nat} (h : v.ownBlock = some g) : giveV own v r g = some r := by simp [giveV, h]
theorem giveV_other {own : Nat → Option Nat} {v : Value} {r g : Nat} (h : v.ownBlock ≠ some g) : giveV own v r g = own g := by simp [giveV, h]
theorem Tr.giveV {R : Nat → Prop} {w w' : World} {own own' : Nat → Option Nat} (h : Tr R w own own' w') {v : Value} (hv : ∀ g, v.ownBlock = some g → w.heap.size ≤ g ∧ g < w'.heap.size) (r : Nat) : Tr R w own (giveV own' v r) w' :=
  ⟨h.os, h.tape, h.output, h.size, h.block, fun x hx => (giveV_other (fun e => by have := (hv x e).1; omega)).trans (h.kept x hx), fun x r' e => by
    by_cases hx : v.ownBlock = some x
    · exact (hv x hx).2
    · rw [giveV_other hx] at e; exact h.inb x r' e⟩
theorem Tr.of_below {w w' : World} {own : Nat → Option Nat} (R : Nat → Prop) (hi : ∀ g r, own g = some r → g < w.heap.size) (h : Below w.heap.size w w') : Tr R w own own w' :=
  ⟨h.os, h.tape, h.output, h.size, fun g hg _ => h.block g hg, fun _ _ => rfl, fun g r e => Nat.lt_of_lt_of_le (hi g r e) h.size⟩


set_option maxHeartbeats 1000000 in
theorem j_sum (s : ByteArray) (w : World) (hs : s.size ≤ 1000000000) : Calls Tryd.prog 35 #[.string s] w fun e w' => e = .returned (.int .i64 (sumP s.data.toList : Nat)) ∧ w = w' := by
  have hlen := len_eq s
  have HSP : Hid (sumP s.data.toList = sumN s.data.toList s.size) := by unfold sumP; rw [hlen]; exact rfl
  have HLT := Lib.hid (sumN_lt s.data.toList)
  clear hlen
  go_enter Tryd.func35, Tryd.ntmps35
  go_wp2_with fail
  go_loopw [3, 7] (fun a i wr => ∃ k : Nat, k ≤ s.size ∧ i = .int .i64 k ∧ a = .int .i64 (sumN s.data.toList k : Nat) ∧ w = wr) (fun _ i _ => s.size - (RowKit.intOf i).toNat)
  case atStart => exact ⟨0, Nat.zero_le _, rfl, rfl, rfl⟩
  case round =>
    obtain ⟨k, hk, rfl, rfl, rfl⟩ := hrel
    by_cases hlt : k < s.size
    · have hlt' : (k : Int) < (s.size : Int) := by omega
      have hk0 : 0 ≤ (k : Int) := by omega
      have h1 := HLT.out k
      have hat : atB s.data.toList k = s[k] := by
        have h3 := atB_lt (b := s.data.toList) (i := k) (by rw [len_eq]; exact hlt)
        rw [at_ hlt] at h3
        exact (Option.some.inj h3).symm
      have hc : s[k].toNat < 256 := s[k].toNat_lt
      have hst : sumN s.data.toList (k + 1) = (sumN s.data.toList k + s[k].toNat * (k + 1)) % 2147483647 := by
        show (sumN s.data.toList k + (atB s.data.toList k).toNat * (k + 1)) % 2147483647 = _
        rw [hat]
      generalize sumN s.data.toList k = a at *
      have hmul : s[k].toNat * (k + 1) ≤ 255 * (k + 1) := Nat.mul_le_mul_right _ (by omega)
      have hcast : ((s[k].toNat : Int) * ((k : Int) + 1)) = ((s[k].toNat * (k + 1) : Nat) : Int) := by push_cast; rfl
      have HST := Lib.hid hst
      clear hst hat
      generalize hp : s[k].toNat * (k + 1) = p at *
      have hpb : p ≤ 255000000255 := by omega
      go_wp2_with fail
      go_roundw
      case rel => exact ⟨k + 1, by omega, by go_num, by rw [HST.out]; congr 1, trivial⟩
      case measure => simp [RowKit.intOf]; omega
    · obtain rfl : k = s.size := by omega
      go_wp2_with fail
      go_ret
      exact ⟨by rw [HSP.out]; rfl, rfl⟩

theorem sumB (t : List UInt8) (w : World) (ht : t.length ≤ 1000000000) : Calls Tryd.prog 35 #[.string (bStr t)] w fun e w' => e = .returned (.int .i64 (sumP t : Nat)) ∧ w = w' := by
  have := j_sum (bStr t) w (by rw [bStr_size]; exact ht)
  rw [show (bStr t).data.toList = t by simp [bStr]] at this
  exact this

theorem wInt_len {n : Int} (h0 : -9223372036854775808 ≤ n) (h1 : n ≤ 9223372036854775807) : (wInt n).length ≤ 22 := by
  have := Lib.itoa_length_le n h0 h1
  unfold wInt
  rw [List.length_append]
  simp
  omega
theorem dec_len {n : Nat} (h : n ≤ 9223372036854775807) : (Lib.decDigits n).length ≤ 21 := by
  have h1 := Lib.itoa_length_le (n : Int) (by omega) (by omega)
  have h2 : Lib.itoa (n : Int) = Lib.decDigits n := by unfold Lib.itoa; rw [if_neg (by omega)]; rfl
  rw [h2] at h1
  exact h1
theorem wText_len {t : List UInt8} (h : t.length ≤ 9223372036854775807) : (wText t).length ≤ t.length + 23 := by
  have := dec_len h
  unfold wText
  rw [List.length_append, List.length_cons, List.length_append]
  simp
  omega
theorem formP_len {t : List UInt8} (h : t.length ≤ 9223372036854775807) : (formP t).length ≤ t.length + 45 := by
  have h1 := wText_len h
  have h2 := sumP_lt t
  have h3 := wInt_len (n := (sumP t : Nat)) (by omega) (by omega)
  unfold formP
  rw [List.length_append]
  omega

set_option maxHeartbeats 1000000 in
theorem j_form (t : List UInt8) (w : World) (ht : t.length ≤ 1000000) (hT : Tab w) : Calls Tryd.prog 61 #[.string (bStr t)] w fun e w' => e = .returned (.string (bStr (formP t))) ∧ Below w.heap.size w w' := by
  have hlt := sumP_lt t
  have hb : (bStr t).size = t.length := bStr_size t
  have HB := Lib.hid hb
  have hf : formP t = wText t ++ wInt (sumP t) := rfl
  rw [hf]
  clear hb hf
  go_enter Tryd.func61, Tryd.ntmps61
  go_wp2_with fail
  refine (wText_any (bStr t) (by rw [HB.out]; omega) w hT).mono ?_
  rintro e w1 ⟨rfl, b1⟩
  rw [show (bStr t).data.toList = t by simp [bStr]]
  have HB1 := Lib.hid b1
  clear b1
  go_wp2_with fail
  refine (sumB t w1 (by omega)).mono ?_
  rintro e w' ⟨rfl, rfl⟩
  go_wp2_with fail
  refine (wNum_any (sumP t : Nat) (by omega) (by omega) w1 (hT.on HB1.out)).mono ?_
  rintro e w2 ⟨rfl, b2⟩
  rw [if_neg (by omega)]
  have HB2 : Hid (Below w.heap.size w w2) := HB1.out.trans (b2.mono HB1.out.size)
  clear b2
  have h1 := wText_len (t := t) (by omega)
  have h2 := wInt_len (n := (sumP t : Nat)) (by omega) (by omega)
  have hd : (bStr t).data.toList = t := by simp [bStr]
  clear hd
  go_wp2_with fail
  go_ret
  refine ⟨?_, HB2.out⟩
  exact ret_str (by simp)

end Go.Proofs.YtjlndgkahmcfdaaDoor
