/- A journal in memory; the walk of Open. Conditions: the file is one; the disk is one that was made since a world. -/
import Derived.Test.YtjlndgkahmcfdaaDoorJr
namespace Go.Proofs.YtjlndgkahmcfdaaDoor
set_option maxRecDepth 8000
open Go.RowKit Go.ChangeMaps

/-- Block b is a journal: roles 0 (its struct), 1 (its list). -/
structure Jn (w : World) (own : Nat → Option Nat) (b bd : Nat) (f : Int) (lv : Value) (j : Js) : Prop where
  blk : Blk w b 89 #[.pointer (some ⟨bd, 0, none⟩), .int .i64 f, lv, .int .i64 ((formsP j.list).length : Nat), .bool j.broken]
  ob : own b = some 0
  row : Row w own 1 9 1 lv j.list.length (j.list.map strV)
  inb : ∀ g r, own g = some r → g < w.heap.size
/-- One that was made since W. -/
structure Jx (W w : World) (own : Nat → Option Nat) (b bd : Nat) (f : Int) (j : Js) : Prop where
  jn : ∃ lv, Jn w own b bd f lv j
  below : Below W.heap.size W w
  new : ∀ g r, own g = some r → W.heap.size ≤ g
section
variable {W w w' : World} {own own' own2 : Nat → Option Nat} {b bd : Nat} {f : Int} {j j' : Js} {S S' : Ds} {lv : Value}
theorem Jx.inb (h : Jx W w own b bd f j) : ∀ g r, own g = some r → g < w.heap.size := by
  obtain ⟨_, hk⟩ := h.jn
  exact hk.inb
theorem Jn.kept1 (h : Jn w own b bd f lv j) (hk : ∀ g ρ, own g = some ρ → w'.heap[g]? = w.heap[g]?) (hs : w.heap.size ≤ w'.heap.size) : Jn w' own b bd f lv j :=
  ⟨(hk b 0 h.ob).trans h.blk, h.ob, h.row.kept0 hk, fun g ρ e => Nat.lt_of_lt_of_le (h.inb g ρ e) hs⟩
theorem Jx.kept1 (h : Jx W w own b bd f j) (hk : ∀ g ρ, own g = some ρ → w'.heap[g]? = w.heap[g]?) (hs : w.heap.size ≤ w'.heap.size) (hb : Below W.heap.size W w') : Jx W w' own b bd f j := by
  obtain ⟨lv, hr⟩ := h.jn
  exact ⟨⟨lv, hr.kept1 hk hs⟩, hb, h.new⟩
theorem Jx.past (h : Jx W w own b bd f j) (hb : Below w.heap.size w w') : Jx W w' own b bd f j := h.kept1 (fun g r e => hb.block g (h.inb g r e)) hb.size (h.below.trans (hb.mono h.below.size))
theorem Dx.go (h : Dx W w own b S) (hb : Below w.heap.size w w') : Dx W w' own b S :=
  ⟨h.da.kept1 (fun g r e => hb.block g (h.da.inb g r e)) hb.size, h.below.trans (hb.mono h.below.size), h.new⟩
/-- The disk's method leaves the journal. -/
theorem Jx.other (h : Jx W w own2 b bd f j) (ap : Apart own own2) (hb : Below W.heap.size W w') (t : Tr (fun _ => True) w own own' w') : Jx W w' own2 b bd f j ∧ Apart own' own2 :=
  ⟨h.kept1 (fun g r e => t.block g (h.inb g r e) (fun r' e' => by rw [ap g r e] at e'; cases e')) t.size hb, fun g r e => (t.kept g (h.inb g r e)).trans (ap g r e)⟩
end

theorem sync_ok {S : Ds} {f : Int} (h : (syncP S f).2 = 0) : (syncP S f).1.down = false ∧ isF f = true := by
  revert h
  unfold syncP
  split
  · intro h; cases h
  · rename_i hd
    have hd' : S.down = false := by simpa using hd
    split
    · intro h; cases h
    · rename_i hs
      have hdn : (strikeP S).1.down = false := by
        unfold strikeP at hs ⊢
        split
        · exact hd'
        · rename_i h0
          rw [if_neg h0] at hs
          split
          · exact hd'
          · rename_i h1
            rw [if_neg h1] at hs
            exact absurd rfl hs
      split
      · intro h; cases h
      · rename_i hf
        have hf' : isF f = true := by simpa using hf
        split
        · intro h; cases h
        · intro _; exact ⟨hdn, hf'⟩
theorem readP_all {S : Ds} {f : Int} (hd : S.down = false) (hf : isF f = true) : readP S f 0 ((S.data f).length : Nat) = (S.data f, 0) := by
  unfold readP
  rw [if_neg (by rw [hd]; decide), if_neg (fun h => by rcases h with h | h | h <;> first | (rw [hf] at h; cases h; done) | omega), Int.toNat_natCast]
  show (((S.data f).drop 0).take _, (0 : Int)) = _
  rw [List.drop_zero, List.take_length]

/-- How Open ends. -/
def OpenEnd (W w : World) (own : Nat → Option Nat) (bd : Nat) (S' : Ds) (f r : Int) (ts : List (List UInt8)) (e : Ending) (w' : World) : Prop :=
  ∃ own', Dx W w' own' bd S' ∧ Tr (fun _ => True) w own own' w' ∧
    ((r ≠ 0 ∧ e = .returned (.tuple #[.pointer none, .int .i64 r])) ∨ (r = 0 ∧ ∃ bj oj, e = .returned (.tuple #[.pointer (some ⟨bj, 0, none⟩), .int .i64 0]) ∧ Jx W w' oj bj bd f ⟨ts, false⟩ ∧ Apart own' oj))

/-- The journal that Open has built. -/
theorem jn_new {W w2 : World} {own2 : Nat → Option Nat} {bd : Nat} {f : Int} {S2 : Ds} {A : Option Addr} {c : Nat} {ts : List (List UInt8)} (hD2 : Dx W w2 own2 bd S2)
    (ho : w2.ownsRow 0 9 1 (.slice A ts.length c) ts.length (ts.map strV)) (hn : ∀ g, (Value.slice A ts.length c).ownBlock = some g → W.heap.size ≤ g ∧ own2 g = none) :
    ∃ oj, Jx W (w2.alloc (.cells #[.pointer (some ⟨bd, 0, none⟩), .int .i64 f, .slice A ts.length c, .int .i64 ((formsP ts).length : Nat), .bool false] 89)) oj w2.heap.size bd f ⟨ts, false⟩ ∧ Apart own2 oj := by
  have hgb : ∀ g, (Value.slice A ts.length c).ownBlock = some g → g < w2.heap.size := fun g e => (ho.lt g e).2
  have hcase : ∀ g r, giveV (give (fun _ => none) w2.heap.size 0) (.slice A ts.length c) 1 g = some r → (Value.slice A ts.length c).ownBlock = some g ∨ g = w2.heap.size := fun g r e => by
    by_cases h1 : (Value.slice A ts.length c).ownBlock = some g
    · exact .inl h1
    · refine .inr ?_
      unfold giveV at e
      rw [if_neg h1] at e
      by_cases h2 : g = w2.heap.size
      · exact h2
      · rw [give_other h2] at e; cases e
  refine ⟨giveV (give (fun _ => none) w2.heap.size 0) (.slice A ts.length c) 1, ⟨⟨.slice A ts.length c, ⟨Blk.new w2 _ _, ?_, ⟨?_, fun g e => giveV_same e⟩, fun g r e => ?_⟩⟩, hD2.below.alloc hD2.below.size _, fun g r e => ?_⟩, fun g r e => ?_⟩
  · unfold giveV
    rw [if_neg (fun e => by have := hgb _ e; omega)]
    exact give_same _ _ _
  · exact own_below ho ((Below.refl w2.heap.size w2).alloc (Nat.le_refl _) _) hgb
  · rcases hcase g r e with h | h
    · have := hgb g h; simp; omega
    · rw [h]; simp
  · rcases hcase g r e with h | h
    · exact (hn g h).1
    · rw [h]; exact hD2.below.size
  · rcases hcase g r e with h | h
    · exact (hn g h).2
    · rw [h]; exact own_none hD2.da.inb (Nat.le_refl _)

set_option maxHeartbeats 4000000 in
theorem x_open {W w : World} {own : Nat → Option Nat} {bd : Nat} {S : Ds} (h : Dx W w own bd S) {f : Int} (hf0 : 0 ≤ f) (hf1 : f < 16) :
    Calls Tryd.prog 16 #[.pointer (some ⟨bd, 0, none⟩), .int .i64 f] w (OpenEnd W w own bd (openP S f).1 f (openP S f).2.1 (openP S f).2.2) := by
  have HS := Lib.hid (x_sync h (f := f) rfl rfl)
  have hok := sync_ok (S := S) (f := f)
  have hi64 : I64 f := by unfold I64; omega
  have HI := Lib.hid hi64
  clear hi64
  unfold openP
  generalize hr1 : (syncP S f).2 = r1 at *
  generalize hs1 : (syncP S f).1 = S1 at *
  clear hr1 hs1 h
  by_cases he1 : r1 = 0
  · subst he1
    obtain ⟨hdn, hff⟩ := hok rfl
    rw [if_neg (show ¬ (0 : Int) ≠ 0 by decide)]
    have HRA := Lib.hid (readP_all hdn hff)
    generalize hD : S1.data f = D at *
    have HD := Lib.hid hD
    clear hD hdn hff hok
    generalize hts : (recs D).1 = ts at *
    have HTS := Lib.hid hts
    clear hts
    by_cases hlt : (formsP ts).length < D.length
    · rw [if_pos hlt]
      have hlt' : ((formsP ts).length : Int) < (D.length : Int) := by omega
      obtain ⟨S3, hS3⟩ : ∃ S3, (truncP S1 f ((formsP ts).length : Nat)).1 = S3 := ⟨_, rfl⟩
      obtain ⟨r3, hr3⟩ : ∃ r3, (truncP S1 f ((formsP ts).length : Nat)).2 = r3 := ⟨_, rfl⟩
      rw [hS3, hr3]
      have HS3 := Lib.hid hS3
      have HR3 := Lib.hid hr3
      clear hS3 hr3
      by_cases he3 : r3 = 0
      · subst he3
        rw [if_neg (show ¬ (0 : Int) ≠ 0 by decide)]
        go_enter Tryd.func16, Tryd.ntmps16
        go_wp2_with fail
        refine HS.out.mono ?_
        rintro e w1 ⟨o1, rfl, hx1, t1⟩
        have H1 := Lib.hid hx1
        have T1 := Lib.hid t1
        have hDl : D.length ≤ 16777216 := by rw [← HD.out]; exact hx1.da.1.size f
        have hfl : (formsP ts).length ≤ 16777216 := by have := congrArg List.length (recs_end D).1; rw [List.length_append, HTS.out] at this; omega
        clear hx1 t1 HS
        go_wp2_with fail
        refine (x_size H1.out HI.out (congrArg List.length HD.out)).mono ?_
        rintro e w' ⟨rfl, rfl⟩
        go_wp2_with fail
        refine (x_read H1.out HI.out HRA.out).mono ?_
        rintro e w' ⟨rfl, rfl⟩
        go_wp2_with fail
        refine (j_records D w1 hDl).mono ?_
        rintro e w2 ⟨A, c, rfl, ho, hn, b2⟩
        rw [HTS.out] at ho hn ⊢
        have H2 := Lib.hid (H1.out.go b2)
        have q0 := bStr_size D
        have T2 : Hid (Tr (fun _ => True) w own o1 w2) := T1.out.trans (Tr.of_below _ H1.out.da.inb b2)
        have HHO := Lib.hid ho
        have HHN : Hid (∀ g, (Value.slice A ts.length c).ownBlock = some g → W.heap.size ≤ g ∧ o1 g = none) := fun g e => ⟨Nat.le_trans H1.out.below.size (hn g e), own_none H1.out.da.inb (hn g e)⟩
        clear ho hn b2 T1 H1
        go_wp2_with fail
        refine (x_trunc H2.out HI.out HS3.out HR3.out).mono ?_
        rintro e w3 ⟨o3, rfl, hx3, t3⟩
        obtain ⟨oj, hj, hap⟩ := jn_new (f := f) hx3 (ts := ts) (A := A) (c := c) ⟨HHO.out.1, by
          rcases HHO.out.2 with hn | ⟨g, cap, cur, hv, hb, hgg, rest⟩
          · exact .inl hn
          · refine .inr ⟨g, cap, cur, hv, hb, ?_, rest⟩
            have hnone := (HHN.out g (by rw [hv]; rfl)).2
            rw [t3.block g (Array.getElem?_eq_some_iff.1 hgg).1 (fun r' e' => by rw [hnone] at e'; cases e')]
            exact hgg⟩ (fun g e => ⟨(HHN.out g e).1, (t3.kept g (HHO.out.lt g e).2).trans (HHN.out g e).2⟩)
        have HE : Hid (OpenEnd W w own bd S3 f 0 ts (.returned (.tuple #[.pointer (some ⟨w3.heap.size, 0, none⟩), .int .i64 0])) (w3.alloc (.cells #[.pointer (some ⟨bd, 0, none⟩), .int .i64 f, .slice A ts.length c, .int .i64 ((formsP ts).length : Nat), .bool false] 89))) :=
          ⟨o3, hx3.alloc _, (T2.out.trans t3).alloc _, .inr ⟨rfl, _, oj, rfl, hj, hap⟩⟩
        clear hx3 t3 hj hap T2 H2 HHO HHN
        go_wp2_with fail
        go_ret2
        exact HE.out
      · rw [if_pos he3]
        have hb3 : (r3 != 0) = true := by simpa using he3
        go_enter Tryd.func16, Tryd.ntmps16
        go_wp2_with fail
        refine HS.out.mono ?_
        rintro e w1 ⟨o1, rfl, hx1, t1⟩
        have H1 := Lib.hid hx1
        have T1 := Lib.hid t1
        have hDl : D.length ≤ 16777216 := by rw [← HD.out]; exact hx1.da.1.size f
        have hfl : (formsP ts).length ≤ 16777216 := by have := congrArg List.length (recs_end D).1; rw [List.length_append, HTS.out] at this; omega
        clear hx1 t1 HS
        go_wp2_with fail
        refine (x_size H1.out HI.out (congrArg List.length HD.out)).mono ?_
        rintro e w' ⟨rfl, rfl⟩
        go_wp2_with fail
        refine (x_read H1.out HI.out HRA.out).mono ?_
        rintro e w' ⟨rfl, rfl⟩
        go_wp2_with fail
        refine (j_records D w1 hDl).mono ?_
        rintro e w2 ⟨A, c, rfl, ho, hn, b2⟩
        rw [HTS.out] at ho hn ⊢
        have H2 := Lib.hid (H1.out.go b2)
        have q0 := bStr_size D
        have T2 : Hid (Tr (fun _ => True) w own o1 w2) := T1.out.trans (Tr.of_below _ H1.out.da.inb b2)
        have HHO := Lib.hid ho
        have HHN : Hid (∀ g, (Value.slice A ts.length c).ownBlock = some g → W.heap.size ≤ g ∧ o1 g = none) := fun g e => ⟨Nat.le_trans H1.out.below.size (hn g e), own_none H1.out.da.inb (hn g e)⟩
        clear ho hn b2 T1 H1
        go_wp2_with fail
        refine (x_trunc H2.out HI.out HS3.out HR3.out).mono ?_
        rintro e w3 ⟨o3, rfl, hx3, t3⟩
        have HE : Hid (OpenEnd W w own bd S3 f r3 [] (.returned (.tuple #[.pointer none, .int .i64 r3])) w3) :=
          ⟨o3, hx3, T2.out.trans t3, .inl ⟨he3, rfl⟩⟩
        clear hx3 t3 T2 H2 HHO HHN
        go_wp2_with fail
        go_ret2
        exact HE.out
    · rw [if_neg hlt]
      have hlt' : ¬ ((formsP ts).length : Int) < (D.length : Int) := by omega
      go_enter Tryd.func16, Tryd.ntmps16
      go_wp2_with fail
      refine HS.out.mono ?_
      rintro e w1 ⟨o1, rfl, hx1, t1⟩
      have H1 := Lib.hid hx1
      have T1 := Lib.hid t1
      have hDl : D.length ≤ 16777216 := by rw [← HD.out]; exact hx1.da.1.size f
      have hfl : (formsP ts).length ≤ 16777216 := by have := congrArg List.length (recs_end D).1; rw [List.length_append, HTS.out] at this; omega
      clear hx1 t1 HS
      go_wp2_with fail
      refine (x_size H1.out HI.out (congrArg List.length HD.out)).mono ?_
      rintro e w' ⟨rfl, rfl⟩
      go_wp2_with fail
      refine (x_read H1.out HI.out HRA.out).mono ?_
      rintro e w' ⟨rfl, rfl⟩
      go_wp2_with fail
      refine (j_records D w1 hDl).mono ?_
      rintro e w2 ⟨A, c, rfl, ho, hn, b2⟩
      rw [HTS.out] at ho hn ⊢
      have H2 := Lib.hid (H1.out.go b2)
      have q0 := bStr_size D
      have T2 : Hid (Tr (fun _ => True) w own o1 w2) := T1.out.trans (Tr.of_below _ H1.out.da.inb b2)
      have HHO := Lib.hid ho
      have HHN : Hid (∀ g, (Value.slice A ts.length c).ownBlock = some g → W.heap.size ≤ g ∧ o1 g = none) := fun g e => ⟨Nat.le_trans H1.out.below.size (hn g e), own_none H1.out.da.inb (hn g e)⟩
      clear ho hn b2 T1 H1
      obtain ⟨oj, hj, hap⟩ := jn_new (f := f) H2.out HHO.out HHN.out
      have HE : Hid (OpenEnd W w own bd S1 f 0 ts (.returned (.tuple #[.pointer (some ⟨w2.heap.size, 0, none⟩), .int .i64 0])) (w2.alloc (.cells #[.pointer (some ⟨bd, 0, none⟩), .int .i64 f, .slice A ts.length c, .int .i64 ((formsP ts).length : Nat), .bool false] 89))) :=
        ⟨o1, H2.out.alloc _, T2.out.alloc _, .inr ⟨rfl, _, oj, rfl, hj, hap⟩⟩
      clear hj hap T2 H2 HHO HHN
      go_wp2_with fail
      go_ret2
      exact HE.out
  · rw [if_pos he1]
    have hb1 : (r1 != 0) = true := by simpa using he1
    go_enter Tryd.func16, Tryd.ntmps16
    go_wp2_with fail
    refine HS.out.mono ?_
    rintro e w1 ⟨o1, rfl, hx1, t1⟩
    have HE : Hid (OpenEnd W w own bd S1 f r1 [] (.returned (.tuple #[.pointer none, .int .i64 r1])) w1) := ⟨o1, hx1, t1, .inl ⟨he1, rfl⟩⟩
    clear hx1 t1 HS
    go_wp2_with fail
    go_ret2
    exact HE.out

end Go.Proofs.YtjlndgkahmcfdaaDoor
