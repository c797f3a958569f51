/- The walks of big's functions on big integers: signed, Of, Right, Same, Neg. Conditions: lengths. -/
import Derived.Test.YtikfjmdeeknalaaGreatDoorBt
namespace Go.Proofs.YtikfjmdeeknalaaGreatDoor
set_option maxRecDepth 8000
open Go.RowKit

/-- How a function ends that returns a right big integer. -/
def BigEnd (w : World) (x : Int) (e : Ending) (w' : World) : Prop :=
  ∃ s l A c, e = .returned (.agg #[.int .i64 s, .slice A l.length c]) ∧ l.length ≤ c ∧ Rep s l x ∧ Reads w' w'.heap.size 1 A l.length (dv l) ∧ (0 < l.length → ∀ ad, A = some ad → w.heap.size ≤ ad.block) ∧ Below w.heap.size w w'
theorem BigEnd.from_ {w w1 w' : World} {x : Int} {e : Ending} (h : BigEnd w1 x e w') (hb : Below w.heap.size w w1) : BigEnd w x e w' := by
  obtain ⟨s, l, A, c, h1, h2, h3, h4, h5, h6⟩ := h
  exact ⟨s, l, A, c, h1, h2, h3, h4, fun hp ad e => Nat.le_trans hb.size (h5 hp ad e), hb.trans (h6.mono hb.size)⟩
/-- What a result's two cells hold once both are stored. -/
theorem two_cells {w : World} {g : Nat} {t : TypeId} {u0 u1 : Value} (h : Blk w g t #[u0, u1]) (v0 v1 : Value) :
    ((w.setCell ⟨g, 0, none⟩ v0).setCell ⟨g, 1, none⟩ v1).cell? ⟨g, 0, none⟩ = some v0 ∧ ((w.setCell ⟨g, 0, none⟩ v0).setCell ⟨g, 1, none⟩ v1).cell? ⟨g, 1, none⟩ = some v1 := by
  have e : ((#[u0, u1].setIfInBounds 0 v0).setIfInBounds 1 v1) = #[v0, v1] := by simp
  have hk : Blk ((w.setCell ⟨g, 0, none⟩ v0).setCell ⟨g, 1, none⟩ v1) g t #[v0, v1] := by rw [← e]; exact (h.set_ 0 v0).set_ 1 v1
  generalize (w.setCell ⟨g, 0, none⟩ v0).setCell ⟨g, 1, none⟩ v1 = w' at *
  constructor
  · have := hk.cell 0; simpa using this
  · have := hk.cell 1; simpa using this
theorem BigEnd.stored {w w2 : World} {g : Nat} {s x : Int} {l : List Nat} {A : Option Addr} {c : Nat} {v0 : Value} (hg : w.heap.size ≤ g) (hne : 0 < l.length → ∀ ad, A = some ad → g < ad.block) (hR : Reads w2 w2.heap.size 1 A l.length (dv l)) (hb : Below w.heap.size w w2) (hrep : Rep s l x) (hc : l.length ≤ c) (v1 : Value) :
    BigEnd w x (.returned (.agg #[.int .i64 s, .slice A l.length c])) ((w2.setCell ⟨g, 0, none⟩ v0).setCell ⟨g, 1, none⟩ v1) := by
  have hgr : w2.grownBy ((w2.setCell ⟨g, 0, none⟩ v0).setCell ⟨g, 1, none⟩ v1) (some g) := by
    have h1 : w2.grownBy (w2.setCell ⟨g, 0, none⟩ v0) (some g) := only_setCell (p := ⟨g, 0, none⟩) (grown_refl w2 (some g)) (Or.inl rfl) v0
    exact only_setCell (p := ⟨g, 1, none⟩) h1 (Or.inl rfl) v1
  refine ⟨s, l, A, c, rfl, hc, hrep, (hR.apart hgr (fun hp ad e => ?_)).here, fun hp ad e => ?_, (hb.setCell (p := ⟨g, 0, none⟩) hg _).setCell (p := ⟨g, 1, none⟩) hg _⟩
  · have := hne hp ad e; omega
  · have := hne hp ad e; omega
theorem Rep.signed {s : Int} {l : List Nat} (h : Norm l) (hs : s = 1 ∨ s = -1 ∨ l = []) (hl : l ≠ []) : Rep s l (s * dval l) := by
  rcases hs with h1 | h1 | h1
  · exact Rep.of h (.inl h1) hl
  · exact Rep.of h (.inr h1) hl
  · exact absurd h1 hl
theorem Rep.len {s x : Int} {l : List Nat} {k : Nat} (h : Rep s l x) (hx : x.natAbs < 1048576 ^ k) : l.length ≤ k := by
  rcases Nat.lt_or_ge k l.length with hlt | hge
  · have hl : l ≠ [] := by intro e; subst e; simp at hlt
    have h1 := norm_pos h.norm hl
    have h2 : 1048576 ^ k ≤ 1048576 ^ (l.length - 1) := Nat.pow_le_pow_right (by decide) (by omega)
    rcases h.cases with ⟨-, -, a3, a4⟩ | ⟨-, -, a3, a4⟩ | ⟨-, a2, -⟩
    · omega
    · omega
    · exact absurd a2 hl
  · exact hge

set_option maxHeartbeats 1000000 in
theorem signed_any (s : Int) (A : Option Addr) (n c B : Nat) (l : List Nat) (w : World) (h : Reads w B 1 A n (dv l)) (hl : Norm l) (hs : s = 1 ∨ s = -1 ∨ l = []) (hc : n ≤ c) :
    Calls Tryz.prog 125 #[.int .i64 s, .slice A n c] w fun e w' => ∃ s' A' c', e = .returned (.agg #[.int .i64 s', .slice A' n c']) ∧ n ≤ c' ∧ Rep s' l (s * dval l) ∧ (0 < n → A' = A) ∧ Below w.heap.size w w' := by
  have HL := Lib.hid h.lenD
  have HN := Lib.hid hl
  have HS := Lib.hid hs
  clear h hl hs
  by_cases h0 : n = 0
  · subst h0
    have hl : l = [] := List.eq_nil_of_length_eq_zero HL.out
    have HZ := Lib.hid hl
    clear hl
    go_enter Tryz.func125, Tryz.ntmps125
    go_wp2_with fail
    refine bodyPost_ret (v := .agg #[.int .i64 0, .slice none 0 0]) (by simp [results, Tryz.results125, go_sem]) rfl ?_
    rw [HZ.out]
    exact ⟨0, none, 0, rfl, Nat.le_refl _, by simpa [dval] using Rep.zero, fun h => absurd h (by omega), (Below.refl _ _).alloc (Nat.le_refl _) _⟩
  · have hn0 : ¬ (n : Int) = 0 := by omega
    go_enter Tryz.func125, Tryz.ntmps125
    go_wp2_with fail
    refine bodyPost_ret (v := .agg #[.int .i64 s, .slice A n c]) (by simp [results, Tryz.results125, go_sem]) rfl ?_
    have hl : l ≠ [] := by intro e; have := HL.out; rw [e] at this; simp at this; omega
    exact ⟨s, A, c, rfl, hc, Rep.signed HN.out HS.out hl, fun _ => rfl, (Below.refl _ _).alloc (Nat.le_refl _) _⟩

theorem digN_rep {m : Nat} (h : m < 18446744073709551616) : Norm (digN m (digits m)) ∧ dval (digN m (digits m)) = m := digN_norm h
set_option maxHeartbeats 1000000 in
theorem Of_any (x : Int) (w : World) (h0 : -9223372036854775808 ≤ x) (h1 : x ≤ 9223372036854775807) :
    Calls Tryz.prog 39 #[.int .i64 x] w (BigEnd w x) := by
  obtain ⟨m, hm⟩ : ∃ m : Nat, (m : Int) = x.natAbs := ⟨_, rfl⟩
  have hm64 : m < 18446744073709551616 := by omega
  have HSP : Hid (∀ wx, Calls Tryz.prog 148 #[.int .u64 m] wx (Digits wx (digN m (digits m)))) := fun wx => split_any m wx hm64
  obtain ⟨hN, hV⟩ := digN_norm hm64
  have HN := Lib.hid hN
  have HV := Lib.hid hV
  clear hm64 hN hV
  by_cases hx : x < 0
  · have hmx : Hid ((m : Int) = -x) := by show _ = _; omega
    clear hm
    go_enter Tryz.func39, Tryz.ntmps39
    have hw1 : IntKind.u64.wrap (-IntKind.u64.wrap x) = (m : Int) := by
      have e : ∀ n : Int, IntKind.u64.wrap n = n % 18446744073709551616 := fun n => by simp [IntKind.wrap, IntKind.bits, IntKind.signed]
      rw [e, e, hmx.out]
      omega
    go_wp2_with fail
    refine (HSP.out _).mono ?_
    rintro e w1 ⟨A, c, rfl, hc, hR, hfr, hB⟩
    have hne : 0 < (digN m (digits m)).length → ∀ ad, A = some ad → w.heap.size < ad.block := fun hp ad e => by
      obtain ⟨g, e', h1, -⟩ := hfr hp
      rw [e'] at e
      cases e
      simp at h1
      exact h1
    have HNE := Lib.hid hne
    have HBW : Hid (Below w.heap.size w w1) := ((Below.refl _ _).alloc (Nat.le_refl _) _).trans (hB.mono (by simp))
    have HR := Lib.hid hR
    have HB := Lib.hid hB
    have HK0 : Hid (Blk w1 w.heap.size 24 #[.int .i64 0, .slice none 0 0]) := (Blk.new w _ _).below hB (by simp)
    clear hR hB hne hfr
    go_wp2_with fail
    refine (signed_any (-1) A _ c _ _ w1 HR.out HN.out (.inr (.inl rfl)) hc).mono ?_
    rintro e w2 ⟨s, A2, c2, rfl, hc2, hrep, hA2, hB2⟩
    have HK := Lib.hid (HK0.out.below hB2 HK0.out.lt)
    have hz0 := (HK.out.cell 0).trans rfl
    have hz1 := (HK.out.cell 1).trans rfl
    have hf0 := HK.out.frozen 0
    have hf1 := HK.out.frozen 1
    have hend : Hid (BigEnd w x (.returned (.agg #[.int .i64 s, .slice A2 (digN m (digits m)).length c2])) ((w2.setCell ⟨w.heap.size, 0, none⟩ (.int .i64 s)).setCell ⟨w.heap.size, 1, none⟩ (.slice A2 (digN m (digits m)).length c2))) :=
      BigEnd.stored (Nat.le_refl _) (fun hp ad e => HNE.out hp ad ((hA2 hp).symm.trans e)) (by
        refine ⟨HR.out.1, fun hp => ?_⟩
        rw [hA2 hp]
        exact (HR.out.past hB2).here.2 hp) (HBW.out.trans (hB2.mono HBW.out.size)) (by have := hrep; rw [HV.out] at this; rw [show (-1 : Int) * (m : Int) = x by have := hmx.out; omega] at this; exact this) hc2 _
    clear hrep hA2 hB2
    go_wp2_with fail
    obtain ⟨e0, e1⟩ := two_cells HK.out (.int .i64 s) (.slice A2 (digN m (digits m)).length c2)
    refine bodyPost_ret (v := .agg #[.int .i64 s, .slice A2 (digN m (digits m)).length c2]) (by simp [results, Tryz.results39, go_sem, e0, e1]) rfl ?_
    exact hend.out
  · have hmx : x = (m : Int) := by omega
    subst hmx
    clear hm
    go_enter Tryz.func39, Tryz.ntmps39
    go_wp2_with fail
    refine (HSP.out _).mono ?_
    rintro e w1 ⟨A, c, rfl, hc, hR, hfr, hB⟩
    have hne : 0 < (digN m (digits m)).length → ∀ ad, A = some ad → w.heap.size < ad.block := fun hp ad e => by
      obtain ⟨g, e', h1, -⟩ := hfr hp
      rw [e'] at e
      cases e
      simp at h1
      exact h1
    have HNE := Lib.hid hne
    have HBW : Hid (Below w.heap.size w w1) := ((Below.refl _ _).alloc (Nat.le_refl _) _).trans (hB.mono (by simp))
    have HR := Lib.hid hR
    have HB := Lib.hid hB
    have HK0 : Hid (Blk w1 w.heap.size 24 #[.int .i64 0, .slice none 0 0]) := (Blk.new w _ _).below hB (by simp)
    clear hR hB hne hfr
    go_wp2_with fail
    refine (signed_any (1) A _ c _ _ w1 HR.out HN.out (.inl rfl) hc).mono ?_
    rintro e w2 ⟨s, A2, c2, rfl, hc2, hrep, hA2, hB2⟩
    have HK := Lib.hid (HK0.out.below hB2 HK0.out.lt)
    have hz0 := (HK.out.cell 0).trans rfl
    have hz1 := (HK.out.cell 1).trans rfl
    have hf0 := HK.out.frozen 0
    have hf1 := HK.out.frozen 1
    have hend : Hid (BigEnd w (m : Int) (.returned (.agg #[.int .i64 s, .slice A2 (digN m (digits m)).length c2])) ((w2.setCell ⟨w.heap.size, 0, none⟩ (.int .i64 s)).setCell ⟨w.heap.size, 1, none⟩ (.slice A2 (digN m (digits m)).length c2))) :=
      BigEnd.stored (Nat.le_refl _) (fun hp ad e => HNE.out hp ad ((hA2 hp).symm.trans e)) (by
        refine ⟨HR.out.1, fun hp => ?_⟩
        rw [hA2 hp]
        exact (HR.out.past hB2).here.2 hp) (HBW.out.trans (hB2.mono HBW.out.size)) (by have := hrep; rw [HV.out] at this; rw [Int.one_mul] at this; exact this) hc2 _
    clear hrep hA2 hB2
    go_wp2_with fail
    obtain ⟨e0, e1⟩ := two_cells HK.out (.int .i64 s) (.slice A2 (digN m (digits m)).length c2)
    refine bodyPost_ret (v := .agg #[.int .i64 s, .slice A2 (digN m (digits m)).length c2]) (by simp [results, Tryz.results39, go_sem, e0, e1]) rfl ?_
    exact hend.out
end Go.Proofs.YtikfjmdeeknalaaGreatDoor

/- The walks of big's Right, Same, Compare and Neg. Conditions: lengths; numbers are ints. -/
namespace Go.Proofs.YtikfjmdeeknalaaGreatDoor
set_option maxRecDepth 8000
open Go.RowKit

theorem bEq_decide (a b : Int) : (a == b) = decide (a = b) := by
  by_cases h : a = b
  · subst h; simp
  · rw [decide_eq_false h]; simpa using h
/-- Is a big integer right? -/
def rightB (s : Int) (li : List Int) : Bool :=
  if li = [] then decide (s = 0) else decide (s = 1 ∨ s = -1) && decide (li.getLast? ≠ some 0) && decide (∀ d ∈ li, 0 ≤ d ∧ d < 1048576)
def Fit (li : List Int) : Prop := ∀ d ∈ li, -9223372036854775808 ≤ d ∧ d ≤ 9223372036854775807
theorem Fit.at_ {li : List Int} (h : Fit li) {i : Nat} {d : Int} (e : li[i]? = some d) : -9223372036854775808 ≤ d ∧ d ≤ 9223372036854775807 := h d (List.mem_of_getElem? e)
theorem rightB_rep {s : Int} {li : List Int} (h : rightB s li = true) : ∃ l x, li = l.map (fun d : Nat => (d : Int)) ∧ Rep s l x := by
  unfold rightB at h
  by_cases h0 : li = []
  · subst h0
    rw [if_pos rfl] at h
    have : s = 0 := by simpa using h
    subst this
    exact ⟨[], 0, rfl, Rep.zero⟩
  · rw [if_neg h0] at h
    simp only [Bool.and_eq_true, decide_eq_true_eq] at h
    obtain ⟨⟨h1, h2⟩, h3⟩ := h
    have e : li = (li.map Int.toNat).map (fun d : Nat => (d : Int)) := by
      rw [List.map_map]
      conv => lhs; rw [← List.map_id li]
      apply List.map_congr_left
      intro d hd
      have := h3 d hd
      show d = ((d.toNat : Nat) : Int)
      omega
    refine ⟨li.map Int.toNat, _, e, Rep.of ⟨fun x hx => ?_, ?_⟩ h1 (by simpa using h0)⟩
    · obtain ⟨d, hd, rfl⟩ := List.mem_map.1 hx
      have := h3 d hd
      omega
    · unfold NoZ
      rw [List.getLast?_map]
      intro e2
      cases hl : li.getLast? with
      | none => rw [hl] at e2; cases e2
      | some d =>
        rw [hl] at e2 h2
        have hd := h3 d (List.mem_of_getLast? hl)
        have := Option.some.inj e2
        apply h2
        congr 1
        omega
theorem rightB_of {s : Int} {l : List Nat} (hs : s = 1 ∨ s = -1) (hn : Norm l) (hl : l ≠ []) : rightB s (l.map fun d : Nat => (d : Int)) = true := by
  unfold rightB
  rw [if_neg (by simpa using hl), decide_eq_true hs, Bool.true_and, Bool.and_eq_true, decide_eq_true_eq, decide_eq_true_eq]
  constructor
  · rw [List.getLast?_map]
    intro e
    have h2 := hn.2
    unfold NoZ at h2
    cases hl2 : l.getLast? with
    | none => rw [hl2] at e; cases e
    | some d =>
      rw [hl2] at e h2
      have : (d : Int) = 0 := Option.some.inj e
      apply h2
      congr 1
      omega
  · intro d hd
    obtain ⟨k, hk, rfl⟩ := List.mem_map.1 hd
    have := hn.1 k hk
    omega
theorem rep_rightB {s x : Int} {l : List Nat} (h : Rep s l x) : rightB s (l.map fun d : Nat => (d : Int)) = true := by
  rcases h.cases with ⟨h1, h2, -⟩ | ⟨h1, h2, -⟩ | ⟨h1, h2, -⟩
  · exact rightB_of (.inl h1) h.norm h2
  · exact rightB_of (.inr h1) h.norm h2
  · subst h1 h2; rfl
theorem last_at {α : Type} {l : List α} {n : Nat} {d : α} (hl : l.length = n) (hd : l[n - 1]? = some d) : l.getLast? = some d := by rw [List.getLast?_eq_getElem?, hl]; exact hd

set_option maxHeartbeats 2000000 in
theorem Right_any (s : Int) (A : Option Addr) (n c B : Nat) (li : List Int) (w : World) (h : Reads w B 1 A n (iv li)) (hf : Fit li) (hn : n ≤ 1073741824) :
    Calls Tryz.prog 30 #[.agg #[.int .i64 s, .slice A n c]] w fun e w' => e = .returned (.bool (rightB s li)) ∧ Below w.heap.size w w' := by
  have HR := Lib.hid (h.here.past ((Below.refl _ _).alloc (Nat.le_refl _) (.cells #[.int .i64 s, .slice A n c] 24)))
  have HL := Lib.hid h.lenI
  have HF := Lib.hid hf
  have HB : Hid (Below w.heap.size w (w.alloc (.cells #[.int .i64 s, .slice A n c] 24))) := (Below.refl _ _).alloc (Nat.le_refl _) _
  clear h hf
  by_cases h0 : n = 0
  · subst h0
    have hl : li = [] := List.eq_nil_of_length_eq_zero HL.out
    have hr : rightB s li = decide (s = 0) := by rw [hl]; rfl
    rw [hr]
    clear hl hr HR
    go_enter Tryz.func30, Tryz.ntmps30
    go_wp2_with fail
    go_ret
    exact ⟨by simp [bEq_decide], HB.out⟩
  · obtain ⟨ad, d, rfl, hd, g1⟩ := HR.out.atI (i := n - 1) (by omega)
    have hn0 : ((n : Int) == 0) = false := by simp; omega
    have hi0 : (0 : Int) ≤ (n : Int) - 1 := by omega
    have hi1 : (n : Int) - 1 < (n : Int) := by omega
    have ht : ((n : Int) - 1).toNat = n - 1 := by omega
    have hne : li ≠ [] := by intro e; have := HL.out; rw [e] at this; simp at this; omega
    have hlast := last_at HL.out hd
    by_cases hs : s = 1 ∨ s = -1
    · by_cases hd0 : d = 0
      · subst hd0
        have hr : rightB s li = false := by
          unfold rightB
          rw [if_neg hne, decide_eq_true hs, hlast]
          simp
        rw [hr]
        clear hr hd hlast hne
        rcases hs with rfl | rfl
        all_goals
          go_enter Tryz.func30, Tryz.ntmps30
          go_wp2_with fail
          go_ret
          exact ⟨rfl, HB.out⟩
      · have hd0' : ¬ d = 0 := hd0
        have hr : rightB s li = decide (∀ d ∈ li, 0 ≤ d ∧ d < 1048576) := by
          unfold rightB
          rw [if_neg hne, decide_eq_true hs, hlast, decide_eq_true (show some d ≠ some 0 by simpa using hd0)]
          simp
        rw [hr]
        clear hr hd hlast hne hd0
        rcases hs with rfl | rfl
        all_goals
          go_enter Tryz.func30, Tryz.ntmps30
          go_wp2_with fail
          go_loop [4, 35] (fun q i => ∃ (k : Nat) (Q : Int), k ≤ n ∧ i = .int .i64 k ∧ q = .int .i64 Q ∧ Hid (low20 (BitVec.ofInt 64 Q) ↔ ∀ d ∈ li.take k, 0 ≤ d ∧ d < 1048576)) (fun _ i => n - (RowKit.intOf i).toNat)
          case atStart => exact ⟨0, 0, Nat.zero_le _, rfl, rfl, (by show _ ↔ _; rw [low20_iff (by decide) (by decide)]; simp)⟩
          case round =>
            obtain ⟨k, Q, hk, rfl, rfl, HQ⟩ := hrel
            by_cases hlt : k < n
            · have hkc : (k : Int) < (n : Int) := by omega
              obtain ⟨ad', u, e, hu, g2⟩ := HR.out.atI hlt
              cases e
              have HU := Lib.hid hu
              clear hu g1 hi0 hi1 ht
              go_wp2_with fail
              go_round
              case rel => exact ⟨k + 1, _, by omega, by go_num, rfl, by
                show _ ↔ _
                have hfu := HF.out.at_ HU.out
                rw [or_low, HQ.out, low20_iff hfu.1 hfu.2, List.take_add_one, HU.out]
                simp only [List.mem_append, Option.toList, List.mem_singleton]
                constructor
                · rintro ⟨h1, h2⟩ z (hz | rfl)
                  · exact h1 z hz
                  · exact h2
                · intro h
                  exact ⟨fun z hz => h z (.inl hz), h u (.inr rfl)⟩⟩
              case measure => simp [RowKit.intOf]; omega
            · obtain rfl : k = n := by omega
              clear g1 hi0 hi1 ht
              have hfin : (bits .andNot .i64 Q 1048575 == 0) = decide (∀ d ∈ li, 0 ≤ d ∧ d < 1048576) := by
                have h1 := HQ.out
                rw [List.take_of_length_le (by rw [HL.out]; exact Nat.le_refl _), ← not_low] at h1
                by_cases h2 : bits .andNot .i64 Q 1048575 = 0
                · rw [decide_eq_true (h1.1 h2), h2]; rfl
                · rw [decide_eq_false (fun h3 => h2 (h1.2 h3))]; simpa using h2
              have HFI := Lib.hid hfin
              clear hfin
              go_wp2_with fail
              go_ret
              exact ⟨by show Ending.returned (.bool (bits .andNot .i64 Q 1048575 == 0)) = _; rw [HFI.out], HB.out⟩
    · have hs1 : ¬ s = 1 := fun h => hs (.inl h)
      have hs2 : ¬ s = -1 := fun h => hs (.inr h)
      have hr : rightB s li = false := by
        unfold rightB
        rw [if_neg hne, decide_eq_false hs]
        rfl
      rw [hr]
      clear hr hs hd hlast hne
      go_enter Tryz.func30, Tryz.ntmps30
      go_wp2_with fail
      go_ret
      exact ⟨rfl, HB.out⟩
end Go.Proofs.YtikfjmdeeknalaaGreatDoor

/- The walks of big's Add, Sub, Mul at right big integers. Conditions: lengths. -/
namespace Go.Proofs.YtikfjmdeeknalaaGreatDoor
set_option maxRecDepth 8000
open Go.RowKit

/-- How a function ends that returns a right big integer, and OK. -/
def BigOk (w : World) (x : Int) (e : Ending) (w' : World) : Prop :=
  ∃ s l A c, e = .returned (.tuple #[.agg #[.int .i64 s, .slice A l.length c], .int .i64 0]) ∧ l.length ≤ c ∧ Rep s l x ∧ Reads w' w'.heap.size 1 A l.length (dv l) ∧ (0 < l.length → ∀ ad, A = some ad → w.heap.size ≤ ad.block) ∧ Below w.heap.size w w'
theorem BigEnd.ok {w w' : World} {v : Value} {x : Int} (h : BigEnd w x (.returned v) w') : BigOk w x (.returned (.tuple #[v, .int .i64 0])) w' := by
  obtain ⟨s, l, A, c, h1, h2⟩ := h
  cases h1
  exact ⟨s, l, A, c, rfl, h2⟩
theorem dv_read {w : World} {B n : Nat} {A : Option Addr} {l : List Nat} (h : Reads w B 1 A n (dv l)) : Reads w B 1 A n (iv (l.map fun d : Nat => (d : Int))) := by rw [← dv_iv]; exact h
theorem Norm.fit {l : List Nat} (h : Norm l) : Fit (l.map fun d : Nat => (d : Int)) := fun d hd => by
  obtain ⟨k, hk, rfl⟩ := List.mem_map.1 hd
  have := h.1 k hk
  omega
/-- Right at a right big integer. -/
theorem right_rep {s x : Int} {l : List Nat} (hr : Rep s l x) (A : Option Addr) (n c B : Nat) (w : World) (h : Reads w B 1 A n (dv l)) (hn : n ≤ 1073741824) :
    Calls Tryz.prog 30 #[.agg #[.int .i64 s, .slice A n c]] w fun e w' => e = .returned (.bool true) ∧ Below w.heap.size w w' := by
  have := Right_any s A n c B _ w (dv_read h) hr.norm.fit hn
  rw [rep_rightB hr] at this
  exact this
/-- The boxes of two arguments and a result. -/
structure Three (w w' : World) (s1 : Int) (A1 : Option Addr) (n1 c1 : Nat) (s2 : Int) (A2 : Option Addr) (n2 c2 : Nat) : Prop where
  k1 : Blk w' w.heap.size 24 #[.int .i64 s1, .slice A1 n1 c1]
  k2 : Blk w' (w.heap.size + 1) 24 #[.int .i64 s2, .slice A2 n2 c2]
  k3 : Blk w' (w.heap.size + 1 + 1) 24 #[.int .i64 0, .slice none 0 0]
  bl : Below w.heap.size w w'
theorem Three.new (w : World) (s1 : Int) (A1 : Option Addr) (n1 c1 : Nat) (s2 : Int) (A2 : Option Addr) (n2 c2 : Nat) :
    Three w (((w.alloc (.cells #[.int .i64 s1, .slice A1 n1 c1] 24)).alloc (.cells #[.int .i64 s2, .slice A2 n2 c2] 24)).alloc (.cells #[.int .i64 0, .slice none 0 0] 24)) s1 A1 n1 c1 s2 A2 n2 c2 := by
  refine ⟨((Blk.new w _ _).alloc _).alloc _, ?_, ?_, (((Below.refl _ _).alloc (Nat.le_refl _) _).alloc (by simp) _).alloc (by simp; omega) _⟩
  · have := (Blk.new (w.alloc (.cells #[.int .i64 s1, .slice A1 n1 c1] 24)) 24 #[.int .i64 s2, .slice A2 n2 c2]).alloc (.cells #[.int .i64 0, .slice none 0 0] 24)
    simpa using this
  · have := Blk.new ((w.alloc (.cells #[.int .i64 s1, .slice A1 n1 c1] 24)).alloc (.cells #[.int .i64 s2, .slice A2 n2 c2] 24)) 24 #[.int .i64 0, .slice none 0 0]
    simpa using this
section
variable {w w' w2 : World} {s1 : Int} {A1 : Option Addr} {n1 c1 : Nat} {s2 : Int} {A2 : Option Addr} {n2 c2 : Nat}
theorem Three.past (h : Three w w' s1 A1 n1 c1 s2 A2 n2 c2) (hb : Below w'.heap.size w' w2) : Three w w2 s1 A1 n1 c1 s2 A2 n2 c2 :=
  ⟨h.k1.below hb h.k1.lt, h.k2.below hb h.k2.lt, h.k3.below hb h.k3.lt, h.bl.trans (hb.mono h.bl.size)⟩
theorem Three.drewN (h : Three w w' s1 A1 n1 c1 s2 A2 n2 c2) (n : Nat) : Three w (w'.drewN n) s1 A1 n1 c1 s2 A2 n2 c2 := h.past (below_drewN (Below.refl _ _) n)
theorem Three.drew (h : Three w w' s1 A1 n1 c1 s2 A2 n2 c2) : Three w w'.drew s1 A1 n1 c1 s2 A2 n2 c2 := h.past (Below.refl _ _).drew
/-- What the walk reads. -/
def ThreeC (w w' : World) (s1 : Int) (A1 : Option Addr) (n1 c1 : Nat) (s2 : Int) (A2 : Option Addr) (n2 c2 : Nat) : Prop :=
  w'.cell? ⟨w.heap.size, 0, none⟩ = some (.int .i64 s1) ∧ w'.cell? ⟨w.heap.size, 1, none⟩ = some (.slice A1 n1 c1) ∧ w'.cell? ⟨w.heap.size + 1, 0, none⟩ = some (.int .i64 s2) ∧ w'.cell? ⟨w.heap.size + 1, 1, none⟩ = some (.slice A2 n2 c2) ∧
    w'.cell? ⟨w.heap.size + 1 + 1, 0, none⟩ = some (.int .i64 0) ∧ w'.cell? ⟨w.heap.size + 1 + 1, 1, none⟩ = some (.slice none 0 0) ∧ w'.frozen? ⟨w.heap.size + 1 + 1, 0, none⟩ = false ∧ w'.frozen? ⟨w.heap.size + 1 + 1, 1, none⟩ = false
theorem Three.cells (h : Three w w' s1 A1 n1 c1 s2 A2 n2 c2) : ThreeC w w' s1 A1 n1 c1 s2 A2 n2 c2 :=
  ⟨(h.k1.cell 0).trans rfl, (h.k1.cell 1).trans rfl, (h.k2.cell 0).trans rfl, (h.k2.cell 1).trans rfl, (h.k3.cell 0).trans rfl, (h.k3.cell 1).trans rfl, h.k3.frozen 0, h.k3.frozen 1⟩
/-- The boxes of the arguments stand when the result is stored. -/
theorem Three.held (h : Three w w' s1 A1 n1 c1 s2 A2 n2 c2) (u v : Value) :
    ((w'.setCell ⟨w.heap.size + 1 + 1, 0, none⟩ u).setCell ⟨w.heap.size + 1 + 1, 1, none⟩ v).cell? ⟨w.heap.size, 0, none⟩ = some (.int .i64 s1) ∧ ((w'.setCell ⟨w.heap.size + 1 + 1, 0, none⟩ u).setCell ⟨w.heap.size + 1 + 1, 1, none⟩ v).cell? ⟨w.heap.size, 1, none⟩ = some (.slice A1 n1 c1) ∧
      ((w'.setCell ⟨w.heap.size + 1 + 1, 0, none⟩ u).setCell ⟨w.heap.size + 1 + 1, 1, none⟩ v).cell? ⟨w.heap.size + 1, 0, none⟩ = some (.int .i64 s2) ∧ ((w'.setCell ⟨w.heap.size + 1 + 1, 0, none⟩ u).setCell ⟨w.heap.size + 1 + 1, 1, none⟩ v).cell? ⟨w.heap.size + 1, 1, none⟩ = some (.slice A2 n2 c2) := by
  have q1 := (h.k1.far (p := ⟨w.heap.size + 1 + 1, 0, none⟩) (by show _ ≠ w.heap.size + 1 + 1; omega) u).far (p := ⟨w.heap.size + 1 + 1, 1, none⟩) (by show _ ≠ w.heap.size + 1 + 1; omega) v
  have q2 := (h.k2.far (p := ⟨w.heap.size + 1 + 1, 0, none⟩) (by show _ ≠ w.heap.size + 1 + 1; omega) u).far (p := ⟨w.heap.size + 1 + 1, 1, none⟩) (by show _ ≠ w.heap.size + 1 + 1; omega) v
  exact ⟨(q1.cell 0).trans rfl, (q1.cell 1).trans rfl, (q2.cell 0).trans rfl, (q2.cell 1).trans rfl⟩
/-- A result that is stored in its box. -/
theorem Three.stored (h : Three w w' s1 A1 n1 c1 s2 A2 n2 c2) {x s : Int} {l : List Nat} {A : Option Addr} {c : Nat} (hne : 0 < l.length → ∀ ad, A = some ad → w.heap.size + 1 + 1 < ad.block) (hR : Reads w' w'.heap.size 1 A l.length (dv l)) (hrep : Rep s l x) (hc : l.length ≤ c) :
    BigEnd w x (.returned (.agg #[.int .i64 s, .slice A l.length c])) ((w'.setCell ⟨w.heap.size + 1 + 1, 0, none⟩ (.int .i64 s)).setCell ⟨w.heap.size + 1 + 1, 1, none⟩ (.slice A l.length c)) :=
  BigEnd.stored (by omega) hne hR h.bl hrep hc _
theorem Three.lt (h : Three w w' s1 A1 n1 c1 s2 A2 n2 c2) : w.heap.size + 1 + 1 < w'.heap.size := h.k3.lt
end

theorem sign_mul {s1 s2 x y : Int} {l1 l2 l : List Nat} (r1 : Rep s1 l1 x) (r2 : Rep s2 l2 y) (hN : Norm l) (hV : dval l = dval l1 * dval l2) : s1 * s2 = 1 ∨ s1 * s2 = -1 ∨ l = [] := by
  rcases r1.sign with ⟨e, -⟩ | ⟨e, -⟩ | ⟨e, h⟩
  · rcases r2.sign with ⟨f, -⟩ | ⟨f, -⟩ | ⟨f, h⟩
    · rw [e, f]; exact .inl rfl
    · rw [e, f]; exact .inr (.inl rfl)
    · exact .inr (.inr ((dval_zero hN).1 (by rw [hV, h]; simp [dval])))
  · rcases r2.sign with ⟨f, -⟩ | ⟨f, -⟩ | ⟨f, h⟩
    · rw [e, f]; exact .inr (.inl rfl)
    · rw [e, f]; exact .inl rfl
    · exact .inr (.inr ((dval_zero hN).1 (by rw [hV, h]; simp [dval])))
  · exact .inr (.inr ((dval_zero hN).1 (by rw [hV, h]; simp [dval])))
theorem rep_mul {s1 s2 x y : Int} {l1 l2 l : List Nat} (r1 : Rep s1 l1 x) (r2 : Rep s2 l2 y) (hV : dval l = dval l1 * dval l2) : s1 * s2 * (dval l : Int) = x * y := by
  rw [r1.eq, r2.eq, hV, Int.natCast_mul]
  grind
set_option maxHeartbeats 4000000 in
theorem Mul_any (s1 s2 : Int) (A1 A2 : Option Addr) (n1 n2 c1 c2 B1 B2 : Nat) (l1 l2 : List Nat) (x y : Int) (w : World) (h1 : Reads w B1 1 A1 n1 (dv l1)) (h2 : Reads w B2 1 A2 n2 (dv l2)) (r1 : Rep s1 l1 x) (r2 : Rep s2 l2 y) (hn1 : n1 ≤ 1048576) (hn2 : n2 ≤ 1048576) :
    Calls Tryz.prog 19 #[.agg #[.int .i64 s1, .slice A1 n1 c1], .agg #[.int .i64 s2, .slice A2 n2 c2]] w (BigOk w (x * y)) := by
  have H1 := Lib.hid h1
  have H2 := Lib.hid h2
  have R1 := Lib.hid r1
  have R2 := Lib.hid r2
  have K := Lib.hid (Three.new w s1 A1 n1 c1 s2 A2 n2 c2)
  clear h1 h2 r1 r2
  go_enter Tryz.func19, Tryz.ntmps19
  go_wp2_with fail
  refine (right_rep R1.out A1 n1 c1 _ _ (H1.out.past (K.out.bl)) (by omega)).mono ?_
  rintro e w4 ⟨rfl, b4⟩
  have K4 := Lib.hid (K.out.past b4)
  obtain ⟨y0, y1, y2, y3, y4, y5, y6, y7⟩ := K4.out.cells
  clear b4 K
  go_wp2_with fail
  refine (right_rep R2.out A2 n2 c2 _ _ (H2.out.past (K4.out.bl)) (by omega)).mono ?_
  rintro e w5 ⟨rfl, b5⟩
  have K5 := Lib.hid (K4.out.past b5)
  clear y0 y1 y2 y3 y4 y5 y6 y7
  obtain ⟨y0, y1, y2, y3, y4, y5, y6, y7⟩ := K5.out.cells
  clear b5 K4
  have HR1 := Lib.hid (H1.out.past (K5.out.bl))
  have HR2 := Lib.hid (H2.out.past (K5.out.bl))
  have hp0 : -1 ≤ s1 * s2 := by rcases R1.out.sign with ⟨e, -⟩ | ⟨e, -⟩ | ⟨e, -⟩ <;> rcases R2.out.sign with ⟨f, -⟩ | ⟨f, -⟩ | ⟨f, -⟩ <;> (rw [e, f]; decide)
  have hp1 : s1 * s2 ≤ 1 := by rcases R1.out.sign with ⟨e, -⟩ | ⟨e, -⟩ | ⟨e, -⟩ <;> rcases R2.out.sign with ⟨f, -⟩ | ⟨f, -⟩ | ⟨f, -⟩ <;> (rw [e, f]; decide)
  have hwr : IntKind.i64.wrap (s1 * s2) = s1 * s2 := IntWalk.i64_in _ (by omega)
  clear H1 H2
  go_wp2_with fail
  go_region_held3 (fun w' => w'.cell? ⟨w.heap.size, 0, none⟩ = some (.int .i64 s1) ∧ w'.cell? ⟨w.heap.size, 1, none⟩ = some (.slice A1 n1 c1) ∧ w'.cell? ⟨w.heap.size + 1, 0, none⟩ = some (.int .i64 s2) ∧ w'.cell? ⟨w.heap.size + 1, 1, none⟩ = some (.slice A2 n2 c2))
    (first | exact ⟨y0, y1, y2, y3⟩ | exact ⟨x0, x1, x2, x3⟩ | exact ⟨z0, z1, z2, z3⟩ | exact K7.out.held _ _)
    (first | (go_at_call 126; refine (mul_any A1 A2 n1 n2 c1 c2 _ _ l1 l2 _ (by exact HR1.out) (by exact HR2.out) R1.out.norm.1 R2.out.norm.1 hn1 hn2).mono ?_; rintro e w6 ⟨l, hN, hV, A, c, rfl, hc, hR, hF, hB⟩; have K6 := Lib.hid (K5.out.drew.past hB); obtain ⟨x0, x1, x2, x3, -, -, -, -⟩ := K6.out.cells; have HN := Lib.hid hN; have HV := Lib.hid hV; have HC := Lib.hid hc; have HR := Lib.hid hR; have HF := Lib.hid hF; clear hN hV hc hR hF hB) | (go_at_call 125; refine (signed_any (s1 * s2) A _ c _ l _ (by exact HR.out) HN.out (sign_mul R1.out R2.out HN.out HV.out) HC.out).mono ?_; rintro e w7 ⟨s', A', c', rfl, hc', hrep, hA, hB⟩; have K7 := Lib.hid (K6.out.past hB); obtain ⟨z0, z1, z2, z3, z4, z5, z6, z7⟩ := K7.out.cells; have HC7 := Lib.hid hc'; have HREP := Lib.hid hrep; have HA := Lib.hid hA; have HB7 := Lib.hid hB; clear hc' hrep hA hB))
  all_goals
    have hne : Hid (0 < l.length → ∀ ad, A' = some ad → w.heap.size + 1 + 1 < ad.block) := fun hp ad e => by
      obtain ⟨g, e2, hg, -⟩ := HF.out hp
      rw [HA.out hp, e2] at e
      cases e
      exact Nat.lt_of_lt_of_le K5.out.lt hg
    have hrd : Hid (Reads w7 w7.heap.size 1 A' l.length (dv l)) := ⟨HR.out.1, fun hp => by rw [HA.out hp]; exact ((HR.out.past HB7.out).here).2 hp⟩
    have hx := rep_mul R1.out R2.out HV.out
    have HE := Lib.hid (K7.out.stored hne.out hrd.out (hx ▸ HREP.out) HC7.out).ok
    obtain ⟨e0, e1⟩ := two_cells K7.out.k3 (.int .i64 s') (.slice A' l.length c')
    clear hx hne hrd
    go_wp2_with fail
    refine bodyPost_ret (v := .tuple #[.agg #[.int .i64 s', .slice A' l.length c'], .int .i64 0]) (by simp [results, Tryz.results19, go_sem, e0, e1]) rfl ?_
    exact HE.out
end Go.Proofs.YtikfjmdeeknalaaGreatDoor
