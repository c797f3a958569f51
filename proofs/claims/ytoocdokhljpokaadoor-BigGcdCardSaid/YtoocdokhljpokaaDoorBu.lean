/- The walks of big's functions on big integers: signed, Of, Right, Same, Neg. Conditions: lengths. -/
import Derived.Test.YtoocdokhljpokaaDoorBt
namespace Go.Proofs.YtoocdokhljpokaaDoor
set_option maxRecDepth 8000
open Go.RowKit

/-- How a function ends that returns a right big integer. -/
def BigEnd (w : World) (x : Int) (e : Ending) (w' : World) : Prop :=
  ∃ s l A c, e = .returned (.agg #[.int .i64 s, .slice A l.length c]) ∧ l.length ≤ c ∧ Rep s l x ∧ Reads w' w'.heap.size 1 A l.length (dv l) ∧ (0 < l.length → ∀ ad, A = some ad → w.heap.size ≤ ad.block) ∧ Below w.heap.size w w'
theorem BigEnd.from_ {w w1 w' : World} {x : Int} {e : Ending} (h : BigEnd w1 x e w') (hb : Below w.heap.size w w1) : BigEnd w x e w' := by
  obtain ⟨s, l, A, c, h1, h2, h3, h4, h5, h6⟩ := h
  exact ⟨s, l, A, c, h1, h2, h3, h4, fun hp ad e => Nat.le_trans hb.size (h5 hp ad e), hb.trans (h6.mono hb.size)⟩
/-- What a result's two cells hold once both are stored. -/
theorem two_cells {w : World} {g : Nat} {t : TypeId} {u0 u1 : Value} (h : Blk w g t #[u0, u1]) (v0 v1 : Value) :
    ((w.setCell ⟨g, 0, none⟩ v0).setCell ⟨g, 1, none⟩ v1).cell? ⟨g, 0, none⟩ = some v0 ∧ ((w.setCell ⟨g, 0, none⟩ v0).setCell ⟨g, 1, none⟩ v1).cell? ⟨g, 1, none⟩ = some v1 := by
  have e : ((#[u0, u1].setIfInBounds 0 v0).setIfInBounds 1 v1) = #[v0, v1] := by simp
  have hk : Blk ((w.setCell ⟨g, 0, none⟩ v0).setCell ⟨g, 1, none⟩ v1) g t #[v0, v1] := by rw [← e]; exact (h.set_ 0 v0).set_ 1 v1
  generalize (w.setCell ⟨g, 0, none⟩ v0).setCell ⟨g, 1, none⟩ v1 = w' at *
  constructor
  · have := hk.cell 0; simpa using this
  · have := hk.cell 1; simpa using this
theorem BigEnd.stored {w w2 : World} {g : Nat} {s x : Int} {l : List Nat} {A : Option Addr} {c : Nat} {v0 : Value} (hg : w.heap.size ≤ g) (hne : 0 < l.length → ∀ ad, A = some ad → g < ad.block) (hR : Reads w2 w2.heap.size 1 A l.length (dv l)) (hb : Below w.heap.size w w2) (hrep : Rep s l x) (hc : l.length ≤ c) (v1 : Value) :
    BigEnd w x (.returned (.agg #[.int .i64 s, .slice A l.length c])) ((w2.setCell ⟨g, 0, none⟩ v0).setCell ⟨g, 1, none⟩ v1) := by
  have hgr : w2.grownBy ((w2.setCell ⟨g, 0, none⟩ v0).setCell ⟨g, 1, none⟩ v1) (some g) := by
    have h1 : w2.grownBy (w2.setCell ⟨g, 0, none⟩ v0) (some g) := only_setCell (p := ⟨g, 0, none⟩) (grown_refl w2 (some g)) (Or.inl rfl) v0
    exact only_setCell (p := ⟨g, 1, none⟩) h1 (Or.inl rfl) v1
  refine ⟨s, l, A, c, rfl, hc, hrep, (hR.apart hgr (fun hp ad e => ?_)).here, fun hp ad e => ?_, (hb.setCell (p := ⟨g, 0, none⟩) hg _).setCell (p := ⟨g, 1, none⟩) hg _⟩
  · have := hne hp ad e; omega
  · have := hne hp ad e; omega
theorem Rep.signed {s : Int} {l : List Nat} (h : Norm l) (hs : s = 1 ∨ s = -1 ∨ l = []) (hl : l ≠ []) : Rep s l (s * dval l) := by
  rcases hs with h1 | h1 | h1
  · exact Rep.of h (.inl h1) hl
  · exact Rep.of h (.inr h1) hl
  · exact absurd h1 hl
theorem Rep.len {s x : Int} {l : List Nat} {k : Nat} (h : Rep s l x) (hx : x.natAbs < 1048576 ^ k) : l.length ≤ k := by
  rcases Nat.lt_or_ge k l.length with hlt | hge
  · have hl : l ≠ [] := by intro e; subst e; simp at hlt
    have h1 := norm_pos h.norm hl
    have h2 : 1048576 ^ k ≤ 1048576 ^ (l.length - 1) := Nat.pow_le_pow_right (by decide) (by omega)
    rcases h.cases with ⟨-, -, a3, a4⟩ | ⟨-, -, a3, a4⟩ | ⟨-, a2, -⟩
    · omega
    · omega
    · exact absurd a2 hl
  · exact hge

set_option maxHeartbeats 1000000 in
theorem signed_any (s : Int) (A : Option Addr) (n c B : Nat) (l : List Nat) (w : World) (h : Reads w B 1 A n (dv l)) (hl : Norm l) (hs : s = 1 ∨ s = -1 ∨ l = []) (hc : n ≤ c) :
    Calls Tryd.prog 18 #[.int .i64 s, .slice A n c] w fun e w' => ∃ s' A' c', e = .returned (.agg #[.int .i64 s', .slice A' n c']) ∧ n ≤ c' ∧ Rep s' l (s * dval l) ∧ (0 < n → A' = A) ∧ Below w.heap.size w w' := by
  have HL := Lib.hid h.lenD
  have HN := Lib.hid hl
  have HS := Lib.hid hs
  clear h hl hs
  by_cases h0 : n = 0
  · subst h0
    have hl : l = [] := List.eq_nil_of_length_eq_zero HL.out
    have HZ := Lib.hid hl
    clear hl
    go_enter Tryd.func18, Tryd.ntmps18
    go_wp2_with fail
    refine bodyPost_ret (v := .agg #[.int .i64 0, .slice none 0 0]) (by simp [results, Tryd.results18, go_sem]) rfl ?_
    rw [HZ.out]
    exact ⟨0, none, 0, rfl, Nat.le_refl _, by simpa [dval] using Rep.zero, fun h => absurd h (by omega), (Below.refl _ _).alloc (Nat.le_refl _) _⟩
  · have hn0 : ¬ (n : Int) = 0 := by omega
    go_enter Tryd.func18, Tryd.ntmps18
    go_wp2_with fail
    refine bodyPost_ret (v := .agg #[.int .i64 s, .slice A n c]) (by simp [results, Tryd.results18, go_sem]) rfl ?_
    have hl : l ≠ [] := by intro e; have := HL.out; rw [e] at this; simp at this; omega
    exact ⟨s, A, c, rfl, hc, Rep.signed HN.out HS.out hl, fun _ => rfl, (Below.refl _ _).alloc (Nat.le_refl _) _⟩

theorem digN_rep {m : Nat} (h : m < 18446744073709551616) : Norm (digN m (digits m)) ∧ dval (digN m (digits m)) = m := digN_norm h
set_option maxHeartbeats 1000000 in
theorem Of_any (x : Int) (w : World) (h0 : -9223372036854775808 ≤ x) (h1 : x ≤ 9223372036854775807) :
    Calls Tryd.prog 12 #[.int .i64 x] w (BigEnd w x) := by
  obtain ⟨m, hm⟩ : ∃ m : Nat, (m : Int) = x.natAbs := ⟨_, rfl⟩
  have hm64 : m < 18446744073709551616 := by omega
  have HSP : Hid (∀ wx, Calls Tryd.prog 26 #[.int .u64 m] wx (Digits wx (digN m (digits m)))) := fun wx => split_any m wx hm64
  obtain ⟨hN, hV⟩ := digN_norm hm64
  have HN := Lib.hid hN
  have HV := Lib.hid hV
  clear hm64 hN hV
  by_cases hx : x < 0
  · have hmx : Hid ((m : Int) = -x) := by show _ = _; omega
    clear hm
    go_enter Tryd.func12, Tryd.ntmps12
    have hw1 : IntKind.u64.wrap (-IntKind.u64.wrap x) = (m : Int) := by
      have e : ∀ n : Int, IntKind.u64.wrap n = n % 18446744073709551616 := fun n => by simp [IntKind.wrap, IntKind.bits, IntKind.signed]
      rw [e, e, hmx.out]
      omega
    go_wp2_with fail
    refine (HSP.out _).mono ?_
    rintro e w1 ⟨A, c, rfl, hc, hR, hfr, hB⟩
    have hne : 0 < (digN m (digits m)).length → ∀ ad, A = some ad → w.heap.size < ad.block := fun hp ad e => by
      obtain ⟨g, e', h1, -⟩ := hfr hp
      rw [e'] at e
      cases e
      simp at h1
      exact h1
    have HNE := Lib.hid hne
    have HBW : Hid (Below w.heap.size w w1) := ((Below.refl _ _).alloc (Nat.le_refl _) _).trans (hB.mono (by simp))
    have HR := Lib.hid hR
    have HB := Lib.hid hB
    have HK0 : Hid (Blk w1 w.heap.size 24 #[.int .i64 0, .slice none 0 0]) := (Blk.new w _ _).below hB (by simp)
    clear hR hB hne hfr
    go_wp2_with fail
    refine (signed_any (-1) A _ c _ _ w1 HR.out HN.out (.inr (.inl rfl)) hc).mono ?_
    rintro e w2 ⟨s, A2, c2, rfl, hc2, hrep, hA2, hB2⟩
    have HK := Lib.hid (HK0.out.below hB2 HK0.out.lt)
    have hz0 := (HK.out.cell 0).trans rfl
    have hz1 := (HK.out.cell 1).trans rfl
    have hf0 := HK.out.frozen 0
    have hf1 := HK.out.frozen 1
    have hend : Hid (BigEnd w x (.returned (.agg #[.int .i64 s, .slice A2 (digN m (digits m)).length c2])) ((w2.setCell ⟨w.heap.size, 0, none⟩ (.int .i64 s)).setCell ⟨w.heap.size, 1, none⟩ (.slice A2 (digN m (digits m)).length c2))) :=
      BigEnd.stored (Nat.le_refl _) (fun hp ad e => HNE.out hp ad ((hA2 hp).symm.trans e)) (by
        refine ⟨HR.out.1, fun hp => ?_⟩
        rw [hA2 hp]
        exact (HR.out.past hB2).here.2 hp) (HBW.out.trans (hB2.mono HBW.out.size)) (by have := hrep; rw [HV.out] at this; rw [show (-1 : Int) * (m : Int) = x by have := hmx.out; omega] at this; exact this) hc2 _
    clear hrep hA2 hB2
    go_wp2_with fail
    obtain ⟨e0, e1⟩ := two_cells HK.out (.int .i64 s) (.slice A2 (digN m (digits m)).length c2)
    refine bodyPost_ret (v := .agg #[.int .i64 s, .slice A2 (digN m (digits m)).length c2]) (by simp [results, Tryd.results12, go_sem, e0, e1]) rfl ?_
    exact hend.out
  · have hmx : x = (m : Int) := by omega
    subst hmx
    clear hm
    go_enter Tryd.func12, Tryd.ntmps12
    go_wp2_with fail
    refine (HSP.out _).mono ?_
    rintro e w1 ⟨A, c, rfl, hc, hR, hfr, hB⟩
    have hne : 0 < (digN m (digits m)).length → ∀ ad, A = some ad → w.heap.size < ad.block := fun hp ad e => by
      obtain ⟨g, e', h1, -⟩ := hfr hp
      rw [e'] at e
      cases e
      simp at h1
      exact h1
    have HNE := Lib.hid hne
    have HBW : Hid (Below w.heap.size w w1) := ((Below.refl _ _).alloc (Nat.le_refl _) _).trans (hB.mono (by simp))
    have HR := Lib.hid hR
    have HB := Lib.hid hB
    have HK0 : Hid (Blk w1 w.heap.size 24 #[.int .i64 0, .slice none 0 0]) := (Blk.new w _ _).below hB (by simp)
    clear hR hB hne hfr
    go_wp2_with fail
    refine (signed_any (1) A _ c _ _ w1 HR.out HN.out (.inl rfl) hc).mono ?_
    rintro e w2 ⟨s, A2, c2, rfl, hc2, hrep, hA2, hB2⟩
    have HK := Lib.hid (HK0.out.below hB2 HK0.out.lt)
    have hz0 := (HK.out.cell 0).trans rfl
    have hz1 := (HK.out.cell 1).trans rfl
    have hf0 := HK.out.frozen 0
    have hf1 := HK.out.frozen 1
    have hend : Hid (BigEnd w (m : Int) (.returned (.agg #[.int .i64 s, .slice A2 (digN m (digits m)).length c2])) ((w2.setCell ⟨w.heap.size, 0, none⟩ (.int .i64 s)).setCell ⟨w.heap.size, 1, none⟩ (.slice A2 (digN m (digits m)).length c2))) :=
      BigEnd.stored (Nat.le_refl _) (fun hp ad e => HNE.out hp ad ((hA2 hp).symm.trans e)) (by
        refine ⟨HR.out.1, fun hp => ?_⟩
        rw [hA2 hp]
        exact (HR.out.past hB2).here.2 hp) (HBW.out.trans (hB2.mono HBW.out.size)) (by have := hrep; rw [HV.out] at this; rw [Int.one_mul] at this; exact this) hc2 _
    clear hrep hA2 hB2
    go_wp2_with fail
    obtain ⟨e0, e1⟩ := two_cells HK.out (.int .i64 s) (.slice A2 (digN m (digits m)).length c2)
    refine bodyPost_ret (v := .agg #[.int .i64 s, .slice A2 (digN m (digits m)).length c2]) (by simp [results, Tryd.results12, go_sem, e0, e1]) rfl ?_
    exact hend.out
end Go.Proofs.YtoocdokhljpokaaDoor
