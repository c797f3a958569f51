/- The walk of big's Div at right big integers, over what divide does. Conditions: lengths. -/
import Derived.Test.YtikfjmdeeknalaaGreatDoorC5
namespace Go.Proofs.YtikfjmdeeknalaaGreatDoor
set_option maxRecDepth 8000
open Go.RowKit

/-- A quotient that is rounded down, and its remainder. -/
def FloorP (x y q r : Int) : Prop := q * y + r = x ∧ (0 < y → 0 ≤ r ∧ r < y) ∧ (y < 0 → y < r ∧ r ≤ 0)
/-- How Div ends. -/
def DivOk (w : World) (x y : Int) (e : Ending) (w' : World) : Prop :=
  ∃ q r s l A c s' l' A' c', e = .returned (.tuple #[.agg #[.int .i64 s, .slice A l.length c], .agg #[.int .i64 s', .slice A' l'.length c'], .int .i64 0]) ∧ FloorP x y q r ∧ Rep s l q ∧ Rep s' l' r ∧ l.length ≤ c ∧ l'.length ≤ c' ∧
    Reads w' w'.heap.size 1 A l.length (dv l) ∧ Reads w' w'.heap.size 1 A' l'.length (dv l') ∧ Below w.heap.size w w' ∧ (0 < l.length → ∀ ad, A = some ad → w.heap.size ≤ ad.block)
/-- The boxes of two arguments and two results. -/
structure Four (w w' : World) (s1 : Int) (A1 : Option Addr) (n1 c1 : Nat) (s2 : Int) (A2 : Option Addr) (n2 c2 : Nat) : Prop where
  t : Three w w' s1 A1 n1 c1 s2 A2 n2 c2
  k4 : Blk w' (w.heap.size + 1 + 1 + 1) 24 #[.int .i64 0, .slice none 0 0]
theorem Four.new (w : World) (s1 : Int) (A1 : Option Addr) (n1 c1 : Nat) (s2 : Int) (A2 : Option Addr) (n2 c2 : Nat) :
    Four w ((((w.alloc (.cells #[.int .i64 s1, .slice A1 n1 c1] 24)).alloc (.cells #[.int .i64 s2, .slice A2 n2 c2] 24)).alloc (.cells #[.int .i64 0, .slice none 0 0] 24)).alloc (.cells #[.int .i64 0, .slice none 0 0] 24)) s1 A1 n1 c1 s2 A2 n2 c2 := by
  have h := Three.new w s1 A1 n1 c1 s2 A2 n2 c2
  refine ⟨h.past ((Below.refl _ _).alloc (Nat.le_refl _) _), ?_⟩
  have := Blk.new (((w.alloc (.cells #[.int .i64 s1, .slice A1 n1 c1] 24)).alloc (.cells #[.int .i64 s2, .slice A2 n2 c2] 24)).alloc (.cells #[.int .i64 0, .slice none 0 0] 24)) 24 #[.int .i64 0, .slice none 0 0]
  simpa using this
section
variable {w w' w2 : World} {s1 : Int} {A1 : Option Addr} {n1 c1 : Nat} {s2 : Int} {A2 : Option Addr} {n2 c2 : Nat}
theorem Four.past (h : Four w w' s1 A1 n1 c1 s2 A2 n2 c2) (hb : Below w'.heap.size w' w2) : Four w w2 s1 A1 n1 c1 s2 A2 n2 c2 := ⟨h.t.past hb, h.k4.below hb h.k4.lt⟩
theorem Four.drew (h : Four w w' s1 A1 n1 c1 s2 A2 n2 c2) : Four w w'.drew s1 A1 n1 c1 s2 A2 n2 c2 := h.past (Below.refl _ _).drew
theorem Four.cells (h : Four w w' s1 A1 n1 c1 s2 A2 n2 c2) : w'.cell? ⟨w.heap.size, 0, none⟩ = some (.int .i64 s1) ∧ w'.cell? ⟨w.heap.size, 1, none⟩ = some (.slice A1 n1 c1) ∧ w'.cell? ⟨w.heap.size + 1, 0, none⟩ = some (.int .i64 s2) ∧ w'.cell? ⟨w.heap.size + 1, 1, none⟩ = some (.slice A2 n2 c2) ∧
    w'.cell? ⟨w.heap.size + 1 + 1, 0, none⟩ = some (.int .i64 0) ∧ w'.cell? ⟨w.heap.size + 1 + 1, 1, none⟩ = some (.slice none 0 0) ∧ w'.frozen? ⟨w.heap.size + 1 + 1, 0, none⟩ = false ∧ w'.frozen? ⟨w.heap.size + 1 + 1, 1, none⟩ = false ∧
    w'.cell? ⟨w.heap.size + 1 + 1 + 1, 0, none⟩ = some (.int .i64 0) ∧ w'.cell? ⟨w.heap.size + 1 + 1 + 1, 1, none⟩ = some (.slice none 0 0) ∧ w'.frozen? ⟨w.heap.size + 1 + 1 + 1, 0, none⟩ = false ∧ w'.frozen? ⟨w.heap.size + 1 + 1 + 1, 1, none⟩ = false := by
  obtain ⟨a, b, c, d, e, f, g, i⟩ := h.t.cells
  exact ⟨a, b, c, d, e, f, g, i, (h.k4.cell 0).trans rfl, (h.k4.cell 1).trans rfl, h.k4.frozen 0, h.k4.frozen 1⟩
theorem Four.lt (h : Four w w' s1 A1 n1 c1 s2 A2 n2 c2) : w.heap.size + 1 + 1 + 1 < w'.heap.size := h.k4.lt
theorem Four.held2 (h : Four w w' s1 A1 n1 c1 s2 A2 n2 c2) (u v : Value) :
    ((w'.setCell ⟨w.heap.size + 1 + 1, 0, none⟩ u).setCell ⟨w.heap.size + 1 + 1, 1, none⟩ v).cell? ⟨w.heap.size, 0, none⟩ = some (.int .i64 s1) ∧ ((w'.setCell ⟨w.heap.size + 1 + 1, 0, none⟩ u).setCell ⟨w.heap.size + 1 + 1, 1, none⟩ v).cell? ⟨w.heap.size + 1, 0, none⟩ = some (.int .i64 s2) := by
  obtain ⟨a, -, b, -⟩ := h.t.held u v
  exact ⟨a, b⟩
theorem Four.blks (h : Four w w' s1 A1 n1 c1 s2 A2 n2 c2) (u v u' v' : Value) :
    Blk ((((w'.setCell ⟨w.heap.size + 1 + 1, 0, none⟩ u).setCell ⟨w.heap.size + 1 + 1, 1, none⟩ v).setCell ⟨w.heap.size + 1 + 1 + 1, 0, none⟩ u').setCell ⟨w.heap.size + 1 + 1 + 1, 1, none⟩ v') w.heap.size 24 #[.int .i64 s1, .slice A1 n1 c1] ∧
    Blk ((((w'.setCell ⟨w.heap.size + 1 + 1, 0, none⟩ u).setCell ⟨w.heap.size + 1 + 1, 1, none⟩ v).setCell ⟨w.heap.size + 1 + 1 + 1, 0, none⟩ u').setCell ⟨w.heap.size + 1 + 1 + 1, 1, none⟩ v') (w.heap.size + 1) 24 #[.int .i64 s2, .slice A2 n2 c2] ∧
    Blk ((((w'.setCell ⟨w.heap.size + 1 + 1, 0, none⟩ u).setCell ⟨w.heap.size + 1 + 1, 1, none⟩ v).setCell ⟨w.heap.size + 1 + 1 + 1, 0, none⟩ u').setCell ⟨w.heap.size + 1 + 1 + 1, 1, none⟩ v') (w.heap.size + 1 + 1) 24 #[u, v] ∧
    Blk ((((w'.setCell ⟨w.heap.size + 1 + 1, 0, none⟩ u).setCell ⟨w.heap.size + 1 + 1, 1, none⟩ v).setCell ⟨w.heap.size + 1 + 1 + 1, 0, none⟩ u').setCell ⟨w.heap.size + 1 + 1 + 1, 1, none⟩ v') (w.heap.size + 1 + 1 + 1) 24 #[u', v'] := by
  have far3 : ∀ {W : World} {g : Nat} {cs : Array Value} {t : TypeId}, Blk W g t cs → g ≠ w.heap.size + 1 + 1 → ∀ i x, Blk (W.setCell ⟨w.heap.size + 1 + 1, i, none⟩ x) g t cs := fun hb hg i x => hb.far (p := ⟨w.heap.size + 1 + 1, i, none⟩) (by show _ ≠ w.heap.size + 1 + 1; omega) x
  have far4 : ∀ {W : World} {g : Nat} {cs : Array Value} {t : TypeId}, Blk W g t cs → g ≠ w.heap.size + 1 + 1 + 1 → ∀ i x, Blk (W.setCell ⟨w.heap.size + 1 + 1 + 1, i, none⟩ x) g t cs := fun hb hg i x => hb.far (p := ⟨w.heap.size + 1 + 1 + 1, i, none⟩) (by show _ ≠ w.heap.size + 1 + 1 + 1; omega) x
  refine ⟨?_, ?_, ?_, ?_⟩
  · exact far4 (far4 (far3 (far3 h.t.k1 (by omega) _ _) (by omega) _ _) (by omega) _ _) (by omega) _ _
  · exact far4 (far4 (far3 (far3 h.t.k2 (by omega) _ _) (by omega) _ _) (by omega) _ _) (by omega) _ _
  · have e : ((#[Value.int .i64 0, .slice none 0 0].setIfInBounds 0 u).setIfInBounds 1 v) = #[u, v] := by simp
    have := (h.t.k3.set_ 0 u).set_ 1 v
    rw [e] at this
    exact far4 (far4 this (by omega) _ _) (by omega) _ _
  · have e : ((#[Value.int .i64 0, .slice none 0 0].setIfInBounds 0 u').setIfInBounds 1 v') = #[u', v'] := by simp
    have := ((far3 (far3 h.k4 (by omega) 0 u) (by omega) 1 v).set_ 0 u').set_ 1 v'
    rw [e] at this
    exact this
theorem Four.held4 (h : Four w w' s1 A1 n1 c1 s2 A2 n2 c2) (u v u' v' : Value) :
    ((((w'.setCell ⟨w.heap.size + 1 + 1, 0, none⟩ u).setCell ⟨w.heap.size + 1 + 1, 1, none⟩ v).setCell ⟨w.heap.size + 1 + 1 + 1, 0, none⟩ u').setCell ⟨w.heap.size + 1 + 1 + 1, 1, none⟩ v').cell? ⟨w.heap.size, 0, none⟩ = some (.int .i64 s1) ∧
    ((((w'.setCell ⟨w.heap.size + 1 + 1, 0, none⟩ u).setCell ⟨w.heap.size + 1 + 1, 1, none⟩ v).setCell ⟨w.heap.size + 1 + 1 + 1, 0, none⟩ u').setCell ⟨w.heap.size + 1 + 1 + 1, 1, none⟩ v').cell? ⟨w.heap.size + 1, 0, none⟩ = some (.int .i64 s2) := by
  obtain ⟨a, b, -, -⟩ := h.blks u v u' v'
  exact ⟨(a.cell 0).trans rfl, (b.cell 0).trans rfl⟩
theorem Four.cells4 (h : Four w w' s1 A1 n1 c1 s2 A2 n2 c2) (u v u' v' : Value) :
    ((((w'.setCell ⟨w.heap.size + 1 + 1, 0, none⟩ u).setCell ⟨w.heap.size + 1 + 1, 1, none⟩ v).setCell ⟨w.heap.size + 1 + 1 + 1, 0, none⟩ u').setCell ⟨w.heap.size + 1 + 1 + 1, 1, none⟩ v').cell? ⟨w.heap.size + 1 + 1, 0, none⟩ = some u ∧
    ((((w'.setCell ⟨w.heap.size + 1 + 1, 0, none⟩ u).setCell ⟨w.heap.size + 1 + 1, 1, none⟩ v).setCell ⟨w.heap.size + 1 + 1 + 1, 0, none⟩ u').setCell ⟨w.heap.size + 1 + 1 + 1, 1, none⟩ v').cell? ⟨w.heap.size + 1 + 1, 1, none⟩ = some v ∧
    ((((w'.setCell ⟨w.heap.size + 1 + 1, 0, none⟩ u).setCell ⟨w.heap.size + 1 + 1, 1, none⟩ v).setCell ⟨w.heap.size + 1 + 1 + 1, 0, none⟩ u').setCell ⟨w.heap.size + 1 + 1 + 1, 1, none⟩ v').cell? ⟨w.heap.size + 1 + 1 + 1, 0, none⟩ = some u' ∧
    ((((w'.setCell ⟨w.heap.size + 1 + 1, 0, none⟩ u).setCell ⟨w.heap.size + 1 + 1, 1, none⟩ v).setCell ⟨w.heap.size + 1 + 1 + 1, 0, none⟩ u').setCell ⟨w.heap.size + 1 + 1 + 1, 1, none⟩ v').cell? ⟨w.heap.size + 1 + 1 + 1, 1, none⟩ = some v' := by
  obtain ⟨-, -, a, b⟩ := h.blks u v u' v'
  generalize (((w'.setCell ⟨w.heap.size + 1 + 1, 0, none⟩ u).setCell ⟨w.heap.size + 1 + 1, 1, none⟩ v).setCell ⟨w.heap.size + 1 + 1 + 1, 0, none⟩ u').setCell ⟨w.heap.size + 1 + 1 + 1, 1, none⟩ v' = W at *
  have e0 := a.cell 0
  have e1 := a.cell 1
  have e2 := b.cell 0
  have e3 := b.cell 1
  simp at e0 e1 e2 e3
  exact ⟨e0, e1, e2, e3⟩
theorem Four.stored2 (h : Four w w' s1 A1 n1 c1 s2 A2 n2 c2) {x y q r s s' : Int} {l l' : List Nat} {A A' : Option Addr} {c c' : Nat} (hR : Reads w' w'.heap.size 1 A l.length (dv l)) (hR' : Reads w' w'.heap.size 1 A' l'.length (dv l'))
    (hF : 0 < l.length → ∀ ad, A = some ad → w.heap.size + 1 + 1 + 1 < ad.block) (hF' : 0 < l'.length → ∀ ad, A' = some ad → w.heap.size + 1 + 1 + 1 < ad.block) (hr : Rep s l q) (hr' : Rep s' l' r) (hc : l.length ≤ c) (hc' : l'.length ≤ c') (hv : FloorP x y q r) :
    DivOk w x y (.returned (.tuple #[.agg #[.int .i64 s, .slice A l.length c], .agg #[.int .i64 s', .slice A' l'.length c'], .int .i64 0]))
      ((((w'.setCell ⟨w.heap.size + 1 + 1, 0, none⟩ (.int .i64 s)).setCell ⟨w.heap.size + 1 + 1, 1, none⟩ (.slice A l.length c)).setCell ⟨w.heap.size + 1 + 1 + 1, 0, none⟩ (.int .i64 s')).setCell ⟨w.heap.size + 1 + 1 + 1, 1, none⟩ (.slice A' l'.length c')) := by
  have keep : ∀ {W : World} {A : Option Addr} {l : List Nat} (g i : Nat) (u : Value), g ≤ w.heap.size + 1 + 1 + 1 → (0 < l.length → ∀ ad, A = some ad → w.heap.size + 1 + 1 + 1 < ad.block) → Reads W W.heap.size 1 A l.length (dv l) → Reads (W.setCell ⟨g, i, none⟩ u) (W.setCell ⟨g, i, none⟩ u).heap.size 1 A l.length (dv l) := by
    intro W A l g i u hg hF hR
    exact (hR.apart (only_setCell (p := ⟨g, i, none⟩) (grown_refl W (some g)) (Or.inl rfl) u) (fun hp ad e => by have := hF hp ad e; omega)).here
  refine ⟨q, r, s, l, A, c, s', l', A', c', rfl, hv, hr, hr', hc, hc', ?_, ?_, ?_, fun hp ad e => by have := hF hp ad e; omega⟩
  · exact keep _ 1 _ (by omega) hF (keep _ 0 _ (by omega) hF (keep _ 1 _ (by omega) hF (keep _ 0 _ (by omega) hF hR)))
  · exact keep _ 1 _ (by omega) hF' (keep _ 0 _ (by omega) hF' (keep _ 1 _ (by omega) hF' (keep _ 0 _ (by omega) hF' hR')))
  · exact (((h.t.bl.setCell (p := ⟨w.heap.size + 1 + 1, 0, none⟩) (by show _ ≤ w.heap.size + 1 + 1; omega) _).setCell (p := ⟨w.heap.size + 1 + 1, 1, none⟩) (by show _ ≤ w.heap.size + 1 + 1; omega) _).setCell (p := ⟨w.heap.size + 1 + 1 + 1, 0, none⟩) (by show _ ≤ w.heap.size + 1 + 1 + 1; omega) _).setCell (p := ⟨w.heap.size + 1 + 1 + 1, 1, none⟩) (by show _ ≤ w.heap.size + 1 + 1 + 1; omega) _
end
theorem Rep.sg {s x : Int} {l : List Nat} (h : Rep s l x) (hx : x ≠ 0) : s = 1 ∨ s = -1 := by
  rcases h.cases with ⟨a, -⟩ | ⟨a, -⟩ | ⟨-, -, a⟩
  · exact .inl a
  · exact .inr a
  · exact absurd a hx
theorem Rep.none_ {s x : Int} {l : List Nat} (h : Rep s l x) (hs : s = 0) : l = [] := by
  rcases h.sign with ⟨a, -⟩ | ⟨a, -⟩ | ⟨-, a⟩
  · omega
  · omega
  · exact a
theorem qr_int {a b : Nat} (hb : 0 < b) : ((a : Int) = (b : Int) * ((a / b : Nat) : Int) + ((a % b : Nat) : Int)) ∧ ((a % b : Nat) : Int) < b := by
  have h1 := Nat.div_add_mod a b
  have h2 := Nat.mod_lt a hb
  refine ⟨?_, by omega⟩
  rw [← Int.natCast_mul, ← Int.natCast_add, h1]
/-- The rounded quotient, where nothing is to be changed. -/
theorem floor_keep {s1 s2 x y : Int} {l1 l2 lq lr : List Nat} (r1 : Rep s1 l1 x) (r2 : Rep s2 l2 y) (hy : y ≠ 0) (hq : dval lq = dval l1 / dval l2) (hr : dval lr = dval l1 % dval l2) (h : s1 = s2 ∨ dval lr = 0) : FloorP x y (s1 * s2 * (dval lq : Int)) (s2 * (dval lr : Int)) := by
  have hb : 0 < dval l2 := by rcases r2.cases with ⟨-, -, a, b⟩ | ⟨-, -, a, b⟩ | ⟨-, -, a⟩ <;> omega
  obtain ⟨e1, e2⟩ := qr_int (a := dval l1) hb
  rw [← hq, ← hr] at e1
  rw [← hr] at e2
  have f1 := r1.eq
  have f2 := r2.eq
  have hs2 := r2.sg hy
  unfold FloorP
  generalize (dval lq : Int) = Q at *
  generalize hRg : (dval lr : Int) = R at *
  generalize (dval l1 : Int) = X at *
  generalize hYg : (dval l2 : Int) = Y at *
  have hR0 : 0 ≤ R := by omega
  have hY0 : 0 < Y := by omega
  have hs1 : s1 = 1 ∨ s1 = -1 ∨ s1 = 0 := by rcases r1.sign with ⟨a, -⟩ | ⟨a, -⟩ | ⟨a, -⟩ <;> simp [a]
  refine ⟨?_, ?_, ?_⟩
  · rw [f1, f2, e1]
    rcases h with h | h
    · rcases hs2 with e | e <;> (rw [h, e]; grind)
    · have : R = 0 := by omega
      subst this
      rcases hs2 with e | e <;> (rw [e]; grind)
  · intro hpos
    rcases hs2 with e | e
    · rw [e] at f2 ⊢; constructor <;> omega
    · rw [e] at f2; omega
  · intro hneg
    rcases hs2 with e | e
    · rw [e] at f2; omega
    · rw [e] at f2 ⊢; constructor <;> omega
/-- .. where it is one lower. -/
theorem floor_down {s1 s2 x y : Int} {l1 l2 : List Nat} {q r : Nat} (r1 : Rep s1 l1 x) (r2 : Rep s2 l2 y) (hy : y ≠ 0) (hq : q = dval l1 / dval l2 + 1) (hr : r = dval l2 - dval l1 % dval l2) (hs : s1 ≠ s2) (h : 0 < dval l1 % dval l2) : FloorP x y (s1 * s2 * (q : Int)) (s2 * (r : Int)) := by
  have hb : 0 < dval l2 := by rcases r2.cases with ⟨-, -, a, b⟩ | ⟨-, -, a, b⟩ | ⟨-, -, a⟩ <;> omega
  have ha : 0 < dval l1 := by
    rcases Nat.eq_zero_or_pos (dval l1) with e | e
    · rw [e] at h; simp at h
    · exact e
  obtain ⟨e1, e2⟩ := qr_int (a := dval l1) hb
  have f1 := r1.eq
  have f2 := r2.eq
  have hs2 := r2.sg hy
  have hs1 : s1 = -s2 := by
    rcases r1.sign with ⟨a, -⟩ | ⟨a, -⟩ | ⟨-, b⟩
    · omega
    · omega
    · rw [b] at ha; simp [dval] at ha
  have hq' : (q : Int) = ((dval l1 / dval l2 : Nat) : Int) + 1 := by omega
  have hr' : (r : Int) = (dval l2 : Int) - ((dval l1 % dval l2 : Nat) : Int) := by omega
  unfold FloorP
  rw [hq', hr']
  have hR0 : (0 : Int) < ((dval l1 % dval l2 : Nat) : Int) := by omega
  generalize ((dval l1 / dval l2 : Nat) : Int) = Q at *
  generalize ((dval l1 % dval l2 : Nat) : Int) = R at *
  generalize (dval l1 : Int) = X at *
  have hY0 : (0 : Int) < (dval l2 : Int) := by omega
  generalize (dval l2 : Int) = Y at *
  clear hq hr hq' hr' h ha hb
  refine ⟨?_, ?_, ?_⟩
  · rw [f1, f2, e1, hs1]
    rcases hs2 with e | e <;> (rw [e]; grind)
  · intro hpos
    rcases hs2 with e | e
    · rw [e] at f2 ⊢; constructor <;> omega
    · rw [e] at f2; omega
  · intro hneg
    rcases hs2 with e | e
    · rw [e] at f2; omega
    · rw [e]; rw [e] at f2; constructor <;> omega
theorem one_sml : Sml [1] := fun d hd => by simp at hd; omega
theorem one_dig (w : World) (d : Nat) : Reads (w.alloc (.cells #[.int .i64 (d : Int)] 3)).drew (w.heap.size + 1) 1 (some ⟨w.heap.size, 0, none⟩) 1 (dv [d]) := by
  have hk := Blk.new w 3 #[.int .i64 (d : Int)]
  refine ⟨rfl, fun _ => ⟨_, rfl, Nat.lt_succ_self _, fun j u hj => ?_⟩⟩
  have hlt := (List.getElem?_eq_some_iff.1 hj).1
  obtain rfl : j = 0 := by
    have : j < 1 := hlt
    omega
  cases hj
  exact (hk.cell 0).trans rfl
set_option maxHeartbeats 16000000 in
theorem Div_by (s1 s2 : Int) (A1 A2 : Option Addr) (n1 n2 c1 c2 B1 B2 : Nat) (l1 l2 : List Nat) (x y : Int) (w : World) (h1 : Reads w B1 1 A1 n1 (dv l1)) (h2 : Reads w B2 1 A2 n2 (dv l2)) (r1 : Rep s1 l1 x) (r2 : Rep s2 l2 y) (hy : y ≠ 0) (hn1 : n1 ≤ 1048576) (hn2 : n2 ≤ 1048576)
    (HDV : ∀ wx : World, Reads wx B1 1 A1 n1 (dv l1) → Reads wx B2 1 A2 n2 (dv l2) → Calls Tryz.prog 128 #[.slice A1 n1 c1, .slice A2 n2 c2] wx (QrEnd wx (dval l1 / dval l2) (dval l1 % dval l2))) :
    Calls Tryz.prog 22 #[.agg #[.int .i64 s1, .slice A1 n1 c1], .agg #[.int .i64 s2, .slice A2 n2 c2]] w (DivOk w x y) := by
  have H1 := Lib.hid h1
  have H2 := Lib.hid h2
  have R1 := Lib.hid r1
  have R2 := Lib.hid r2
  have HD := Lib.hid HDV
  have HY := Lib.hid hy
  have K := Lib.hid (Four.new w s1 A1 n1 c1 s2 A2 n2 c2)
  have hs2 := r2.sg hy
  have hs20 : ¬ s2 = 0 := by omega
  have hp0 : -1 ≤ s1 * s2 := by rcases r1.sign with ⟨e, -⟩ | ⟨e, -⟩ | ⟨e, -⟩ <;> rcases hs2 with f | f <;> (rw [e, f]; decide)
  have hp1 : s1 * s2 ≤ 1 := by rcases r1.sign with ⟨e, -⟩ | ⟨e, -⟩ | ⟨e, -⟩ <;> rcases hs2 with f | f <;> (rw [e, f]; decide)
  have hwr : IntKind.i64.wrap (s1 * s2) = s1 * s2 := IntWalk.i64_in _ (by omega)
  have HS2 := Lib.hid hs2
  clear h1 h2 r1 r2 HDV hy hs2
  go_enter Tryz.func22, Tryz.ntmps22
  go_wp2_with fail
  refine (right_rep R1.out A1 n1 c1 _ _ (H1.out.past (K.out.t.bl)) (by omega)).mono ?_
  rintro e w4 ⟨rfl, b4⟩
  have K4 := Lib.hid (K.out.past b4)
  obtain ⟨y0, y1, y2, y3, y4, y5, y6, y7, y8, y9, ya, yb⟩ := K4.out.cells
  clear b4 K
  go_wp2_with fail
  refine (right_rep R2.out A2 n2 c2 _ _ (H2.out.past (K4.out.t.bl)) (by omega)).mono ?_
  rintro e w5 ⟨rfl, b5⟩
  have K5 := Lib.hid (K4.out.past b5)
  clear y0 y1 y2 y3 y4 y5 y6 y7 y8 y9 ya yb
  obtain ⟨y0, y1, y2, y3, y4, y5, y6, y7, y8, y9, ya, yb⟩ := K5.out.cells
  clear b5 K4
  go_wp2_with fail
  refine (HD.out w5 (H1.out.past (K5.out.t.bl)) (H2.out.past (K5.out.t.bl))).mono ?_
  rintro e w6 ⟨lq, lr, Aq, cq, Ar, cr, rfl, hNq, hNr, hVq, hVr, hCq, hCr, hRq, hRr, hFq, hFr, hB⟩
  have KX := Lib.hid (K5.out.past hB)
  clear y0 y1 y2 y3 y4 y5 y6 y7 y8 y9 ya yb
  obtain ⟨v0, v1, v2, v3, v4, v5, v6, v7, v8, v9, va, vb⟩ := KX.out.cells
  have hlt5 := K5.out.lt
  have HNq := Lib.hid hNq
  have HNr := Lib.hid hNr
  have HVq := Lib.hid hVq
  have HVr := Lib.hid hVr
  have HCq := Lib.hid hCq
  have HCr := Lib.hid hCr
  have HRq := Lib.hid hRq
  have HRr := Lib.hid hRr
  have HFq : Hid (0 < lq.length → ∀ ad, Aq = some ad → w.heap.size + 1 + 1 + 1 < ad.block) := fun hp ad e => Nat.lt_of_lt_of_le K5.out.lt (hFq hp ad e)
  have HFr : Hid (0 < lr.length → ∀ ad, Ar = some ad → w.heap.size + 1 + 1 + 1 < ad.block) := fun hp ad e => by obtain ⟨g, e', hg, -⟩ := hFr hp; rw [e'] at e; cases e; exact Nat.lt_of_lt_of_le K5.out.lt hg
  have HSr : Hid (s2 = 1 ∨ s2 = -1 ∨ lr = []) := by rcases HS2.out with e | e; exact .inl e; exact .inr (.inl e)
  clear hNq hNr hVq hVr hCq hCr hRq hRr hFq hFr hB K5 HD hlt5
  have hzr : lr.length = 0 → dval lr = 0 := fun e => by rw [List.eq_nil_of_length_eq_zero e]; rfl
  have HZR := Lib.hid hzr
  have HSQ : Hid (∀ l : List Nat, Norm l → (s1 = 0 → dval l = 0) → s1 * s2 = 1 ∨ s1 * s2 = -1 ∨ l = []) := fun l hn hz => by
    rcases R1.out.sign with ⟨e, -⟩ | ⟨e, -⟩ | ⟨e, -⟩
    · rcases HS2.out with f | f <;> (rw [e, f]; simp)
    · rcases HS2.out with f | f <;> (rw [e, f]; simp)
    · exact .inr (.inr ((dval_zero hn).1 (hz e)))
  clear hzr
  by_cases hadj : s1 ≠ s2 ∧ 0 < lr.length
  · obtain ⟨hne, hpos⟩ := hadj
    have hne' : ¬ s1 = s2 := hne
    have hrp : 0 < dval lr := by
      rcases Nat.eq_zero_or_pos (dval lr) with h | h
      · have := (dval_zero HNr.out).1 h; rw [this] at hpos; simp at hpos
      · exact h
    have hb : 0 < dval l2 := by rcases R2.out.cases with ⟨-, -, a, b⟩ | ⟨-, -, a, b⟩ | ⟨-, -, a⟩ <;> first | omega | exact absurd a HY.out
    have hrl : dval lr ≤ dval l2 := by rw [HVr.out]; exact Nat.le_of_lt (Nat.mod_lt _ hb)
    have HLR := Lib.hid hrl
    have HLL := Lib.hid (len_le R2.out.norm HNr.out hrl)
    have HLQ : Hid (lq.length ≤ 1048577) := by
      show _ ≤ _
      have h1 : dval lq ≤ dval l1 := by rw [HVq.out]; exact Nat.div_le_self _ _
      have := len_le R1.out.norm HNq.out h1
      have := H1.out.lenD
      omega
    have HL2 := Lib.hid H2.out.lenD
    have HPO : Hid (0 < n2) := by
      show _ < _
      have := R2.out.sign
      rcases Nat.eq_zero_or_pos n2 with h | h
      · have e := List.eq_nil_of_length_eq_zero (HL2.out.trans h)
        rw [e] at hb
        simp [dval] at hb
      · exact h
    have HDN : Hid (∀ l l' : List Nat, dval l = dval lq + 1 → dval l' = dval l2 - dval lr → FloorP x y (s1 * s2 * (dval l : Int)) (s2 * (dval l' : Int))) := fun l l' e e' => floor_down R1.out R2.out HY.out (by rw [e, HVq.out]) (by rw [e', HVr.out]) hne (by rw [← HVr.out]; exact hrp)
    have HSP : Hid (∀ l : List Nat, s1 * s2 = 1 ∨ s1 * s2 = -1 ∨ l = []) := fun l => by
      rcases R1.out.sign with ⟨e, -⟩ | ⟨e, -⟩ | ⟨-, e⟩
      · rcases HS2.out with f | f <;> (rw [e, f]; simp)
      · rcases HS2.out with f | f <;> (rw [e, f]; simp)
      · rw [HVr.out, e] at hrp; simp [dval] at hrp
    have HST : Hid (∀ l : List Nat, s2 = 1 ∨ s2 = -1 ∨ l = []) := fun l => by rcases HS2.out with e | e; exact .inl e; exact .inr (.inl e)
    have HONE : Hid (Reads (w6.alloc (.cells #[.int .i64 1] 3)).drew (w6.heap.size + 1) 1 (some ⟨w6.heap.size, 0, none⟩) 1 (dv [1])) := one_dig w6 1
    have HRqA := Lib.hid ((HRq.out.past (((Below.refl w6.heap.size w6).alloc (Nat.le_refl _) (.cells #[.int .i64 1] 3)))).drew)
    have HRrA := Lib.hid ((HRr.out.past (((Below.refl w6.heap.size w6).alloc (Nat.le_refl _) (.cells #[.int .i64 1] 3)))).drew)
    have KA := Lib.hid ((KX.out.past (((Below.refl w6.heap.size w6).alloc (Nat.le_refl _) (.cells #[.int .i64 1] 3)))).drew)
    obtain ⟨u0, u1, u2, u3, -, -, -, -, -, -, -, -⟩ := KA.out.cells
    obtain ⟨nr, hnr⟩ : ∃ k, lr.length = k := ⟨_, rfl⟩
    have HNL := Lib.hid hnr
    rw [hnr] at HRr HRrA HLL hpos ⊢
    have hposc : (0 : Int) < (nr : Int) := by omega
    have hpn : 0 < nr := hpos
    have HLE2 : Hid (nr ≤ n2) := by show _ ≤ _; have h1 := HLL.out; have h2 := HL2.out; omega
    have HN2 : Hid (n2 ≤ 1073741824) := by show _ ≤ _; omega
    have hbs : (s1 != s2) = true := by simpa using hne
    clear hrp hb hrl hne hpos hnr HCr HFr HSr HZR HRr HRq
    go_wp2_with fail
    go_region_held3 (fun w' => w'.cell? ⟨w.heap.size + 1, 1, none⟩ = some (.slice A2 n2 c2))
      (first | exact t3 | exact x3 | exact u3 | exact v3)
      (first | (go_at_call 129; refine (add_any Aq (some ⟨w6.heap.size, 0, none⟩) lq.length 1 cq 1 _ _ lq [1] _ HRqA.out HONE.out HNq.out.1 one_sml (Nat.le_trans HLQ.out (by decide)) (by decide)).mono ?_; rintro e wa ⟨lp, hN, hV, Ap, cp, rfl, hc, hR, hF, hB⟩; have KB := Lib.hid (KA.out.past hB); have HRrB := Lib.hid (HRrA.out.past hB); obtain ⟨x0, x1, x2, x3, -, -, -, -, -, -, -, -⟩ := KB.out.cells; have HNp := Lib.hid hN; have HVp := Lib.hid hV; have HCp := Lib.hid hc; have HRp0 := Lib.hid hR; have HFp : Hid (0 < lp.length → ∀ ad, Ap = some ad → w.heap.size + 1 + 1 + 1 < ad.block) := (fun hp ad e => (hF hp).elim fun g hg => by rw [hg.1] at e; cases e; exact Nat.lt_of_lt_of_le KA.out.lt hg.2.1); clear hN hV hc hR hF hB) | (go_at_call 130; refine (subtract_any A2 Ar n2 nr c2 cr _ _ l2 lr _ (H2.out.past KB.out.t.bl) HRrB.out R2.out.norm.1 HNr.out.1 HLR.out HLE2.out HPO.out HN2.out).mono ?_; rintro e wb ⟨lt, hN, hV, At, ct, rfl, hc, hR, hF, hB⟩; have KY := Lib.hid (KB.out.past hB); obtain ⟨t0, t1, t2, t3, t4, t5, t6, t7, t8, t9, ta, tb⟩ := KY.out.cells; have HNt := Lib.hid hN; have HVt := Lib.hid hV; have HCt := Lib.hid hc; have HRt := Lib.hid hR; have HRp := Lib.hid (HRp0.out.past hB).here; have HFt : Hid (0 < lt.length → ∀ ad, At = some ad → w.heap.size + 1 + 1 + 1 < ad.block) := (fun hp ad e => (hF hp).elim fun g hg => by rw [hg.1] at e; cases e; exact Nat.lt_of_lt_of_le KB.out.lt hg.2.1); clear hN hV hc hR hF hB))
    all_goals
      have HSp := Lib.hid (HSP.out lp)
      have HSt := Lib.hid (HST.out lt)
      have HFL := Lib.hid (HDN.out lp lt (by rw [HVp.out]; rfl) HVt.out)
      clear v0 v1 v2 v3 v4 v5 v6 v7 v8 v9 va vb u0 u1 u2 u3 x0 x1 x2 x3
      have hvr : FloorP x y (s1 * s2 * (dval lp : Int)) (s2 * (dval lt : Int)) := HFL.out
      have HVR := Lib.hid hvr
      clear hvr
      go_wp2_with fail
      go_region_held3 (fun w' => w'.cell? ⟨w.heap.size, 0, none⟩ = some (.int .i64 s1) ∧ w'.cell? ⟨w.heap.size + 1, 0, none⟩ = some (.int .i64 s2))
        (first | with_reducible exact K9.out.held4 _ _ _ _ | with_reducible exact K9.out.held2 _ _ | exact ⟨z0, z2⟩ | exact ⟨x0, x2⟩ | exact ⟨t0, t2⟩)
        (first | (go_at_call_of 125 (Value.slice Ap lp.length cp); refine (signed_any (s1 * s2) Ap _ cp _ lp _ HRp.out.drew HNp.out HSp.out HCp.out).mono ?_; rintro e w8 ⟨s', A', c', rfl, hc', hrep, hA, hB⟩; have K8 := Lib.hid (KY.out.drew.past hB); obtain ⟨x0, x1, x2, x3, x4, x5, x6, x7, x8, x9, xa, xb⟩ := K8.out.cells; have HC8 := Lib.hid hc'; have HREP8 := Lib.hid hrep; have HA8 := Lib.hid hA; have HB8 := Lib.hid hB; clear hc' hrep hA hB) | (go_at_call_of 125 (Value.slice At lt.length ct); refine (signed_any s2 At _ ct _ lt _ (HRt.out.drew.past HB8.out) HNt.out HSt.out HCt.out).mono ?_; rintro e w9 ⟨s'', A'', c'', rfl, hc', hrep, hA, hB⟩; have K9 := Lib.hid (K8.out.past hB); obtain ⟨z0, z1, z2, z3, z4, z5, z6, z7, z8, z9, za, zb⟩ := K9.out.cells; have HC9 := Lib.hid hc'; have HREP9 := Lib.hid hrep; have HA9 := Lib.hid hA; have HB9 := Lib.hid hB; clear hc' hrep hA hB))
      all_goals
        have hrq : Reads w9 w9.heap.size 1 A' lp.length (dv lp) := ⟨HRp.out.1, fun hp => by rw [HA8.out hp]; exact (((HRp.out.drew.past HB8.out).past HB9.out).here).2 hp⟩
        have hrr : Reads w9 w9.heap.size 1 A'' lt.length (dv lt) := ⟨HRt.out.1, fun hp => by rw [HA9.out hp]; exact (((HRt.out.drew.past HB8.out).past HB9.out).here).2 hp⟩
        have HE := Lib.hid (K9.out.stored2 (x := x) (y := y) hrq hrr (fun hp ad e => HFp.out hp ad ((HA8.out hp).symm.trans e)) (fun hp ad e => HFt.out hp ad ((HA9.out hp).symm.trans e)) HREP8.out HREP9.out HC8.out HC9.out HVR.out)
        obtain ⟨e0, e1, e2, e3⟩ := K9.out.cells4 (.int .i64 s') (.slice A' lp.length c') (.int .i64 s'') (.slice A'' lt.length c'')
        clear hrq hrr
        go_wp2_with fail
        refine bodyPost_ret (v := .tuple #[.agg #[.int .i64 s', .slice A' lp.length c'], .agg #[.int .i64 s'', .slice A'' lt.length c''], .int .i64 0]) (by simp [results, Tryz.results22, go_sem, e0, e1, e2, e3]) rfl ?_
        exact HE.out

  · have HSq : Hid (s1 * s2 = 1 ∨ s1 * s2 = -1 ∨ lq = []) := HSQ.out lq HNq.out (fun e => by
      rw [HVq.out, R1.out.none_ e]; simp [dval])
    have hcase : s1 = s2 ∨ lr.length = 0 := by omega
    have hc2 : s1 = s2 ∨ dval lr = 0 := hcase.imp id HZR.out
    have HFL := Lib.hid (floor_keep R1.out R2.out HY.out HVq.out HVr.out hc2)
    clear hc2
    by_cases hc : s1 = s2
    · clear hadj hcase
      subst hc
      have hvr : FloorP x y (s1 * s1 * (dval lq : Int)) (s1 * (dval lr : Int)) := HFL.out
      have HVR := Lib.hid hvr
      clear hvr
      go_wp2_with fail
      go_region_held3 (fun w' => w'.cell? ⟨w.heap.size, 0, none⟩ = some (.int .i64 s1) ∧ w'.cell? ⟨w.heap.size + 1, 0, none⟩ = some (.int .i64 s1))
        (first | with_reducible exact K9.out.held4 _ _ _ _ | with_reducible exact K9.out.held2 _ _ | exact ⟨z0, z2⟩ | exact ⟨x0, x2⟩ | exact ⟨v0, v2⟩)
        (first | (go_at_call_of 125 (Value.slice Aq lq.length cq); refine (signed_any (s1 * s1) Aq _ cq _ lq _ HRq.out.drew HNq.out HSq.out HCq.out).mono ?_; rintro e w8 ⟨s', A', c', rfl, hc', hrep, hA, hB⟩; have K8 := Lib.hid (KX.out.drew.past hB); obtain ⟨x0, x1, x2, x3, x4, x5, x6, x7, x8, x9, xa, xb⟩ := K8.out.cells; have HC8 := Lib.hid hc'; have HREP8 := Lib.hid hrep; have HA8 := Lib.hid hA; have HB8 := Lib.hid hB; clear hc' hrep hA hB) | (go_at_call_of 125 (Value.slice Ar lr.length cr); refine (signed_any s1 Ar _ cr _ lr _ (HRr.out.drew.past HB8.out) HNr.out HSr.out HCr.out).mono ?_; rintro e w9 ⟨s'', A'', c'', rfl, hc', hrep, hA, hB⟩; have K9 := Lib.hid (K8.out.past hB); obtain ⟨z0, z1, z2, z3, z4, z5, z6, z7, z8, z9, za, zb⟩ := K9.out.cells; have HC9 := Lib.hid hc'; have HREP9 := Lib.hid hrep; have HA9 := Lib.hid hA; have HB9 := Lib.hid hB; clear hc' hrep hA hB))
      all_goals
        have hrq : Reads w9 w9.heap.size 1 A' lq.length (dv lq) := ⟨HRq.out.1, fun hp => by rw [HA8.out hp]; exact (((HRq.out.drew.past HB8.out).past HB9.out).here).2 hp⟩
        have hrr : Reads w9 w9.heap.size 1 A'' lr.length (dv lr) := ⟨HRr.out.1, fun hp => by rw [HA9.out hp]; exact (((HRr.out.drew.past HB8.out).past HB9.out).here).2 hp⟩
        have HE := Lib.hid (K9.out.stored2 (x := x) (y := y) hrq hrr (fun hp ad e => HFq.out hp ad ((HA8.out hp).symm.trans e)) (fun hp ad e => HFr.out hp ad ((HA9.out hp).symm.trans e)) HREP8.out HREP9.out HC8.out HC9.out HVR.out)
        obtain ⟨e0, e1, e2, e3⟩ := K9.out.cells4 (.int .i64 s') (.slice A' lq.length c') (.int .i64 s'') (.slice A'' lr.length c'')
        clear hrq hrr
        go_wp2_with fail
        refine bodyPost_ret (v := .tuple #[.agg #[.int .i64 s', .slice A' lq.length c'], .agg #[.int .i64 s'', .slice A'' lr.length c''], .int .i64 0]) (by simp [results, Tryz.results22, go_sem, e0, e1, e2, e3]) rfl ?_
        exact HE.out

    · have hne' : ¬ s1 = s2 := hc
      have hz : ¬ (0 : Int) < (lr.length : Int) := by rcases hcase with h | h; exact absurd h hc; omega
      clear hcase hadj hc
      have hvr : FloorP x y (s1 * s2 * (dval lq : Int)) (s2 * (dval lr : Int)) := HFL.out
      have HVR := Lib.hid hvr
      clear hvr
      go_wp2_with fail
      go_region_held3 (fun w' => w'.cell? ⟨w.heap.size, 0, none⟩ = some (.int .i64 s1) ∧ w'.cell? ⟨w.heap.size + 1, 0, none⟩ = some (.int .i64 s2))
        (first | with_reducible exact K9.out.held4 _ _ _ _ | with_reducible exact K9.out.held2 _ _ | exact ⟨z0, z2⟩ | exact ⟨x0, x2⟩ | exact ⟨v0, v2⟩)
        (first | (go_at_call_of 125 (Value.slice Aq lq.length cq); refine (signed_any (s1 * s2) Aq _ cq _ lq _ HRq.out.drew HNq.out HSq.out HCq.out).mono ?_; rintro e w8 ⟨s', A', c', rfl, hc', hrep, hA, hB⟩; have K8 := Lib.hid (KX.out.drew.past hB); obtain ⟨x0, x1, x2, x3, x4, x5, x6, x7, x8, x9, xa, xb⟩ := K8.out.cells; have HC8 := Lib.hid hc'; have HREP8 := Lib.hid hrep; have HA8 := Lib.hid hA; have HB8 := Lib.hid hB; clear hc' hrep hA hB) | (go_at_call_of 125 (Value.slice Ar lr.length cr); refine (signed_any s2 Ar _ cr _ lr _ (HRr.out.drew.past HB8.out) HNr.out HSr.out HCr.out).mono ?_; rintro e w9 ⟨s'', A'', c'', rfl, hc', hrep, hA, hB⟩; have K9 := Lib.hid (K8.out.past hB); obtain ⟨z0, z1, z2, z3, z4, z5, z6, z7, z8, z9, za, zb⟩ := K9.out.cells; have HC9 := Lib.hid hc'; have HREP9 := Lib.hid hrep; have HA9 := Lib.hid hA; have HB9 := Lib.hid hB; clear hc' hrep hA hB))
      all_goals
        have hrq : Reads w9 w9.heap.size 1 A' lq.length (dv lq) := ⟨HRq.out.1, fun hp => by rw [HA8.out hp]; exact (((HRq.out.drew.past HB8.out).past HB9.out).here).2 hp⟩
        have hrr : Reads w9 w9.heap.size 1 A'' lr.length (dv lr) := ⟨HRr.out.1, fun hp => by rw [HA9.out hp]; exact (((HRr.out.drew.past HB8.out).past HB9.out).here).2 hp⟩
        have HE := Lib.hid (K9.out.stored2 (x := x) (y := y) hrq hrr (fun hp ad e => HFq.out hp ad ((HA8.out hp).symm.trans e)) (fun hp ad e => HFr.out hp ad ((HA9.out hp).symm.trans e)) HREP8.out HREP9.out HC8.out HC9.out HVR.out)
        obtain ⟨e0, e1, e2, e3⟩ := K9.out.cells4 (.int .i64 s') (.slice A' lq.length c') (.int .i64 s'') (.slice A'' lr.length c'')
        clear hrq hrr
        go_wp2_with fail
        refine bodyPost_ret (v := .tuple #[.agg #[.int .i64 s', .slice A' lq.length c'], .agg #[.int .i64 s'', .slice A'' lr.length c''], .int .i64 0]) (by simp [results, Tryz.results22, go_sem, e0, e1, e2, e3]) rfl ?_
        exact HE.out

end Go.Proofs.YtikfjmdeeknalaaGreatDoor
