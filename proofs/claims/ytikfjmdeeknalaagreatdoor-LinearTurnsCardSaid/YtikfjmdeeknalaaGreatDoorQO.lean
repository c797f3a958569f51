/- The walks of frac's Same, of the reference's Same, SameBig and Few, and of the law's right. Conditions: sizes. -/
import Derived.Test.YtikfjmdeeknalaaGreatDoorQI
import Derived.Test.YtikfjmdeeknalaaGreatDoorQL
import Derived.Deep.DeepCutAuto
namespace Go.Proofs.YtikfjmdeeknalaaGreatDoor
set_option maxRecDepth 20000
open Go.RowKit

end Go.Proofs.YtikfjmdeeknalaaGreatDoor

/- The walks of slices.Equal, big's Same and Neg, and the law's few. Conditions: lengths. -/
namespace Go.Proofs.YtikfjmdeeknalaaGreatDoor
set_option maxRecDepth 8000
open Go.RowKit

section
variable {w : World} {j k : Nat} {x y s1 s2 : Int} {A1 A2 : Option Addr} {n1 n2 : Nat}
end
set_option maxHeartbeats 4000000 in
theorem frSame_any {w : World} {k : Nat} {p q p2 q2 : Int} (r r2 : FrR) (h1 : Bg w k p r.s1 r.A1 r.n1) (h2 : Bg w k q r.s2 r.A2 r.n2) (h3 : Bg w k p2 r2.s1 r2.A1 r2.n1) (h4 : Bg w k q2 r2.s2 r2.A2 r2.n2) (hk : k ≤ 1000000) {b1 b2 : Bool} (e1 : decide (p = p2) = b1) (e2 : decide (q = q2) = b2) :
    Calls Tryz.prog 62 #[frV r, frV r2] w fun e w' => e = .returned (.bool (b1 && b2)) ∧ Below w.heap.size w w' := by
  have S := Lib.hid (DuoF.new w r r2)
  obtain ⟨W0, hW0⟩ : ∃ W0, W0 = ((w.alloc (.cells (frC r) 43)).alloc (.cells (frC r2) 43)) := ⟨_, rfl⟩
  rw [← hW0] at S
  have M1 := Lib.hid (same_B (h1.past S.out.bl) (h3.past S.out.bl) (by omega) (by omega) r.c1 r2.c1 e1)
  have M2 := Lib.hid (fun W (hb : Below w.heap.size w W) => same_B (h2.past hb) (h4.past hb) (by omega) (by omega) r.c2 r2.c2 e2)
  clear h1 h2 h3 h4 e1 e2
  obtain ⟨s1, A1, n1, c1, s2, A2, n2, c2⟩ := r
  obtain ⟨s3, A3, n3, c3, s4, A4, n4, c4⟩ := r2
  dsimp only [frV, frC] at *
  obtain ⟨⟨ka0, ka1, ka2, ka3⟩, kb0, kb1, kb2, kb3⟩ := S.out.cells
  dsimp only at ka0 ka1 ka2 ka3 kb0 kb1 kb2 kb3
  cases b1
  · clear M2
    go_enter Tryz.func62, Tryz.ntmps62
    go_wp2_with fail
    rw [← hW0]
    clear hW0
    go_wp2_with fail
    refine M1.out.mono ?_
    rintro e w1 ⟨rfl, hb⟩
    have B1 := Lib.hid (S.out.bl.trans (hb.mono S.out.bl.size))
    clear hb
    go_wp2_with fail
    go_ret
    exact ⟨by simp, B1.out⟩
  · go_enter Tryz.func62, Tryz.ntmps62
    go_wp2_with fail
    rw [← hW0]
    clear hW0
    go_wp2_with fail
    refine M1.out.mono ?_
    rintro e w1 ⟨rfl, hb⟩
    have S1 := Lib.hid (S.out.call hb)
    clear ka0 ka1 ka2 ka3 kb0 kb1 kb2 kb3 hb S M1
    obtain ⟨⟨ka0, ka1, ka2, ka3⟩, kb0, kb1, kb2, kb3⟩ := S1.out.cells
    dsimp only at ka0 ka1 ka2 ka3 kb0 kb1 kb2 kb3
    go_wp2_with fail
    refine (M2.out _ S1.out.bl).mono ?_
    rintro e w2 ⟨rfl, hb⟩
    have B2 := Lib.hid (S1.out.bl.trans (hb.mono S1.out.bl.size))
    clear hb
    go_wp2_with fail
    go_ret
    exact ⟨by simp, B2.out⟩
theorem frac_eq {x y : Rat} : (decide (x.num = y.num) && decide ((x.den : Int) = (y.den : Int))) = decide (x = y) := by
  by_cases h : x = y
  · subst h; simp
  · rw [decide_eq_false h]
    by_cases h1 : x.num = y.num
    · have : ¬ (x.den : Int) = (y.den : Int) := fun e => h (Rat.ext h1 (by omega))
      rw [decide_eq_false this, Bool.and_false]
    · rw [decide_eq_false h1]; rfl
theorem same_R {w : World} {k : Nat} {x y : Rat} (r r2 : FrR) (h1 : Fg w k x r) (h2 : Fg w k y r2) (hk : k ≤ 1000000) {o : Bool} (ho : decide (x = y) = o) :
    Calls Tryz.prog 62 #[frV r, frV r2] w fun e w' => e = .returned (.bool o) ∧ Below w.heap.size w w' := by
  have := frSame_any r r2 h1.1 h1.2 h2.1 h2.2 hk rfl rfl
  rwa [frac_eq, ho] at this
set_option maxHeartbeats 2000000 in
theorem few5_T (r : FrR) (m : Int) (w : World) (h1 : (r.n1 : Int) ≤ m) (h2 : (r.n2 : Int) ≤ m) : Calls Tryz.prog 42 #[frV r, .int .i64 m] w fun e w' => e = .returned (.bool true) ∧ Below w.heap.size w w' := by
  have HB : Hid (Below w.heap.size w (w.alloc (.cells (frC r) 43))) := (Below.refl _ _).alloc (Nat.le_refl _) _
  obtain ⟨s1, A1, n1, c1, s2, A2, n2, c2⟩ := r
  dsimp only [frV, frC] at *
  go_enter Tryz.func42, Tryz.ntmps42
  go_wp2_with fail
  go_ret
  exact ⟨rfl, HB.out⟩
set_option maxHeartbeats 2000000 in
theorem few5_F (r : FrR) (m : Int) (w : World) (h : m < (r.n1 : Int) ∨ m < (r.n2 : Int)) : Calls Tryz.prog 42 #[frV r, .int .i64 m] w fun e w' => e = .returned (.bool false) ∧ Below w.heap.size w w' := by
  have HB : Hid (Below w.heap.size w (w.alloc (.cells (frC r) 43))) := (Below.refl _ _).alloc (Nat.le_refl _) _
  obtain ⟨s1, A1, n1, c1, s2, A2, n2, c2⟩ := r
  dsimp only [frV, frC] at *
  by_cases h1 : m < (n1 : Int)
  · clear h
    go_enter Tryz.func42, Tryz.ntmps42
    go_wp2_with fail
    go_ret
    exact ⟨rfl, HB.out⟩
  · have h2 : m < (n2 : Int) := by omega
    have h3 : (n1 : Int) ≤ m := by omega
    have h4 : decide ((n2 : Int) ≤ m) = false := decide_eq_false (by omega)
    clear h h1
    go_enter Tryz.func42, Tryz.ntmps42
    go_wp2_with fail
    go_ret
    exact ⟨rfl, HB.out⟩
end Go.Proofs.YtikfjmdeeknalaaGreatDoor

/- The walks of frac's Text and Read. Conditions: sizes, lengths; the tables of math/bits and strconv as their texts lay them; the variable MaxLen of internal/bytealg holds an int. -/
namespace Go.Proofs.YtikfjmdeeknalaaGreatDoor
set_option maxRecDepth 20000
open Go.RowKit

section
variable {w : World} {k : Nat} {x y : Rat}
end
end Go.Proofs.YtikfjmdeeknalaaGreatDoor

/- Words on memory for the laws of frac; the walk of the law's right. Conditions: sizes; the table of math/bits as its text lays it. -/
namespace Go.Proofs.YtikfjmdeeknalaaGreatDoor
set_option maxRecDepth 20000
open Go.RowKit

theorem Blk.set4 {w : World} {g : Nat} {t : TypeId} {o1 o2 o3 o4 : Value} (h : Blk w g t #[o1, o2, o3, o4]) {a b c d : Value} : Blk ((((w.setCell ⟨g, 0, none⟩ a).setCell ⟨g, 1, none⟩ b).setCell ⟨g, 2, none⟩ c).setCell ⟨g, 3, none⟩ d) g t #[a, b, c, d] := by
  have := (((h.set_ 0 a).set_ 1 b).set_ 2 c).set_ 3 d
  simpa using this
theorem Blk.far4 {w : World} {g g' : Nat} {t : TypeId} {cs : Array Value} (h : Blk w g t cs) (hne : g ≠ g') {a b c d : Value} : Blk ((((w.setCell ⟨g', 0, none⟩ a).setCell ⟨g', 1, none⟩ b).setCell ⟨g', 2, none⟩ c).setCell ⟨g', 3, none⟩ d) g t cs :=
  (((h.far (p := ⟨g', 0, none⟩) hne a).far (p := ⟨g', 1, none⟩) hne b).far (p := ⟨g', 2, none⟩) hne c).far (p := ⟨g', 3, none⟩) hne d
theorem Bg.far4 {w : World} {k g : Nat} {x s : Int} {A : Option Addr} {n : Nat} (h : Bg w k x s A n) (hne : 0 < n → ∀ ad, A = some ad → ad.block ≠ g) {a b c d : Value} : Bg ((((w.setCell ⟨g, 0, none⟩ a).setCell ⟨g, 1, none⟩ b).setCell ⟨g, 2, none⟩ c).setCell ⟨g, 3, none⟩ d) k x s A n :=
  h.apart (only_setCell (p := ⟨g, 3, none⟩) (only_setCell (p := ⟨g, 2, none⟩) (only_setCell (p := ⟨g, 1, none⟩) (only_setCell (p := ⟨g, 0, none⟩) (grown_refl w (some g)) (.inl rfl) a) (.inl rfl) b) (.inl rfl) c) (.inl rfl) d) hne
theorem below_4 {B g : Nat} {a w : World} (h : Below B a w) (hg : B ≤ g) {u v x y : Value} : Below B a ((((w.setCell ⟨g, 0, none⟩ u).setCell ⟨g, 1, none⟩ v).setCell ⟨g, 2, none⟩ x).setCell ⟨g, 3, none⟩ y) := below_set (below_set (below_set (below_set h hg _ _) hg _ _) hg _ _) hg _ _
/-- The digits of a fraction do not lie in this block. -/
def Off (r : FrR) (g : Nat) : Prop := (0 < r.n1 → ∀ ad, r.A1 = some ad → ad.block ≠ g) ∧ (0 < r.n2 → ∀ ad, r.A2 = some ad → ad.block ≠ g)
theorem Fg.far4 {w : World} {k g : Nat} {x : Rat} {r : FrR} (h : Fg w k x r) (hne : Off r g) {a b c d : Value} : Fg ((((w.setCell ⟨g, 0, none⟩ a).setCell ⟨g, 1, none⟩ b).setCell ⟨g, 2, none⟩ c).setCell ⟨g, 3, none⟩ d) k x r :=
  ⟨h.1.far4 hne.1, h.2.far4 hne.2⟩
theorem Fg.off_new {w : World} {k : Nat} {x : Rat} {r : FrR} (h : Fg w k x r) {g : Nat} (hg : w.heap.size ≤ g) : Off r g :=
  ⟨fun hp ad e => by have := h.1.lt hp e; omega, fun hp ad e => by have := h.2.lt hp e; omega⟩
theorem off_old {w : World} {r : FrR} (f1 : Fresh w r.A1 r.n1) (f2 : Fresh w r.A2 r.n2) {g : Nat} (hg : g < w.heap.size) : Off r g :=
  ⟨fun hp ad e => by have := f1 hp ad e; omega, fun hp ad e => by have := f2 hp ad e; omega⟩
theorem Fg.al {w : World} {k : Nat} {x : Rat} {r : FrR} (h : Fg w k x r) {o : Obj} : Fg (w.alloc o) k x r := ⟨h.1.al, h.2.al⟩
/-- The result's box of a fraction is filled with one that lay there before. -/
theorem fr_put {w w1 : World} {g : Nat} {t : TypeId} {o1 o2 o3 o4 : Value} (h : Blk w1 g t #[o1, o2, o3, o4]) (hg : w.heap.size ≤ g) (hb : Below w.heap.size w w1) (a b c d : Value) :
    ∃ wf, wf = (((w1.setCell ⟨g, 0, none⟩ a).setCell ⟨g, 1, none⟩ b).setCell ⟨g, 2, none⟩ c).setCell ⟨g, 3, none⟩ d ∧
      wf.cell? ⟨g, 0, none⟩ = some a ∧ wf.cell? ⟨g, 1, none⟩ = some b ∧ wf.cell? ⟨g, 2, none⟩ = some c ∧ wf.cell? ⟨g, 3, none⟩ = some d ∧ Below w.heap.size w wf := by
  have K := h.set4 (a := a) (b := b) (c := c) (d := d)
  exact ⟨_, rfl, K.cell 0, K.cell 1, K.cell 2, K.cell 3, below_4 hb hg⟩
section
variable {w : World} {k : Nat} {x y : Rat}
end
end Go.Proofs.YtikfjmdeeknalaaGreatDoor
