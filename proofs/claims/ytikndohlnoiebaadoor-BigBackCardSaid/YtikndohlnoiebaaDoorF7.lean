/- The walk of the law BigBack: what lies ahead of it. Conditions: the arguments' memory, the tables of math/bits and strconv. -/
import Derived.Test.YtikndohlnoiebaaDoorF6
import Derived.Deep.DeepCutAuto
namespace Go.Proofs.YtikndohlnoiebaaDoor
set_option maxRecDepth 8000
open Go.RowKit

theorem BxA.st1 {w0 w : World} {a : ArgR} {k1 : Nat} {x1 : Int} (h : BxA w0 w [a]) (h1 : Bg w0 k1 x1 a.s a.A a.n) : StR w0 w [⟨w0.heap.size, k1, x1, a.s, a.A, a.n, a.c⟩] := by
  refine ⟨h.bl, fun r hr => ?_, fun r hr => ?_, List.pairwise_singleton _ _, fun r hr r' hr' hp ad e => ?_⟩
  · rw [List.mem_singleton] at hr; subst hr
    exact ⟨h.bx 0 _ rfl, h1.past h.bl⟩
  · rw [List.mem_singleton] at hr; subst hr
    exact Nat.le_refl _
  · rw [List.mem_singleton] at hr hr'; subst hr; subst hr'
    have := h1.lt hp e
    dsimp only
    omega
set_option maxHeartbeats 2000000 in
theorem text_W {w w' : World} {r : ArgR} {l : List Int} (h : BigArg w r l) (hn : r.n ≤ 1073741824) (hb : Below w.heap.size w w') (hr : rightB r.s l = false) :
    Calls Tryd.prog 14 #[.agg #[.int .i64 r.s, .slice r.A r.n r.c]] w' fun e w2 => e = .returned (.string ⟨#[]⟩) ∧ Below w'.heap.size w' w2 := by
  obtain ⟨s, A, n, c⟩ := r
  dsimp only at *
  have HB0 : Hid (Below w'.heap.size w' (w'.alloc (.cells #[.int .i64 s, .slice A n c] 24))) := (Below.refl _ _).alloc (Nat.le_refl _) _
  have K := Lib.hid (Blk.new w' 24 #[.int .i64 s, .slice A n c])
  have HR : Hid (∀ wx, Below w'.heap.size w' wx → Calls Tryd.prog 7 #[.agg #[.int .i64 s, .slice A n c]] wx fun e w2 => e = .returned (.bool false) ∧ Below wx.heap.size wx w2) := fun wx hx => right_is (r := ⟨s, A, n, c⟩) h hn (hb.trans (hx.mono hb.size)) hr
  have y0 := K.out.c0
  have y1 := K.out.c1
  clear h hb hr hn
  go_enter Tryd.func14, Tryd.ntmps14
  go_wp2_with fail
  refine (HR.out _ HB0.out).mono ?_
  rintro e w2 ⟨rfl, hb⟩
  have HB2 := Lib.hid (HB0.out.trans (hb.mono HB0.out.size))
  clear hb
  go_wp2_with fail
  go_ret
  exact ⟨rfl, HB2.out⟩
/-- A text of a big integer, and a digit 7. -/
theorem txt7 {x : Int} (hx : x ≠ 0) : txtOk (Lib.itoa x ++ [55]) = some (x * 10 + 7 * (if 0 < x then 1 else -1)) := by
  have key : ∀ u : Nat, 0 < u → Lib.decDigits u ++ [55] = Lib.decDigits (10 * u + 7) := fun u hu => by
    rw [dc_big (n := 10 * u + 7) (by omega), show (10 * u + 7) / 10 = u by omega, show (10 * u + 7) % 10 = 7 by omega]
    rfl
  rcases Int.lt_or_gt_of_ne hx with h | h
  · obtain ⟨u, rfl⟩ : ∃ u : Nat, x = -(u : Int) := ⟨x.natAbs, by omega⟩
    have hu : 0 < u := by omega
    rw [Lib.itoa_neg u hu, List.cons_append, key u hu, ← Lib.itoa_neg (10 * u + 7) (by omega), itoa_txtOk, if_neg (by omega)]
    congr 1
    omega
  · obtain ⟨u, rfl⟩ : ∃ u : Nat, x = (u : Int) := ⟨x.toNat, by omega⟩
    have hu : 0 < u := by omega
    rw [Lib.itoa_nonneg, key u hu, ← Lib.itoa_nonneg, itoa_txtOk, if_pos h]
    congr 1
    omega
end Go.Proofs.YtikndohlnoiebaaDoor
