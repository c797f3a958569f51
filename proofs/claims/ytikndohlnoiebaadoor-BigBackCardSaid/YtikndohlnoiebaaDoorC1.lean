/- The walks of big's Add and Sub at right big integers. Conditions: lengths. -/
import Derived.Test.YtikndohlnoiebaaDoorBz
namespace Go.Proofs.YtikndohlnoiebaaDoor
set_option maxRecDepth 8000
open Go.RowKit

theorem Rep.neg {s x : Int} {l : List Nat} (h : Rep s l x) : Rep (-s) l (-x) := by
  refine ⟨h.norm, by rw [h.eq, Int.neg_mul], ?_⟩
  rcases h.sign with ⟨a, b⟩ | ⟨a, b⟩ | ⟨a, b⟩
  · exact .inr (.inl ⟨by omega, b⟩)
  · exact .inl ⟨by omega, b⟩
  · exact .inr (.inr ⟨by omega, b⟩)
set_option maxHeartbeats 4000000 in
theorem Add_any (s1 s2 : Int) (A1 A2 : Option Addr) (n1 n2 c1 c2 B1 B2 : Nat) (l1 l2 : List Nat) (x y : Int) (w : World) (h1 : Reads w B1 1 A1 n1 (dv l1)) (h2 : Reads w B2 1 A2 n2 (dv l2)) (r1 : Rep s1 l1 x) (r2 : Rep s2 l2 y) (hn1 : n1 ≤ 1048576) (hn2 : n2 ≤ 1048576) :
    Calls Tryd.prog 10 #[.agg #[.int .i64 s1, .slice A1 n1 c1], .agg #[.int .i64 s2, .slice A2 n2 c2]] w (BigOk w (x + y)) := by
  have H1 := Lib.hid h1
  have H2 := Lib.hid h2
  have R1 := Lib.hid r1
  have R2 := Lib.hid r2
  have K := Lib.hid (Three.new w s1 A1 n1 c1 s2 A2 n2 c2)
  have hs0 : -1 ≤ s2 ∧ s2 ≤ 1 := by rcases r2.sign with ⟨e, -⟩ | ⟨e, -⟩ | ⟨e, -⟩ <;> omega
  have hs1 := hs0.1
  have hs2 := hs0.2
  clear h1 h2 r1 r2 hs0
  go_enter Tryd.func10, Tryd.ntmps10
  go_wp2_with fail
  refine (right_rep R1.out A1 n1 c1 _ _ (H1.out.past (K.out.bl)) (by omega)).mono ?_
  rintro e w4 ⟨rfl, b4⟩
  have K4 := Lib.hid (K.out.past b4)
  obtain ⟨y0, y1, y2, y3, y4, y5, y6, y7⟩ := K4.out.cells
  clear b4 K
  go_wp2_with fail
  refine (right_rep R2.out A2 n2 c2 _ _ (H2.out.past (K4.out.bl)) (by omega)).mono ?_
  rintro e w5 ⟨rfl, b5⟩
  have K5 := Lib.hid (K4.out.past b5)
  clear y0 y1 y2 y3 y4 y5 y6 y7
  obtain ⟨y0, y1, y2, y3, y4, y5, y6, y7⟩ := K5.out.cells
  clear b5 K4
  go_wp2_with fail
  refine (sum_any s1 s2 A1 A2 n1 n2 c1 c2 _ _ l1 l2 x y w5 (H1.out.past (K5.out.bl)) (H2.out.past (K5.out.bl)) R1.out R2.out hn1 hn2).mono ?_
  rintro e w7 ⟨s', l, A', c', rfl, hc', hrep, hR, hF, hB⟩
  have K7 := Lib.hid (K5.out.past hB)
  clear y0 y1 y2 y3 y4 y5 y6 y7
  obtain ⟨z0, z1, z2, z3, z4, z5, z6, z7⟩ := K7.out.cells
  have HE := Lib.hid (K7.out.stored (fun hp ad e => Nat.lt_of_lt_of_le K5.out.lt (hF hp ad e)) hR hrep hc').ok
  clear hc' hrep hR hF hB
  go_wp2_with fail
  obtain ⟨e0, e1⟩ := two_cells K7.out.k3 (.int .i64 s') (.slice A' l.length c')
  refine bodyPost_ret (v := .tuple #[.agg #[.int .i64 s', .slice A' l.length c'], .int .i64 0]) (by simp [results, Tryd.results10, go_sem, e0, e1]) rfl ?_
  exact HE.out
set_option maxHeartbeats 4000000 in
theorem Sub_any (s1 s2 : Int) (A1 A2 : Option Addr) (n1 n2 c1 c2 B1 B2 : Nat) (l1 l2 : List Nat) (x y : Int) (w : World) (h1 : Reads w B1 1 A1 n1 (dv l1)) (h2 : Reads w B2 1 A2 n2 (dv l2)) (r1 : Rep s1 l1 x) (r2 : Rep s2 l2 y) (hn1 : n1 ≤ 1048576) (hn2 : n2 ≤ 1048576) :
    Calls Tryd.prog 9 #[.agg #[.int .i64 s1, .slice A1 n1 c1], .agg #[.int .i64 s2, .slice A2 n2 c2]] w (BigOk w (x - y)) := by
  have H1 := Lib.hid h1
  have H2 := Lib.hid h2
  have R1 := Lib.hid r1
  have R2 := Lib.hid r2
  have K := Lib.hid (Three.new w s1 A1 n1 c1 s2 A2 n2 c2)
  have hs0 : -1 ≤ s2 ∧ s2 ≤ 1 := by rcases r2.sign with ⟨e, -⟩ | ⟨e, -⟩ | ⟨e, -⟩ <;> omega
  have hs1 := hs0.1
  have hs2 := hs0.2
  clear h1 h2 r1 r2 hs0
  go_enter Tryd.func9, Tryd.ntmps9
  go_wp2_with fail
  refine (right_rep R1.out A1 n1 c1 _ _ (H1.out.past (K.out.bl)) (by omega)).mono ?_
  rintro e w4 ⟨rfl, b4⟩
  have K4 := Lib.hid (K.out.past b4)
  obtain ⟨y0, y1, y2, y3, y4, y5, y6, y7⟩ := K4.out.cells
  clear b4 K
  go_wp2_with fail
  refine (right_rep R2.out A2 n2 c2 _ _ (H2.out.past (K4.out.bl)) (by omega)).mono ?_
  rintro e w5 ⟨rfl, b5⟩
  have K5 := Lib.hid (K4.out.past b5)
  clear y0 y1 y2 y3 y4 y5 y6 y7
  obtain ⟨y0, y1, y2, y3, y4, y5, y6, y7⟩ := K5.out.cells
  clear b5 K4
  go_wp2_with fail
  refine (sum_any s1 (-s2) A1 A2 n1 n2 c1 c2 _ _ l1 l2 x (-y) w5 (H1.out.past (K5.out.bl)) (H2.out.past (K5.out.bl)) R1.out R2.out.neg hn1 hn2).mono ?_
  rintro e w7 ⟨s', l, A', c', rfl, hc', hrep, hR, hF, hB⟩
  have K7 := Lib.hid (K5.out.past hB)
  clear y0 y1 y2 y3 y4 y5 y6 y7
  obtain ⟨z0, z1, z2, z3, z4, z5, z6, z7⟩ := K7.out.cells
  have HE := Lib.hid (K7.out.stored (fun hp ad e => Nat.lt_of_lt_of_le K5.out.lt (hF hp ad e)) hR hrep hc').ok
  clear hc' hrep hR hF hB
  go_wp2_with fail
  obtain ⟨e0, e1⟩ := two_cells K7.out.k3 (.int .i64 s') (.slice A' l.length c')
  refine bodyPost_ret (v := .tuple #[.agg #[.int .i64 s', .slice A' l.length c'], .int .i64 0]) (by simp [results, Tryd.results9, go_sem, e0, e1]) rfl ?_
  exact HE.out
end Go.Proofs.YtikndohlnoiebaaDoor
